/- Texts joined: Ka Kb. -/
import Derived.Test.YtngbfjimmdkfeaaPXN3
import Derived.Test.YtngbfjimmdkfeaaPXS2
set_option linter.unusedVariables false
set_option linter.unusedSimpArgs false
namespace Go.Proofs.Ytngbfjimmdkfeaa
open Go.RowKit

/-- What an edge reads. -/
def lab (e : Eg) (u : List UInt8) : Prop := (e.q = [] ∧ u = []) ∨ ∃ c : UInt8, u = [c] ∧ inSp e.q c.toNat = true
/-- A way from a state to another, along these bytes. -/
inductive Pt (es : List Eg) : Int → List UInt8 → Int → Prop where
  | nil (a : Int) : Pt es a [] a
  | step {e : Eg} {u s : List UInt8} {z : Int} (he : e ∈ es) (hl : lab e u) (h : Pt es e.t s z) : Pt es e.f (u ++ s) z
theorem Pt.mono {A B : List Eg} (hs : ∀ e ∈ A, e ∈ B) {a z : Int} {s : List UInt8} (h : Pt A a s z) : Pt B a s z := by
  induction h with
  | nil a => exact .nil a
  | step he hl _ ih => exact .step (hs _ he) hl ih
theorem Pt.trans {A : List Eg} {a b z : Int} {s t : List UInt8} (h : Pt A a s b) (k : Pt A b t z) : Pt A a (s ++ t) z := by
  induction h with
  | nil a => exact k
  | step he hl _ ih => rw [List.append_assoc]; exact .step he hl (ih k)
theorem Pt.one {A : List Eg} {e : Eg} {u : List UInt8} (he : e ∈ A) (hl : lab e u) : Pt A e.f u e.t := by
  have := Pt.step he hl (Pt.nil (es := A) e.t)
  rwa [List.append_nil] at this

theorem Pt.inv {es : List Eg} {a z : Int} {s : List UInt8} (h : Pt es a s z) : (s = [] ∧ a = z) ∨ ∃ e u v, e ∈ es ∧ e.f = a ∧ lab e u ∧ s = u ++ v ∧ Pt es e.t v z := by
  cases h with
  | nil => exact .inl ⟨rfl, rfl⟩
  | step he hl h => exact .inr ⟨_, _, _, he, rfl, hl, rfl, h⟩
/-- A fragment: new states n to n' - 1, from the state f to the state z. -/
structure Frg (F : List Eg) (f n n' z : Int) (L : List UInt8 → Prop) : Prop where
  ed : ∀ e ∈ F, (e.f = f ∨ (n ≤ e.f ∧ e.f < n')) ∧ n ≤ e.t ∧ e.t < n'
  zin : n ≤ z ∧ z < n'
  lang : ∀ s, Pt F f s z ↔ L s
theorem Frg.congr {F : List Eg} {f n n' z : Int} {L L' : List UInt8 → Prop} (h : Frg F f n n' z L) (e : ∀ s, L s ↔ L' s) : Frg F f n n' z L' := ⟨h.ed, h.zin, fun s => (h.lang s).trans (e s)⟩
theorem frg_edge (f n : Int) (q : List Sp) (hf : f < n) : Frg [⟨f, n, q⟩] f n (n + 1) n (lab ⟨f, n, q⟩) := by
  refine ⟨fun e he => ?_, by omega, fun s => ⟨fun h => ?_, fun h => Pt.one (e := ⟨f, n, q⟩) (by simp) h⟩⟩
  · rw [List.mem_singleton.1 he]; exact ⟨.inl rfl, by simp only; omega⟩
  · rcases h.inv with ⟨_, e⟩ | ⟨e, u, v, he, _, hl, rfl, w⟩
    · omega
    · obtain rfl := List.mem_singleton.1 he
      rcases w.inv with ⟨rfl, _⟩ | ⟨e2, _, _, he2, e3, _⟩
      · rw [List.append_nil]; exact hl
      · obtain rfl := List.mem_singleton.1 he2
        simp only at e3
        omega
/-- Two parts, one behind the other: those of B lead into D, and stay there. -/
theorem split_at {A B es : List Eg} {D : Int → Prop} {m : Int} (hs : ∀ e ∈ es, e ∈ A ∨ e ∈ B) (hA : ∀ e ∈ A, ¬ D e.f ∧ ¬ D e.t) (hB : ∀ e ∈ B, D e.t ∧ (e.f = m ∨ D e.f)) {a z : Int} {s : List UInt8} (h : Pt es a s z) (hz : D z) :
    (¬ D a → ∃ u v, s = u ++ v ∧ Pt A a u m ∧ Pt B m v z) ∧ (D a → Pt B a s z) := by
  induction h with
  | nil a => exact ⟨fun h => absurd hz h, fun _ => .nil a⟩
  | step he hl _ ih =>
    obtain ⟨i1, i2⟩ := ih hz
    rcases hs _ he with h1 | h1
    · refine ⟨fun _ => ?_, fun hd => absurd hd (hA _ h1).1⟩
      obtain ⟨u, v, rfl, p, q⟩ := i1 (hA _ h1).2
      exact ⟨_, v, by rw [List.append_assoc], .step h1 hl p, q⟩
    · obtain ⟨b1, b2⟩ := hB _ h1
      refine ⟨fun hd => ?_, fun _ => .step h1 hl (i2 b1)⟩
      rcases b2 with b2 | b2
      · exact ⟨[], _, rfl, by rw [b2]; exact .nil m, by rw [← b2]; exact .step h1 hl (i2 b1)⟩
      · exact absurd b2 hd
theorem frg_cat {F G : List Eg} {f n n1 n2 y z : Int} {L M : List UInt8 → Prop} (hf : f < n) (h : Frg F f n n1 y L) (k : Frg G y n1 n2 z M) : Frg (F ++ G) f n n2 z (fun s => ∃ u v, s = u ++ v ∧ L u ∧ M v) := by
  have hy := h.zin
  have hz := k.zin
  refine ⟨fun e he => ?_, by omega, fun s => ⟨fun p => ?_, ?_⟩⟩
  · rcases List.mem_append.1 he with he | he
    · have := h.ed e he; omega
    · have := k.ed e he; omega
  · have := (split_at (A := F) (B := G) (D := fun t => n1 ≤ t) (m := y) (fun e he => List.mem_append.1 he) (fun e he => by have := h.ed e he; omega) (fun e he => by have := k.ed e he; omega) p (by omega)).1 (by omega)
    obtain ⟨u, v, e, p1, p2⟩ := this
    exact ⟨u, v, e, (h.lang u).1 p1, (k.lang v).1 p2⟩
  · rintro ⟨u, v, rfl, h1, h2⟩
    exact (((h.lang u).2 h1).mono (fun e he => List.mem_append_left _ he)).trans (((k.lang v).2 h2).mono (fun e he => List.mem_append_right _ he))
/-- An edge by none ahead. -/
theorem frg_ahead {F : List Eg} {f n n' z : Int} {L : List UInt8 → Prop} (hf : f < n) (h : Frg F n (n + 1) n' z L) : Frg (⟨f, n, []⟩ :: F) f n n' z L :=
  (frg_cat hf (frg_edge f n [] hf) h).congr (fun s => ⟨fun ⟨u, v, e, h1, h2⟩ => by
    rcases h1 with ⟨_, rfl⟩ | ⟨c, _, h1⟩
    · rw [e]; exact h2
    · simp [inSp] at h1, fun h => ⟨[], s, rfl, .inl ⟨rfl, rfl⟩, h⟩⟩)

/-- Several fragments from one state, each with an end of its own. -/
structure Frs (F : List Eg) (f n n' : Int) (zs : List Int) (Ls : List (List UInt8 → Prop)) : Prop where
  ed : ∀ e ∈ F, (e.f = f ∨ (n ≤ e.f ∧ e.f < n')) ∧ n ≤ e.t ∧ e.t < n'
  zin : ∀ z ∈ zs, n ≤ z ∧ z < n'
  le : n ≤ n'
  len : zs.length = Ls.length
  lang : ∀ (i : Nat) (z : Int) (L : List UInt8 → Prop), zs[i]? = some z → Ls[i]? = some L → ∀ s, Pt F f s z ↔ L s
theorem frs_nil (f n : Int) : Frs [] f n n [] [] := ⟨fun e h => (by cases h), fun z h => (by cases h), Int.le_refl _, rfl, fun i z L h => by simp at h⟩
/-- Ways from within one of two fragments that lie side by side stay there. -/
theorem par_in {A B : List Eg} {f n n1 n2 : Int} (hf : f < n) (hn : n ≤ n1) (hA : ∀ e ∈ A, (e.f = f ∨ (n ≤ e.f ∧ e.f < n1)) ∧ n ≤ e.t ∧ e.t < n1) (hB : ∀ e ∈ B, (e.f = f ∨ (n1 ≤ e.f ∧ e.f < n2)) ∧ n1 ≤ e.t ∧ e.t < n2) {a z : Int} {s : List UInt8} (h : Pt (A ++ B) a s z) :
    (n ≤ a → a < n1 → Pt A a s z ∧ n ≤ z ∧ z < n1) ∧ (n1 ≤ a → Pt B a s z ∧ n1 ≤ z) := by
  induction h with
  | nil a => exact ⟨fun h1 h2 => ⟨.nil a, h1, h2⟩, fun h1 => ⟨.nil a, h1⟩⟩
  | step he hl _ ih =>
    obtain ⟨i1, i2⟩ := ih
    rcases List.mem_append.1 he with h1 | h1
    · have := hA _ h1
      exact ⟨fun _ _ => ⟨.step h1 hl (i1 (by omega) (by omega)).1, (i1 (by omega) (by omega)).2⟩, fun _ => by omega⟩
    · have := hB _ h1
      exact ⟨fun _ _ => by omega, fun _ => ⟨.step h1 hl (i2 (by omega)).1, (i2 (by omega)).2⟩⟩
theorem par_from {A B : List Eg} {f n n1 n2 : Int} (hf : f < n) (hn : n ≤ n1) (hA : ∀ e ∈ A, (e.f = f ∨ (n ≤ e.f ∧ e.f < n1)) ∧ n ≤ e.t ∧ e.t < n1) (hB : ∀ e ∈ B, (e.f = f ∨ (n1 ≤ e.f ∧ e.f < n2)) ∧ n1 ≤ e.t ∧ e.t < n2) {z : Int} {s : List UInt8} (h : Pt (A ++ B) f s z) :
    (n ≤ z → z < n1 → Pt A f s z) ∧ (n1 ≤ z → Pt B f s z) := by
  generalize ha : f = a at h
  cases h with
  | nil => exact ⟨fun h1 => by omega, fun h1 => by omega⟩
  | step he hl h =>
    rcases List.mem_append.1 he with h1 | h1
    · have h2 := hA _ h1
      have h3 := (par_in hf hn hA hB h).1 (by omega) (by omega)
      exact ⟨fun _ _ => .step h1 hl h3.1, fun _ => by omega⟩
    · have h2 := hB _ h1
      have h3 := (par_in hf hn hA hB h).2 (by omega)
      exact ⟨fun _ _ => by omega, fun _ => .step h1 hl h3.1⟩
theorem frs_cons {F G : List Eg} {f n n1 n2 z1 : Int} {L : List UInt8 → Prop} {zs : List Int} {Ls : List (List UInt8 → Prop)} (hf : f < n) (h : Frg F f n n1 z1 L) (k : Frs G f n1 n2 zs Ls) : Frs (F ++ G) f n n2 (z1 :: zs) (L :: Ls) := by
  have hz := h.zin
  have hle := k.le
  refine ⟨fun e he => ?_, fun z hz2 => ?_, by omega, by simp [k.len], fun i z M e1 e2 s => ?_⟩
  · rcases List.mem_append.1 he with he | he
    · have := h.ed e he; omega
    · have := k.ed e he; omega
  · rcases List.mem_cons.1 hz2 with rfl | hz2
    · omega
    · have := k.zin z hz2; omega
  · cases i with
    | zero =>
      simp only [List.getElem?_cons_zero, Option.some.injEq] at e1 e2
      subst e1 e2
      exact ⟨fun p => (h.lang s).1 ((par_from hf (by omega) h.ed k.ed p).1 (by omega) (by omega)), fun p => ((h.lang s).2 p).mono (fun e he => List.mem_append_left _ he)⟩
    | succ i =>
      simp only [List.getElem?_cons_succ] at e1 e2
      have hzi := k.zin z (List.mem_of_getElem? e1)
      exact ⟨fun p => (k.lang i z M e1 e2 s).1 ((par_from hf (by omega) h.ed k.ed p).2 (by omega)), fun p => ((k.lang i z M e1 e2 s).2 p).mono (fun e he => List.mem_append_right _ he)⟩
/-- Ways to a new state to which the ends are led. -/
theorem join_way {F G : List Eg} {n' : Int} {zs : List Int} (hF : ∀ e ∈ F, e.f < n' ∧ e.t < n') (hz : ∀ z ∈ zs, z < n') (hG : ∀ e : Eg, e ∈ G ↔ ∃ z ∈ zs, e = ⟨z, n', []⟩) {a : Int} {s : List UInt8} {y : Int} (p : Pt (F ++ G) a s y) : y = n' → (a = n' → s = []) ∧ (a < n' → ∃ z ∈ zs, Pt F a s z) := by
  induction p with
  | nil a => exact fun e => ⟨fun _ => rfl, fun h => by omega⟩
  | step he hl _ ih =>
    intro e
    obtain ⟨i1, i2⟩ := ih e
    rcases List.mem_append.1 he with h1 | h1
    · have := hF _ h1
      refine ⟨fun e => by omega, fun _ => ?_⟩
      obtain ⟨z, hz, p⟩ := i2 (by omega)
      exact ⟨z, hz, .step h1 hl p⟩
    · obtain ⟨z, hz1, he⟩ := (hG _).1 h1
      rw [he] at i1 i2 hl ⊢
      have := hz z hz1
      refine ⟨fun e => by simp only at e; omega, fun _ => ⟨z, hz1, ?_⟩⟩
      have hs := i1 rfl
      subst hs
      rcases hl with ⟨_, rfl⟩ | ⟨c, _, hc⟩
      · exact .nil z
      · simp [inSp] at hc
theorem join_back {F G : List Eg} {n' : Int} {zs : List Int} (hG : ∀ e : Eg, e ∈ G ↔ ∃ z ∈ zs, e = ⟨z, n', []⟩) {a z : Int} {s : List UInt8} (hz : z ∈ zs) (p : Pt F a s z) : Pt (F ++ G) a s n' := by
  have q : Pt (F ++ G) z [] n' := Pt.one (e := ⟨z, n', []⟩) (List.mem_append_right _ ((hG _).2 ⟨_, hz, rfl⟩)) (.inl ⟨rfl, rfl⟩)
  have := (p.mono (B := F ++ G) (fun e he => List.mem_append_left _ he)).trans q
  rwa [List.append_nil] at this
/-- The ends are led to one new state. -/
theorem frg_join {F G : List Eg} {f n n' : Int} {zs : List Int} {Ls : List (List UInt8 → Prop)} (hf : f < n) (h : Frs F f n n' zs Ls) (hG : ∀ e : Eg, e ∈ G ↔ ∃ z ∈ zs, e = ⟨z, n', []⟩) : Frg (F ++ G) f n (n' + 1) n' (fun s => ∃ L ∈ Ls, L s) := by
  have hle := h.le
  refine ⟨fun e he => ?_, by omega, fun s => ⟨fun p => ?_, ?_⟩⟩
  · rcases List.mem_append.1 he with he | he
    · have := h.ed e he; omega
    · obtain ⟨z, hz, rfl⟩ := (hG e).1 he
      have := h.zin z hz
      simp only; omega
  · obtain ⟨z, hz, q⟩ := (join_way (fun e he => by have := h.ed e he; omega) (fun z hz => (h.zin z hz).2) hG p rfl).2 (by omega)
    obtain ⟨i, hi⟩ := List.mem_iff_getElem?.1 hz
    have hlt : i < Ls.length := by rw [← h.len]; exact (List.getElem?_eq_some_iff.1 hi).1
    exact ⟨Ls[i], List.getElem_mem hlt, (h.lang i z _ hi (List.getElem?_eq_getElem hlt) s).1 q⟩
  · rintro ⟨L, hL, hs⟩
    obtain ⟨i, hi⟩ := List.mem_iff_getElem?.1 hL
    have hlt : i < zs.length := by rw [h.len]; exact (List.getElem?_eq_some_iff.1 hi).1
    exact join_back hG (List.getElem_mem hlt) ((h.lang i zs[i] L (List.getElem?_eq_getElem hlt) hi s).2 hs)
/-- Nothing leads back to where a fragment begins. -/
theorem frg_self {F : List Eg} {f n n' : Int} (hf : f < n) (h : ∀ e ∈ F, (e.f = f ∨ (n ≤ e.f ∧ e.f < n')) ∧ n ≤ e.t ∧ e.t < n') {s : List UInt8} (p : Pt F f s f) : s = [] := by
  have key : ∀ {a : Int} {s : List UInt8} {y : Int}, Pt F a s y → y = f → a = f ∧ s = [] := by
    intro a s y p
    induction p with
    | nil a => exact fun e => ⟨e, rfl⟩
    | step he _ _ ih => intro e; have := (ih e).1; have := h _ he; omega
  exact (key p rfl).2
theorem frg_opt {F : List Eg} {f n n1 b : Int} {L : List UInt8 → Prop} (hf : f < n) (h : Frg F f n n1 b L) : Frg (F ++ [⟨b, n1, []⟩, ⟨f, n1, []⟩]) f n (n1 + 1) n1 (fun s => s = [] ∨ L s) := by
  have hb := h.zin
  have hG : ∀ e : Eg, e ∈ [(⟨b, n1, []⟩ : Eg), ⟨f, n1, []⟩] ↔ ∃ z ∈ [b, f], e = ⟨z, n1, []⟩ := fun e => by simp
  refine ⟨fun e he => ?_, by omega, fun s => ⟨fun p => ?_, ?_⟩⟩
  · rcases List.mem_append.1 he with he | he
    · have := h.ed e he; omega
    · obtain ⟨z, hz, rfl⟩ := (hG e).1 he
      simp only [List.mem_cons, List.not_mem_nil, or_false] at hz
      simp only; omega
  · obtain ⟨z, hz, q⟩ := (join_way (fun e he => by have := h.ed e he; omega) (fun z hz => by simp only [List.mem_cons, List.not_mem_nil, or_false] at hz; omega) hG p rfl).2 (by omega)
    simp only [List.mem_cons, List.not_mem_nil, or_false] at hz
    rcases hz with rfl | rfl
    · exact .inr ((h.lang s).1 q)
    · exact .inl (frg_self hf h.ed q)
  · rintro (rfl | hs)
    · exact join_back hG (z := f) (by simp) (.nil f)
    · exact join_back hG (z := b) (by simp) ((h.lang s).2 hs)
/-- An edge by none ahead of what may lead back to where it begins. -/
theorem frg_ahead2 {G : List Eg} {f a n' z : Int} {L : List UInt8 → Prop} (hf : f < a) (h : Frg G a a n' z L) : Frg (⟨f, a, []⟩ :: G) f a n' z L := by
  have hz := h.zin
  have key : ∀ {p : Int} {s : List UInt8} {y : Int}, Pt (⟨f, a, []⟩ :: G) p s y → a ≤ p → Pt G p s y := by
    intro p s y w
    induction w with
    | nil a => exact fun _ => .nil a
    | step he hl _ ih =>
      intro hp
      rcases List.mem_cons.1 he with h1 | h1
      · rw [h1] at hp; simp only at hp; omega
      · exact .step h1 hl (ih (by have := h.ed _ h1; omega))
  refine ⟨fun e he => ?_, hz, fun s => ⟨fun p => ?_, fun m => ?_⟩⟩
  · rcases List.mem_cons.1 he with rfl | he
    · exact ⟨.inl rfl, Int.le_refl _, by show a < n'; omega⟩
    · have := h.ed e he; omega
  · rcases p.inv with ⟨_, e⟩ | ⟨e, u, v, he, h1, hl, rfl, w⟩
    · omega
    · rcases List.mem_cons.1 he with rfl | h2
      · have := key w (Int.le_refl _)
        rcases hl with ⟨_, rfl⟩ | ⟨c, _, hc⟩
        · exact (h.lang _).1 this
        · simp [inSp] at hc
      · have := h.ed _ h2; omega
  · exact Pt.step (e := ⟨f, a, []⟩) (u := []) (by simp) (.inl ⟨rfl, rfl⟩) (((h.lang s).2 m).mono (fun e he => List.mem_cons_of_mem _ he))
/-- A loop: the end leads back. Ways back to the beginning read the language, any times. -/
theorem loop_way {F : List Eg} {a n n1 b : Int} {L : List UInt8 → Prop} (ha : a < n) (h : Frg F a n n1 b L) : ∀ {p : Int} {s : List UInt8} {z : Int}, Pt (F ++ [⟨b, a, []⟩]) p s z →
    (z = a → (p = a → Star L s) ∧ (n ≤ p → ∃ u v, s = u ++ v ∧ Pt F p u b ∧ Star L v)) := by
  have hb := h.zin
  intro p s z w
  induction w with
  | nil a => exact fun e => ⟨fun _ => .nil, fun h => by omega⟩
  | step he hl _ ih =>
    intro e
    obtain ⟨i1, i2⟩ := ih e
    rcases List.mem_append.1 he with h1 | h1
    · have h2 := h.ed _ h1
      obtain ⟨u, v, rfl, q1, q2⟩ := i2 (by omega)
      refine ⟨fun e' => ?_, fun _ => ⟨_, v, by rw [List.append_assoc], .step h1 hl q1, q2⟩⟩
      rw [← List.append_assoc]
      exact .app ((h.lang _).1 (by rw [← e']; exact .step h1 hl q1)) q2
    · rw [List.mem_singleton.1 h1] at i1 i2 hl ⊢
      rcases hl with ⟨_, rfl⟩ | ⟨c, _, hc⟩
      · exact ⟨fun e' => by simp only at e'; omega, fun _ => ⟨[], _, rfl, .nil b, i1 rfl⟩⟩
      · simp [inSp] at hc
theorem star_way {F : List Eg} {a n n1 b : Int} {L : List UInt8 → Prop} (h : Frg F a n n1 b L) {s : List UInt8} (k : Star L s) : Pt (F ++ [⟨b, a, []⟩]) a s a := by
  induction k with
  | nil => exact .nil a
  | app hu _ ih =>
    have p := ((h.lang _).2 hu).mono (B := F ++ [⟨b, a, []⟩]) (fun e he => List.mem_append_left _ he)
    have q : Pt (F ++ [⟨b, a, []⟩]) b [] a := Pt.one (e := ⟨b, a, []⟩) (by simp) (.inl ⟨rfl, rfl⟩)
    have := p.trans (q.trans ih)
    simpa using this
/-- The way out of a loop. -/
theorem loop_out {F : List Eg} {a n n1 b x : Int} {L M : List UInt8 → Prop} (ha : a < n) (h : Frg F a n n1 b L) (hx : x = a ∨ (n ≤ x ∧ x < n1)) (hM : ∀ s, Pt (F ++ [⟨b, a, []⟩]) a s x ↔ M s) : Frg ((F ++ [⟨b, a, []⟩]) ++ [⟨x, n1, []⟩]) a a (n1 + 1) n1 M := by
  have hb := h.zin
  refine ⟨fun e he => ?_, by omega, fun s => ⟨fun p => ?_, fun m => ?_⟩⟩
  · rcases List.mem_append.1 he with he | he
    · rcases List.mem_append.1 he with he | he
      · have := h.ed e he; omega
      · rw [List.mem_singleton.1 he]; simp only; omega
    · rw [List.mem_singleton.1 he]; simp only; omega
  · have := (split_at (A := F ++ [⟨b, a, []⟩]) (B := [⟨x, n1, []⟩]) (D := fun t => n1 ≤ t) (m := x) (fun e he => List.mem_append.1 he) (fun e he => by
      rcases List.mem_append.1 he with he | he
      · have := h.ed e he; omega
      · rw [List.mem_singleton.1 he]; simp only; omega) (fun e he => by rw [List.mem_singleton.1 he]; simp) p (by omega)).1 (by omega)
    obtain ⟨u, v, rfl, p1, p2⟩ := this
    have hv : v = [] := by
      have := ((frg_edge x n1 [] (by omega)).lang v).1 p2
      rcases this with ⟨_, rfl⟩ | ⟨c, _, hc⟩
      · rfl
      · simp [inSp] at hc
    subst hv
    rw [List.append_nil]
    exact (hM u).1 p1
  · have p := ((hM s).2 m).mono (B := (F ++ [⟨b, a, []⟩]) ++ [⟨x, n1, []⟩]) (fun e he => List.mem_append_left _ he)
    have q : Pt ((F ++ [⟨b, a, []⟩]) ++ [⟨x, n1, []⟩]) x [] n1 := Pt.one (e := ⟨x, n1, []⟩) (by simp) (.inl ⟨rfl, rfl⟩)
    have := p.trans q
    rwa [List.append_nil] at this
end Go.Proofs.Ytngbfjimmdkfeaa

namespace Go.Proofs.Ytngbfjimmdkfeaa
open Go.RowKit

/-- What a making lays down is a fragment. -/
def MkF (g : Nat → Bs → Nat × Bs) (L : List UInt8 → Prop) : Prop :=
  ∀ (a : Nat) (s : Bs), a < s.1 → ∃ F, (g a s).2.2 = s.2 ++ F ∧ Frg F (a : Int) (s.1 : Int) ((g a s).2.1 : Int) ((g a s).1 : Int) L
def MkS (g : Nat → Bs → List Nat × Bs) (Ls : List (List UInt8 → Prop)) : Prop :=
  ∀ (a : Nat) (s : Bs), a < s.1 → ∃ F, (g a s).2.2 = s.2 ++ F ∧ Frs F (a : Int) (s.1 : Int) ((g a s).2.1 : Int) ((g a s).1.map (fun v : Nat => (v : Int))) Ls
theorem MkF.congr {g : Nat → Bs → Nat × Bs} {L L' : List UInt8 → Prop} (h : MkF g L) (e : ∀ s, L s ↔ L' s) : MkF g L' := fun a s ha => by
  obtain ⟨F, h1, h2⟩ := h a s ha
  exact ⟨F, h1, h2.congr e⟩
theorem mk_grw (q : List Sp) : MkF (fun f s => grw f q s) (fun u => (q = [] ∧ u = []) ∨ ∃ c : UInt8, u = [c] ∧ inSp q c.toNat = true) := fun a s ha =>
  ⟨[⟨(a : Int), (s.1 : Int), q⟩], rfl, frg_edge _ _ q (by omega)⟩
theorem lnkAll_eq (e : Nat) : ∀ (l : List Nat) (s : Bs), lnkAll e l s = (s.1, s.2 ++ l.map (fun x : Nat => (⟨(x : Int), (e : Int), []⟩ : Eg)))
  | [], s => by simp [lnkAll]
  | x :: r, s => by rw [lnkAll, lnkAll_eq e r]; simp [lnk]
/-- An Alt's end. -/
theorem mk_alt {g : Nat → Bs → List Nat × Bs} {Ls : List (List UInt8 → Prop)} (h : MkS g Ls) (hne : Ls ≠ []) : MkF (fun f s => altEnd (g f s)) (fun s => ∃ L ∈ Ls, L s) := fun a s ha => by
  obtain ⟨F, h1, h2⟩ := h a s ha
  have hl := h2.len
  show ∃ F, (altEnd (g a s)).2.2 = s.2 ++ F ∧ Frg F (a : Int) (s.1 : Int) ((altEnd (g a s)).2.1 : Int) ((altEnd (g a s)).1 : Int) (fun s => ∃ L ∈ Ls, L s)
  generalize g a s = R at h1 h2 hl ⊢
  obtain ⟨zs, t⟩ := R
  cases zs with
  | nil => cases Ls with
    | nil => exact absurd rfl hne
    | cons _ _ => simp at hl
  | cons x r =>
    simp only [altEnd, grw, lnkAll_eq]
    refine ⟨F ++ (⟨(x : Int), (t.1 : Int), []⟩ :: r.map (fun y : Nat => (⟨(y : Int), (t.1 : Int), []⟩ : Eg))), by simp at h1; rw [h1]; simp, ?_⟩
    have := frg_join (G := ⟨(x : Int), (t.1 : Int), []⟩ :: r.map (fun y : Nat => (⟨(y : Int), (t.1 : Int), []⟩ : Eg))) (by omega) h2 (fun e => by
      simp only [List.mem_cons, List.mem_map, List.map_cons]
      constructor
      · rintro (rfl | ⟨y, hy, rfl⟩)
        · exact ⟨_, .inl rfl, rfl⟩
        · exact ⟨_, .inr ⟨y, hy, rfl⟩, rfl⟩
      · rintro ⟨z, (rfl | ⟨y, hy, rfl⟩), rfl⟩
        · exact .inl rfl
        · exact .inr ⟨y, hy, rfl⟩)
    simpa using this
/-- A loop, and the way out. -/
theorem mk_star {g : Nat → Bs → Nat × Bs} {L : List UInt8 → Prop} (h : MkF g L) : MkF (fun f s => grw (bLoop g f s).1.1 [] (bLoop g f s).2) (Star L) := fun a s ha => by
  obtain ⟨F, h1, h2⟩ := h s.1 (s.1 + 1, s.2 ++ [⟨(a : Int), (s.1 : Int), []⟩]) (by simp)
  simp only [bLoop, grw, lnk]
  generalize g s.1 (s.1 + 1, s.2 ++ [⟨(a : Int), (s.1 : Int), []⟩]) = R at h1 h2 ⊢
  obtain ⟨z, n1, es⟩ := R
  simp only at h1 h2 ⊢
  subst h1
  refine ⟨⟨(a : Int), (s.1 : Int), []⟩ :: ((F ++ [⟨(z : Int), (s.1 : Int), []⟩]) ++ [⟨(s.1 : Int), (n1 : Int), []⟩]), by simp, ?_⟩
  have hz := h2.zin
  have hl := loop_out (x := (s.1 : Int)) (M := Star L) (by simp only [Int.natCast_add]; omega) h2 (.inl rfl) (fun u => ⟨fun p => (loop_way (by simp only [Int.natCast_add]; omega) h2 p rfl).1 rfl, star_way h2⟩)
  simpa using frg_ahead2 (f := (a : Int)) (by omega) hl
/-- Ways to the end of a loop. -/
theorem plus_way {F : List Eg} {a n n1 b : Int} {L : List UInt8 → Prop} (ha : a < n) (h : Frg F a n n1 b L) (s : List UInt8) : Pt (F ++ [⟨b, a, []⟩]) a s b ↔ ∃ u v, s = u ++ v ∧ L u ∧ Star L v := by
  have hb := h.zin
  constructor
  · intro p
    have key : ∀ {p : Int} {s : List UInt8} {z : Int}, Pt (F ++ [⟨b, a, []⟩]) p s z → (z = b → (p = a → ∃ u v, s = u ++ v ∧ L u ∧ Star L v) ∧ (n ≤ p → ∃ u v, s = u ++ v ∧ Pt F p u b ∧ Star L v)) := by
      intro p s z w
      induction w with
      | nil c => exact fun e => ⟨fun e' => by omega, fun _ => ⟨[], [], rfl, by rw [e]; exact .nil b, .nil⟩⟩
      | step he hl _ ih =>
        intro e
        obtain ⟨i1, i2⟩ := ih e
        rcases List.mem_append.1 he with h1 | h1
        · have h2 := h.ed _ h1
          obtain ⟨u, v, rfl, q1, q2⟩ := i2 (by omega)
          refine ⟨fun e' => ⟨_, v, by rw [List.append_assoc], (h.lang _).1 (by rw [← e']; exact .step h1 hl q1), q2⟩, fun _ => ⟨_, v, by rw [List.append_assoc], .step h1 hl q1, q2⟩⟩
        · rw [List.mem_singleton.1 h1] at i1 i2 hl ⊢
          rcases hl with ⟨_, rfl⟩ | ⟨c, _, hc⟩
          · refine ⟨fun e' => by simp only at e'; omega, fun _ => ?_⟩
            obtain ⟨u, v, rfl, q1, q2⟩ := i1 rfl
            exact ⟨[], u ++ v, rfl, .nil b, .app q1 q2⟩
          · simp [inSp] at hc
    exact (key p rfl).1 rfl
  · rintro ⟨u, v, rfl, hu, hv⟩
    have up : ∀ {u : List UInt8}, L u → Pt (F ++ [⟨b, a, []⟩]) a u b := fun hu => ((h.lang _).2 hu).mono (fun e he => List.mem_append_left _ he)
    have back : Pt (F ++ [⟨b, a, []⟩]) b [] a := Pt.one (e := ⟨b, a, []⟩) (by simp) (.inl ⟨rfl, rfl⟩)
    refine (up hu).trans ?_
    clear hu
    induction hv with
    | nil => exact .nil b
    | app hu _ ih => have := back.trans ((up hu).trans ih); simpa using this
theorem mk_plus {g : Nat → Bs → Nat × Bs} {L : List UInt8 → Prop} (h : MkF g L) : MkF (fun f s => grw (bLoop g f s).1.2 [] (bLoop g f s).2) (fun s => ∃ u v, s = u ++ v ∧ L u ∧ Star L v) := fun a s ha => by
  obtain ⟨F, h1, h2⟩ := h s.1 (s.1 + 1, s.2 ++ [⟨(a : Int), (s.1 : Int), []⟩]) (by simp)
  simp only [bLoop, grw, lnk]
  generalize g s.1 (s.1 + 1, s.2 ++ [⟨(a : Int), (s.1 : Int), []⟩]) = R at h1 h2 ⊢
  obtain ⟨z, n1, es⟩ := R
  simp only at h1 h2 ⊢
  subst h1
  refine ⟨⟨(a : Int), (s.1 : Int), []⟩ :: ((F ++ [⟨(z : Int), (s.1 : Int), []⟩]) ++ [⟨(z : Int), (n1 : Int), []⟩]), by simp, ?_⟩
  have hz := h2.zin
  have hl := loop_out (x := (z : Int)) (M := fun s => ∃ u v, s = u ++ v ∧ L u ∧ Star L v) (by simp only [Int.natCast_add]; omega) h2 (.inr hz) (plus_way (by simp only [Int.natCast_add]; omega) h2)
  simpa using frg_ahead2 (f := (a : Int)) (by omega) hl
theorem mk_opt {g : Nat → Bs → Nat × Bs} {L : List UInt8 → Prop} (h : MkF g L) : MkF (bOpt g) (fun s => s = [] ∨ L s) := fun a s ha => by
  obtain ⟨F, h1, h2⟩ := h s.1 (s.1 + 1, s.2 ++ [⟨(a : Int), (s.1 : Int), []⟩]) (by simp)
  simp only [bOpt, grw, lnk]
  generalize g s.1 (s.1 + 1, s.2 ++ [⟨(a : Int), (s.1 : Int), []⟩]) = R at h1 h2 ⊢
  obtain ⟨z, n1, es⟩ := R
  simp only at h1 h2 ⊢
  subst h1
  refine ⟨(⟨(a : Int), (s.1 : Int), []⟩ :: F) ++ [⟨(z : Int), (n1 : Int), []⟩, ⟨(a : Int), (n1 : Int), []⟩], by simp, ?_⟩
  have := frg_opt (f := (a : Int)) (n := (s.1 : Int)) (by omega) (frg_ahead (f := (a : Int)) (n := (s.1 : Int)) (by omega) (by simpa using h2))
  simpa using this
/-- The languages of a list's expressions. -/
def lsF : Fo → List (List UInt8 → Prop)
  | .nil => []
  | .cons h k r => exL h (foL k) :: lsF r
theorem alt_ls : ∀ (f : Fo) (s : List UInt8), (foL f).alt s ↔ ∃ L ∈ lsF f, L s
  | .nil, s => by simp [foL, lsF]
  | .cons h k r, s => by
    have := alt_ls r s
    simp only [foL, lsF, List.mem_cons]
    rw [this]
    constructor
    · rintro (h1 | ⟨L, h1, h2⟩)
      · exact ⟨_, .inl rfl, h1⟩
      · exact ⟨L, .inr h1, h2⟩
    · rintro ⟨L, (rfl | h1), h2⟩
      · exact .inl h2
      · exact .inr ⟨L, h1, h2⟩
theorem bX_mk {h : Hd} {kids : Fo} (hp : plainB h kids.len = true) (hc : kids ≠ .nil → MkF (bF kids).cat (foL kids).cat) (ha : MkS (bF kids).alt (lsF kids)) (hf : kids.len = 1 → MkF (bF kids).fst (foL kids).fst) : MkF (bX h (bF kids)) (exL h (foL kids)) := by
  rcases plain_cases hp with ⟨rfl, rfl⟩ | ⟨h2, rfl, hne, _⟩ | ⟨h34, hl⟩ | ⟨h567, c, ck, rfl⟩
  · refine (mk_grw []).congr (fun s => ?_)
    simp [exL, inSp]
  · obtain ⟨k, q⟩ := h
    simp only at h2 hne
    subst h2
    refine (mk_grw q).congr (fun s => ?_)
    simp [exL, hne]
  · have hk : kids ≠ .nil := fun e => by rw [e] at hl; simp [Fo.len] at hl
    rcases h34 with rfl | rfl
    · exact (hc hk).congr (fun s => by simp [exL])
    · have hls : lsF kids ≠ [] := by
        cases kids with
        | nil => exact absurd rfl hk
        | cons _ _ _ => simp [lsF]
      exact (mk_alt ha hls).congr (fun s => by rw [← alt_ls]; simp [exL])
  · have h1 : (Fo.cons c ck .nil).len = 1 := rfl
    rcases h567 with rfl | rfl | rfl
    · exact (mk_star (hf h1)).congr (fun s => by simp [exL])
    · exact (mk_plus (hf h1)).congr (fun s => by simp [exL])
    · exact (mk_opt (hf h1)).congr (fun s => by simp [exL])
theorem bF_mk : ∀ (f : Fo), okF f → (f ≠ .nil → MkF (bF f).cat (foL f).cat) ∧ MkS (bF f).alt (lsF f) ∧ (f.len = 1 → MkF (bF f).fst (foL f).fst) := by
  intro f
  induction f with
  | nil => intro _; exact ⟨fun h => absurd rfl h, fun a s ha => ⟨[], by simp [bF], frs_nil _ _⟩, fun h => by simp [Fo.len] at h⟩
  | cons h k r ihk ihr =>
    rintro ⟨o1, o2, o3⟩
    obtain ⟨k1, k2, k3⟩ := ihk o2
    obtain ⟨r1, r2, _⟩ := ihr o3
    have hX := bX_mk o1 k1 k2 k3
    refine ⟨fun _ => ?_, fun a s ha => ?_, fun e => ?_⟩
    · by_cases hr : r = .nil
      · subst hr
        exact hX.congr (fun s => by simp [foL])
      · intro a s ha
        obtain ⟨F, h1, h2⟩ := hX a s ha
        have hz := h2.zin
        obtain ⟨G, h3, h4⟩ := r1 hr (bX h (bF k) a s).1 (bX h (bF k) a s).2 (by omega)
        refine ⟨F ++ G, ?_, (frg_cat (by omega) h2 h4)⟩
        show ((bF r).cat (bX h (bF k) a s).1 (bX h (bF k) a s).2).2.2 = _
        rw [h3, h1, List.append_assoc]
    · obtain ⟨F, h1, h2⟩ := hX s.1 (s.1 + 1, s.2 ++ [⟨(a : Int), (s.1 : Int), []⟩]) (by simp)
      have hz := h2.zin
      have hg : (grw a [] s) = (s.1, s.1 + 1, s.2 ++ [⟨(a : Int), (s.1 : Int), []⟩]) := rfl
      obtain ⟨G, h3, h4⟩ := r2 a (bX h (bF k) s.1 (s.1 + 1, s.2 ++ [⟨(a : Int), (s.1 : Int), []⟩])).2 (by simp at hz; omega)
      refine ⟨(⟨(a : Int), (s.1 : Int), []⟩ :: F) ++ G, ?_, ?_⟩
      · show ((bF r).alt a (bX h (bF k) (grw a [] s).1 (grw a [] s).2).2).2.2 = _
        rw [hg]
        simp only
        rw [h3, h1]
        simp
      · have h5 : Frg F (s.1 : Int) ((s.1 : Int) + 1) _ _ _ := h2
        exact frs_cons (by omega) (frg_ahead (f := (a : Int)) (by omega) h5) h4
    · have hr : r = .nil := by cases r with
        | nil => rfl
        | cons a b c => simp [Fo.len] at e
      subst hr
      exact hX
/-- What an expression makes reads what it matches. -/
theorem bE_mk (h : Hd) (kids : Fo) (hp : plainB h kids.len = true) (ho : okF kids) : MkF (bE h kids) (mL h kids) := by
  obtain ⟨k1, k2, k3⟩ := bF_mk kids ho
  exact bX_mk hp k1 k2 k3
end Go.Proofs.Ytngbfjimmdkfeaa

