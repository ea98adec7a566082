/- Texts joined: Kc. -/
import Derived.Test.YtngbfjimmdkfeaaPXK1
import Derived.Test.YtngbfjimmdkfeaaPXH8
set_option linter.unusedVariables false
set_option linter.unusedSimpArgs false
namespace Go.Proofs.Ytngbfjimmdkfeaa
open Go.RowKit

theorem bL_mk : ∀ (f : Fo), okF f → ∀ (s : Bs), 0 < s.1 → ∃ F, (bL f s).2.2 = s.2 ++ F ∧ Frs F 0 (s.1 : Int) ((bL f s).2.1 : Int) ((bL f s).1.map (fun v : Nat => (v : Int))) (lsF f)
  | .nil, _, s, _ => ⟨[], by simp [bL], frs_nil _ _⟩
  | .cons h k r, ⟨o1, o2, o3⟩, s, hs => by
    obtain ⟨F, h1, h2⟩ := bE_mk h k o1 o2 0 s hs
    have hz := h2.zin
    obtain ⟨G, h3, h4⟩ := bL_mk r o3 (bE h k 0 s).2 (by omega)
    refine ⟨F ++ G, ?_, frs_cons (by omega) h2 h4⟩
    show (bL r (bE h k 0 s).2).2.2 = _
    rw [h3, h1, List.append_assoc]
theorem bL_grows : ∀ (f : Fo), okF f → ∀ (s : Bs), Grows s (bL f s).2 (stF f) (2 * stF f) ∧ (bL f s).1.length = f.len
  | .nil, _, s => ⟨Grows.refl s, rfl⟩
  | .cons h k r, ⟨o1, o2, o3⟩, s => by
    have g1 := bE_grows h k o1 o2 0 s
    obtain ⟨g2, g3⟩ := bL_grows r o3 (bE h k 0 s).2
    exact ⟨(g1.trans g2).cast rfl (by show _ ≤ 2 * (stE h k + stF r); omega), by simp only [bL, List.length_cons, Fo.len]; rw [g3]⟩
/-- What Build makes of expressions that may be, few enough. -/
noncomputable def autF (f : Fo) : Nf := ⟨((bL f (1, [])).2.1 : Nat), 0, (bL f (1, [])).1.map (fun v : Nat => (v : Int)), (bL f (1, [])).2.2⟩
theorem build_ok {f : Fo} (he : errF f = 0) (hs : 1 + stF f ≤ 2000) : buildP f = (autF f, 0) := by
  unfold buildP
  rw [if_pos he, if_pos hs]
  rfl
theorem aut_frs {f : Fo} (ho : okF f) : Frs (autF f).es 0 1 (autF f).n (autF f).ends (lsF f) := by
  obtain ⟨F, h1, h2⟩ := bL_mk f ho (1, []) (by simp)
  have : (autF f).es = F := by show (bL f (1, [])).2.2 = F; rw [h1]; rfl
  rw [this]
  exact h2
theorem aut_n {f : Fo} (ho : okF f) : (autF f).n = ((1 + stF f : Nat) : Int) ∧ (autF f).es.length ≤ 2 * stF f ∧ (autF f).ends.length = f.len := by
  obtain ⟨⟨g1, g2, _⟩, g3⟩ := bL_grows f ho (1, [])
  refine ⟨?_, ?_, ?_⟩
  · show ((bL f (1, [])).2.1 : Int) = _; rw [g1]
  · have : (bL f (1, [])).2.2.length ≤ 0 + 2 * stF f := g2
    show (bL f (1, [])).2.2.length ≤ _
    omega
  · show ((bL f (1, [])).1.map (fun v : Nat => (v : Int))).length = f.len; rw [List.length_map]; exact g3
theorem aut_link {f : Fo} (ho : okF f) (hs : 1 + stF f ≤ 2000) : linkB (autF f) = true := by
  have h := aut_frs ho
  obtain ⟨h1, _, _⟩ := aut_n ho
  have h0 : (autF f).s = 0 := rfl
  unfold linkB stB
  simp only [Bool.and_eq_true, decide_eq_true_eq, List.all_eq_true]
  refine ⟨⟨⟨by omega, by omega, by omega⟩, fun z hz => ?_⟩, fun e he => ?_⟩
  · have := h.zin z hz; omega
  · have := h.ed e he; omega

/-- Ways and what a text leads to. -/
theorem rn_pt {x : Nf} {S0 : Nat → Prop} {a : Nat} (h : Rn x S0 a) : ∃ b : Nat, S0 b ∧ Pt x.es (b : Int) [] (a : Int) := by
  induction h with
  | @base a h => exact ⟨a, h, .nil _⟩
  | step _ hn ih =>
    obtain ⟨b, h1, h2⟩ := ih
    obtain ⟨e, he, hq, h3, h4⟩ := hn
    have := Pt.one (A := x.es) (e := e) (u := []) he (.inl ⟨hq, rfl⟩)
    rw [h3, h4] at this
    exact ⟨b, h1, h2.trans this⟩
theorem rcs_pt {x : Nf} : ∀ (s : List UInt8) {S0 : Nat → Prop} {a : Nat}, RcS x s (Rn x S0) a → ∃ b : Nat, S0 b ∧ Pt x.es (b : Int) s (a : Int)
  | [], S0, a, h => rn_pt h
  | c :: r, S0, a, h => by
    obtain ⟨b, ⟨d, h1, e, he, hc, h3, h4⟩, h2⟩ := rcs_pt r h
    obtain ⟨b0, h5, h6⟩ := rn_pt h1
    have := Pt.step (es := x.es) (e := e) (u := [c]) he (.inr ⟨c, rfl, hc⟩) (by rw [h4]; exact h2)
    rw [h3] at this
    exact ⟨b0, h5, h6.trans this⟩
theorem pt_rcs {x : Nf} (hl : linkB x = true) {y z : Int} {s : List UInt8} (h : Pt x.es y s z) : ∀ {S0 : Nat → Prop} {b a : Nat}, y = (b : Int) → z = (a : Int) → Rn x S0 b → RcS x s (Rn x S0) a := by
  induction h with
  | nil y =>
    intro S0 b a h1 h2 h3
    obtain rfl : a = b := by omega
    exact h3
  | step he hl2 _ ih =>
    intro S0 b a h1 h2 h3
    obtain ⟨_, d, h4, _⟩ := link_ends hl he
    rcases hl2 with ⟨hq, rfl⟩ | ⟨c, rfl, hc⟩
    · exact ih h4 h2 (.step h3 ⟨_, he, hq, h1, h4⟩)
    · exact ih (S0 := fun b => ∃ a, Rn x S0 a ∧ bstep x c.toNat a b) h4 h2 (.base ⟨b, h3, _, he, hc, h1, h4⟩)
theorem rc_pt {x : Nf} (hl : linkB x = true) (s : List UInt8) (a : Nat) : Rc x s a ↔ Pt x.es x.s s (a : Int) := by
  constructor
  · intro h
    obtain ⟨b, h1, h2⟩ := rcs_pt s h
    rw [h1] at h2
    exact h2
  · intro h
    obtain ⟨b, h1, _⟩ := link_start hl
    exact pt_rcs hl h h1 rfl (.base h1.symm)
/-- Run has a number, just if that expression matches. -/
theorem run_is {f : Fo} (ho : okF f) (hs : 1 + stF f ≤ 2000) (s : List UInt8) (i : Nat) : i ∈ runP (autF f) s ↔ ∃ L, (lsF f)[i]? = some L ∧ L s := by
  have h := aut_frs ho
  have hl := aut_link ho hs
  unfold runP
  simp only [List.mem_filter, List.mem_range, decide_eq_true_eq]
  constructor
  · rintro ⟨hi, a, h1, h2⟩
    have hlt : i < (lsF f).length := by rw [← h.len]; exact hi
    exact ⟨_, List.getElem?_eq_getElem hlt, (h.lang i _ _ h2 (List.getElem?_eq_getElem hlt) s).1 ((rc_pt hl s a).1 h1)⟩
  · rintro ⟨L, h1, h2⟩
    have hlt : i < (autF f).ends.length := by rw [h.len]; exact (List.getElem?_eq_some_iff.1 h1).1
    obtain ⟨a, h3, _⟩ := link_ends2 hl hlt
    have h4 : (autF f).ends[i]? = some (a : Int) := by rw [List.getElem?_eq_getElem hlt, h3]
    exact ⟨hlt, a, (rc_pt hl s a).2 ((h.lang i _ L h4 h1 s).2 h2), h4⟩
theorem lsF_drop : ∀ (f : Fo) (i : Nat) {h : Hd} {k r : Fo}, f.drop i = .cons h k r → (lsF f)[i]? = some (mL h k)
  | .nil, i, h, k, r, e => by cases i <;> simp [Fo.drop] at e
  | .cons h' k' r', 0, h, k, r, e => by
    simp only [Fo.drop, Fo.cons.injEq] at e
    obtain ⟨rfl, rfl, rfl⟩ := e
    rfl
  | .cons h' k' r', i + 1, h, k, r, e => by
    have := lsF_drop r' i (by simpa [Fo.drop] using e)
    simpa [lsF] using this
end Go.Proofs.Ytngbfjimmdkfeaa

