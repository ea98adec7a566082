/- Texts joined: Wc Wd Wm Wn Wq Wr Wt Wu Wv Wy Wx Wo Fe Ff Qc Ql Qd Fj Qe Qf Qg Qh Qi Qj Qk Qm Qn Qo Qp Zi Zj Zk Zl Zm Zn Zo Zp Qq Zq Zr Zs Zt Zu Zv Zw Zx Zy Zz Fk Fl Fm Fn Fo Fp Lb. -/
import Derived.Test.YthogiakfbgehnaaREAi
import Derived.Test.YthogiakfbgehnaaREAg
import Derived.Shelf.Slices.CompactI
import Derived.Test.YthogiakfbgehnaaProg
import Derived.Lib.AppendZeros
import Derived.Sort.OwnSortedInts
import Derived.Test.YthogiakfbgehnaaREAa
import Derived.Deep.QuietTactic
import Derived.BigQuiet
import Derived.Deep.CutRange
import Derived.Defers
import Derived.Recover
import Derived.WalkLawsBesides
import Derived.Maps.AppendAt
set_option linter.unusedVariables false
set_option linter.unusedSimpArgs false
namespace Go.Proofs.Ythogiakfbgehnaa
open Go.RowKit Go.Maps

attribute [local go_sem] Oper.semAt_some

/-- What is made one behind the other. -/
def allocs (w : World) : List Obj → World
  | [] => w
  | o :: os => allocs (w.alloc o) os
theorem allocs_below : ∀ (os : List Obj) (w : World), Below w.heap.size w (allocs w os)
  | [], w => Below.refl _ w
  | o :: os, w => (up1 w o).trans ((allocs_below os (w.alloc o)).mono (by simp))
theorem allocs_at : ∀ (os : List Obj) (w : World) (i : Nat) (o : Obj), os[i]? = some o → (allocs w os).heap[w.heap.size + i]? = some o
  | [], w, i, o, h => by cases h
  | p :: os, w, 0, o, h => by
    have e : p = o := by simpa using h
    subst e
    have := (allocs_below os (w.alloc p)).block w.heap.size (by simp)
    rw [Nat.add_zero]
    show (allocs (w.alloc p) os).heap[w.heap.size]? = some p
    rw [this]
    exact World.alloc_heap_new w p
  | p :: os, w, i + 1, o, h => by
    have := allocs_at os (w.alloc p) i o (by simpa using h)
    rw [show (w.alloc p).heap.size + i = w.heap.size + (i + 1) by simp; omega] at this
    exact this
theorem allocs_blk (os : List Obj) (w : World) (i : Nat) (xs : List Value) (e : TypeId) (h : os[i]? = some (.cells xs.toArray e)) : Blk (allocs w os) (w.heap.size + i) e xs := allocs_at os w i _ h
theorem allocs_vs (os : List Obj) (w : World) (i : Nat) (xs : List Value) (e : TypeId) (h : os[i]? = some (.cells xs.toArray e)) (n : Nat) (hn : xs.length = n) (hm : n ≤ maxLen) : Vs (allocs w os) (some ⟨w.heap.size + i, 0, none⟩) n xs := own_vals (e := e) (base := 0) ⟨by rw [hn, Nat.mul_one], .inr ⟨w.heap.size + i, n, xs.toArray, rfl, Nat.zero_le _, allocs_blk os w i xs e h, Nat.le_refl _, hm, by simp [hn], by rw [List.take_of_length_le (by simp [hn])]⟩⟩ hn.symm
theorem e9_mx (n : Nat) (h : n ≤ 10) : n ≤ maxLen := by unfold maxLen; omega
end Go.Proofs.Ythogiakfbgehnaa

namespace Go.Proofs.Ythogiakfbgehnaa
open Go.RowKit Go.Maps

attribute [local go_sem] Oper.semAt_some

end Go.Proofs.Ythogiakfbgehnaa

namespace Go.Proofs.Ythogiakfbgehnaa
open Go.RowKit Go.Maps

attribute [local go_sem] Oper.semAt_some

theorem OwnKZ.app {w : World} {base cap : Nat} {a : Option Addr} {l : List Int} (h : OwnKZ w base a cap l) (b : Option Addr) (bc : Nat) (m : List Int) (hm : Ints w b bc m) (ty : TypeId) (hn : l.length + m.length ≤ 1099511627780) (hb : base ≤ w.heap.size) :
    ∃ a' c' w', (Builtin.append_ #[35, 35] ty #[.slice a l.length cap, .slice b m.length bc]).run Try.prog w = .ok (.slice a' (l.length + m.length) c') w' ∧
      OwnKZ w' base a' c' (l ++ m) ∧ Below base w w' := by
  obtain ⟨i0, hi, hz0, hz1, hz2⟩ := info_parts info_keyZ
  cases b with
  | none =>
    have e0 := hm.nil_ rfl
    have hml : m = [] := by
      have := hm.le
      rw [e0] at this
      simpa using this
    subst e0
    subst hml
    exact ⟨a, cap, w, run_append_owned_none (P := Try.prog) w base _ ty _ i0 1 Try.underlying35 hi _ _ _ h, by simpa [OwnKZ] using h, Below.refl _ w⟩
  | some b' =>
    have hnew : ∀ j u, (m.map (Value.int .i64))[j]? = some u → w.cell? (b'.add j) = some u := by
      intro j u hj
      have hjl : j < (m.map (Value.int .i64)).length := (List.getElem?_eq_some_iff.1 hj).1
      obtain ⟨b2, off, e⟩ := hm.at_ j hjl
      have e := Option.some.inj e
      subst e
      have := hm.cell b2 off rfl j hjl
      rw [show (⟨b2, off, none⟩ : Addr).add j = ⟨b2, off + j, none⟩ from by unfold Addr.add; split <;> simp_all]
      exact this.trans ((List.getElem?_eq_getElem hjl).symm.trans hj)
    obtain ⟨v', w', hrun, ho, hg, _⟩ := run_append_own (P := Try.prog) w base 35 ty 3 i0 _ 1 8 Try.underlying35 hi hz0 hz1 hz2 rfl (by decide) _ l.length _ h b' m.length bc (m.map (Value.int .i64)) (by simp) hnew (fun u hu => by
      obtain ⟨x, _, rfl⟩ := List.mem_map.1 hu
      rfl) (by unfold maxLen; omega) (by omega) hb
    obtain ⟨a', cap', rfl⟩ := slice_of_own ho
    refine ⟨a', cap', w', hrun, ?_, belowAt hg (fun g e0 => (own_typ h g e0).1) hb⟩
    unfold OwnKZ
    rw [List.map_append, List.length_append]
    exact ho
end Go.Proofs.Ythogiakfbgehnaa

namespace Go.Proofs.Ythogiakfbgehnaa
open Go.RowKit Go.Maps

attribute [local go_sem] Oper.semAt_some

end Go.Proofs.Ythogiakfbgehnaa

namespace Go.Proofs.Ythogiakfbgehnaa
open Go.RowKit Go.Maps

attribute [local go_sem] Oper.semAt_some

end Go.Proofs.Ythogiakfbgehnaa

namespace Go.Proofs.Ythogiakfbgehnaa
open Go.RowKit Go.Maps

attribute [local go_sem] Oper.semAt_some

/-- What begins a list, if so much begins each rule. -/
def ldQ (K : Nat → Int → Prop) (s : List Int) (t : Int) : Prop := ∃ y ∈ s, (0 ≤ y ∧ t = y) ∨ (y < 0 ∧ K (ruL y) t)
def ldP (K : Nat → Int → Prop) (f : Nat → Bool) (s : List Int) (t : Int) : Prop := ldQ K (ahd f s) t
end Go.Proofs.Ythogiakfbgehnaa

namespace Go.Proofs.Ythogiakfbgehnaa
open Go.RowKit Go.Maps

attribute [local go_sem] Oper.semAt_some

/-- Where a round over rules and alternatives stands: what was kept is kept, what is known is true, what could be known is. -/
structure NuK (al : List (List (List Int))) (V0 V : Nat → Bool) (k j : Nat) : Prop where
  mono : ∀ r, V0 r = true → V r = true
  sound : ∀ r, V r = true → nulB al r = true
  done : ∀ r, r < k → ∀ a ∈ al.getD r [], emp V0 a = true → V r = true
  part : ∀ a ∈ (al.getD k []).take j, emp V0 a = true → V k = true
theorem NuK.put {al : List (List (List Int))} {V0 V : Nat → Bool} {k j : Nat} (h : NuK al V0 V k j) (hk : k < al.length) {a : List Int} (ha : (al.getD k [])[j]? = some a) {b : Bool} (hb : b = (V k || emp V a)) : NuK al V0 (fun s => if s = k then b else V s) k (j + 1) := by
  have hm : ∀ r, V r = true → (if r = k then b else V r) = true := fun r hr => by
    split
    · next e => subst e; rw [hb, hr]; rfl
    · exact hr
  refine ⟨fun r hr => hm r (h.mono r hr), fun r hr => ?_, fun r hr a ha he => hm r (h.done r hr a ha he), fun c hc he => ?_⟩
  · split at hr
    · next e =>
      subst e
      rw [hb, Bool.or_eq_true] at hr
      rcases hr with hr | hr
      · exact h.sound _ hr
      · exact (nul_iff hk).2 ⟨a, List.mem_of_getElem? ha, emp_mono h.sound hr⟩
    · exact h.sound r hr
  · rw [List.take_add_one, List.mem_append] at hc
    rcases hc with hc | hc
    · exact hm k (h.part c hc he)
    · rw [ha] at hc
      have : c = a := by simpa using hc
      subst this
      rw [if_pos rfl, hb, emp_mono h.mono he, Bool.or_true]
theorem NuK.row {al : List (List (List Int))} {V0 V : Nat → Bool} {k j : Nat} (h : NuK al V0 V k j) (hj : (al.getD k []).length ≤ j) : NuK al V0 V (k + 1) 0 :=
  ⟨h.mono, h.sound, fun r hr a ha he => by
    by_cases e : r = k
    · subst e
      exact h.part a (by rwa [List.take_of_length_le hj]) he
    · exact h.done r (by omega) a ha he, fun a ha => by simp at ha⟩
end Go.Proofs.Ythogiakfbgehnaa

namespace Go.Proofs.Ythogiakfbgehnaa
open Go.RowKit Go.Maps

attribute [local go_sem] Oper.semAt_some

end Go.Proofs.Ythogiakfbgehnaa

namespace Go.Proofs.Ythogiakfbgehnaa
open Go.RowKit

/-- Where a round of First stands. -/
structure FiK (al : List (List (List Int))) (f : Nat → Bool) (E0 E : Nat → List Int) (k j : Nat) : Prop where
  up : ∀ r, (E r).Pairwise (· < ·)
  sound : ∀ r t, t ∈ E r → TokP al f [-1 - (r : Int)] t
  mono : ∀ r t, t ∈ E0 r → t ∈ E r
  done : ∀ r, r < k → ∀ a ∈ al.getD r [], ∀ t, ldP (fun r t => t ∈ E0 r) f a t → t ∈ E r
  part : ∀ a ∈ (al.getD k []).take j, ∀ t, ldP (fun r t => t ∈ E0 r) f a t → t ∈ E k
theorem ldP_mono {f : Nat → Bool} {K K2 : Nat → Int → Prop} (h : ∀ r t, K r t → K2 r t) {s : List Int} {t : Int} (hl : ldP K f s t) : ldP K2 f s t := by
  obtain ⟨y, hy, h1 | ⟨h0, h1⟩⟩ := hl
  · exact ⟨y, hy, .inl h1⟩
  · exact ⟨y, hy, .inr ⟨h0, h _ _ h1⟩⟩
theorem FiK.put {al : List (List (List Int))} {f : Nat → Bool} {E0 E : Nat → List Int} {k j : Nat} (h : FiK al f E0 E k j) {a : List Int} (ha : (al.getD k [])[j]? = some a) {r2 : List Int} (hr : Ris r2 (fun t => t ∈ E k ∨ ldP (fun r t => t ∈ E r) f a t)) : FiK al f E0 (fun s => if s = k then r2 else E s) k (j + 1) := by
  have hm : ∀ r t, t ∈ E r → t ∈ (if r = k then r2 else E r) := fun r t ht => by
    split
    · next e => subst e; exact (hr.mem t).2 (.inl ht)
    · exact ht
  refine ⟨fun r => ?_, fun r t ht => ?_, fun r t ht => hm r t (h.mono r t ht), fun r hrk c hc t ht => hm r t (h.done r hrk c hc t ht), fun c hc t ht => ?_⟩
  · split
    · exact hr.up
    · exact h.up r
  · split at ht
    · next e =>
      subst e
      rcases (hr.mem t).1 ht with h1 | ⟨y, hy, ⟨h1, rfl⟩ | ⟨h1, h2⟩⟩
      · exact h.sound _ t h1
      · exact tok_rule (List.mem_of_getElem? ha) (tok_iff.2 ⟨_, hy, tok_self h1⟩)
      · refine tok_rule (List.mem_of_getElem? ha) (tok_iff.2 ⟨y, hy, ?_⟩)
        have := h.sound _ t h2
        rwa [of_ruL h1] at this
    · exact h.sound r t ht
  · rw [List.take_add_one, List.mem_append] at hc
    rcases hc with hc | hc
    · exact hm k t (h.part c hc t ht)
    · rw [ha] at hc
      have : c = a := by simpa using hc
      subst this
      rw [if_pos rfl]
      exact (hr.mem t).2 (.inr (ldP_mono h.mono ht))
theorem FiK.row {al : List (List (List Int))} {f : Nat → Bool} {E0 E : Nat → List Int} {k j : Nat} (h : FiK al f E0 E k j) (hj : (al.getD k []).length ≤ j) : FiK al f E0 E (k + 1) 0 :=
  ⟨h.up, h.sound, h.mono, fun r hr a ha => by
    by_cases e : r = k
    · subst e
      exact h.part a (by rwa [List.take_of_length_le hj])
    · exact h.done r (by omega) a ha, fun a ha => by simp at ha⟩
end Go.Proofs.Ythogiakfbgehnaa

namespace Go.Proofs.Ythogiakfbgehnaa
open Go.RowKit Go.Maps

end Go.Proofs.Ythogiakfbgehnaa

namespace Go.Proofs.Ythogiakfbgehnaa
open Go.RowKit Go.Maps

attribute [local go_sem] Oper.semAt_some

end Go.Proofs.Ythogiakfbgehnaa

namespace Go.Proofs.Ythogiakfbgehnaa
open Go.RowKit Go.Maps

attribute [local go_sem] Oper.semAt_some

end Go.Proofs.Ythogiakfbgehnaa

namespace Go.Proofs.Ythogiakfbgehnaa
open Go.RowKit

/-- What stands behind a place of an alternative is with the rule that stands there. -/
def FoD (al : List (List (List Int))) (f : Nat → Bool) (E0 E : Nat → List Int) (r : Nat) (a : List Int) (i : Nat) : Prop :=
  ∀ s : Nat, a[i]? = some (-1 - (s : Int)) → (∀ t, TokP al f (ahd f (a.drop (i + 1))) t → t ∈ E s) ∧ (emp f (a.drop (i + 1)) = true → ∀ t, t ∈ E0 r → t ∈ E s)
theorem FoD.mono {al : List (List (List Int))} {f : Nat → Bool} {E0 E E2 : Nat → List Int} {r : Nat} {a : List Int} {i : Nat} (h : FoD al f E0 E r a i) (hm : ∀ r t, t ∈ E r → t ∈ E2 r) : FoD al f E0 E2 r a i :=
  fun s hs => ⟨fun t ht => hm _ _ ((h s hs).1 t ht), fun he t ht => hm _ _ ((h s hs).2 he t ht)⟩
/-- Where a round of Follow stands. -/
structure FoK (al : List (List (List Int))) (f : Nat → Bool) (T : Nat) (E0 E : Nat → List Int) (k j i : Nat) : Prop where
  up : ∀ r, (E r).Pairwise (· < ·)
  sound : ∀ r t, t ∈ E r → FolP al f T r t
  mono : ∀ r t, t ∈ E0 r → t ∈ E r
  done : ∀ r, r < k → ∀ a ∈ al.getD r [], ∀ i, FoD al f E0 E r a i
  part : ∀ a ∈ (al.getD k []).take j, ∀ i, FoD al f E0 E k a i
  here : ∀ a, (al.getD k [])[j]? = some a → ∀ i2, i2 < i → FoD al f E0 E k a i2
theorem FoK.put {al : List (List (List Int))} {f : Nat → Bool} {T : Nat} {E0 E : Nat → List Int} {k j i s : Nat} {a : List Int} (h : FoK al f T E0 E k j i) (hk : k < al.length) (ha : (al.getD k [])[j]? = some a) (hi : a[i]? = some (-1 - (s : Int))) {r2 : List Int}
    (hu : r2.Pairwise (· < ·)) (hs : ∀ t, t ∈ r2 → t ∈ E s ∨ TokP al f (ahd f (a.drop (i + 1))) t ∨ (emp f (a.drop (i + 1)) = true ∧ t ∈ E k)) (h0 : ∀ t, t ∈ E s → t ∈ r2) (h1 : ∀ t, TokP al f (ahd f (a.drop (i + 1))) t → t ∈ r2) (h2 : emp f (a.drop (i + 1)) = true → ∀ t, t ∈ E k → t ∈ r2) :
    FoK al f T E0 (fun r => if r = s then r2 else E r) k j (i + 1) := by
  have hm : ∀ r t, t ∈ E r → t ∈ (if r = s then r2 else E r) := fun r t ht => by
    split
    · next e => subst e; exact h0 t ht
    · exact ht
  have hmem := List.mem_of_getElem? ha
  refine ⟨fun r => ?_, fun r t ht => ?_, fun r t ht => hm r t (h.mono r t ht), fun r hr c hc i => (h.done r hr c hc i).mono hm, fun c hc i => (h.part c hc i).mono hm, fun c hc i2 hi2 => ?_⟩
  · split
    · exact hu
    · exact h.up r
  · split at ht
    · next e =>
      subst e
      rcases hs t ht with h3 | h3 | ⟨he, h3⟩
      · exact h.sound _ t h3
      · exact fol_beh hk hmem hi h3
      · exact fol_last ⟨hk, a, hmem, i, hi, he⟩ (h.sound _ t h3)
    · exact h.sound r t ht
  · rw [ha] at hc
    obtain rfl : a = c := by simpa using hc
    by_cases e : i2 = i
    · subst e
      intro s2 hs2
      rw [hi] at hs2
      have e2 : s2 = s := by
        have : (-1 - (s : Int)) = -1 - (s2 : Int) := by simpa using hs2
        omega
      subst e2
      dsimp only
      rw [if_pos rfl]
      exact ⟨h1, fun he t ht => h2 he t (h.mono _ t ht)⟩
    · exact (h.here a ha i2 (by omega)).mono hm
theorem FoK.row {al : List (List (List Int))} {f : Nat → Bool} {T : Nat} {E0 E : Nat → List Int} {k j : Nat} (h : FoK al f T E0 E k j 0) (hj : (al.getD k []).length ≤ j) : FoK al f T E0 E (k + 1) 0 0 :=
  ⟨h.up, h.sound, h.mono, fun r hr a ha i => by
    by_cases e : r = k
    · subst e
      exact h.part a (by rwa [List.take_of_length_le hj]) i
    · exact h.done r (by omega) a ha i, fun a ha => by simp at ha, fun c _ i2 h => absurd h (by omega)⟩
theorem FoD.back {al : List (List (List Int))} {f : Nat → Bool} {E0 E : Nat → List Int} {r : Nat} {a : List Int} {i : Nat} (h : FoD al f E0 E r a i) (hm : ∀ r t, t ∈ E r → t ∈ E0 r) : FoD al f E0 E0 r a i := h.mono hm
end Go.Proofs.Ythogiakfbgehnaa

namespace Go.Proofs.Ythogiakfbgehnaa
open Go.RowKit Go.Maps

attribute [local go_sem] Oper.semAt_some

end Go.Proofs.Ythogiakfbgehnaa

namespace Go.Proofs.Ythogiakfbgehnaa
open Go.RowKit

end Go.Proofs.Ythogiakfbgehnaa

namespace Go.Proofs
open Go.Shelf
end Go.Proofs

namespace Go.Proofs.Ythogiakfbgehnaa
open Go.RowKit Go.Shelf

attribute [local go_sem] Oper.semAt_some

end Go.Proofs.Ythogiakfbgehnaa

namespace Go.Proofs.Ythogiakfbgehnaa
open Go.RowKit Go.Maps

attribute [local go_sem] Oper.semAt_some
end Go.Proofs.Ythogiakfbgehnaa

namespace Go.Proofs.Ythogiakfbgehnaa
open Go.RowKit Go.Maps

attribute [local go_sem] Oper.semAt_some

/-- All that a row of lists holds lies from a block on. -/
def FrA (X : Nat) (a : Option Addr) (ds : List IltD) : Prop := (∀ b off, a = some ⟨b, off, none⟩ → X ≤ b) ∧ ∀ d ∈ ds, ∀ b off, d.a = some ⟨b, off, none⟩ → X ≤ b
theorem fr_own {W : World} {base e n c : Nat} {a : Option Addr} {xs : List Value} (h : W.ownsRow base e 1 (.slice a n c) n xs) : ∀ b off, a = some ⟨b, off, none⟩ → base ≤ b := by
  intro b off e
  subst e
  rcases h.2 with ⟨e1, _⟩ | ⟨g, cp, cur, e1, hb, _⟩
  · cases e1
  · injection e1 with e1
    injection e1 with e1
    injection e1 with e1
    omega
theorem OwnXI.fr {W : World} {base c : Nat} {a : Option Addr} {ds : List IltD} (h : OwnXI W base a c ds) : FrA base a ds := ⟨fr_own h.out, fun d hd => fr_own (h.ins d hd)⟩
end Go.Proofs.Ythogiakfbgehnaa

namespace Go.Proofs.Ythogiakfbgehnaa
open Go.RowKit Go.Maps

attribute [local go_sem] Oper.semAt_some

end Go.Proofs.Ythogiakfbgehnaa

namespace Go.Proofs.Ythogiakfbgehnaa
open Go.RowKit Go.Maps

attribute [local go_sem] Oper.semAt_some

end Go.Proofs.Ythogiakfbgehnaa

namespace Go.Proofs.Ythogiakfbgehnaa
open Go.RowKit Go.Maps

attribute [local go_sem] Oper.semAt_some

end Go.Proofs.Ythogiakfbgehnaa

namespace Go.Proofs.Ythogiakfbgehnaa
open Go.RowKit Go.Maps

attribute [local go_sem] Oper.semAt_some

end Go.Proofs.Ythogiakfbgehnaa

namespace Go.Proofs.Ythogiakfbgehnaa
open Go.RowKit Go.Maps

attribute [local go_sem] Oper.semAt_some

end Go.Proofs.Ythogiakfbgehnaa

namespace Go.Proofs.Ythogiakfbgehnaa
open Go.RowKit Go.Maps

attribute [local go_sem] Oper.semAt_some

end Go.Proofs.Ythogiakfbgehnaa

namespace Go.Proofs.Ythogiakfbgehnaa
open Go.RowKit Go.Maps

attribute [local go_sem] Oper.semAt_some

end Go.Proofs.Ythogiakfbgehnaa

namespace Go.Proofs.Ythogiakfbgehnaa
open Go.RowKit Go.Maps

attribute [local go_sem] Oper.semAt_some

end Go.Proofs.Ythogiakfbgehnaa

namespace Go.Proofs.Ythogiakfbgehnaa
open Go.RowKit Go.Maps

attribute [local go_sem] Oper.semAt_some

end Go.Proofs.Ythogiakfbgehnaa

namespace Go.Proofs.Ythogiakfbgehnaa
open Go.RowKit Go.Maps

attribute [local go_sem] Oper.semAt_some

end Go.Proofs.Ythogiakfbgehnaa

namespace Go.Proofs.Ythogiakfbgehnaa
open Go.RowKit Go.Maps

attribute [local go_sem] Oper.semAt_some

end Go.Proofs.Ythogiakfbgehnaa

namespace Go.Proofs.Ythogiakfbgehnaa
open Go.RowKit Go.Maps

attribute [local go_sem] Oper.semAt_some

end Go.Proofs.Ythogiakfbgehnaa

namespace Go.Proofs.Ythogiakfbgehnaa
open Go.RowKit Go.Maps

attribute [local go_sem] Oper.semAt_some

end Go.Proofs.Ythogiakfbgehnaa

namespace Go.Proofs.Ythogiakfbgehnaa
open Go.RowKit
def TrF.len : TrF → Nat
  | .nil => 0
  | .cons _ _ rest => rest.len + 1
theorem TrF.app_len : ∀ (f g : TrF), (f.app g).len = f.len + g.len
  | .nil, g => by simp [TrF.app, TrF.len]
  | .cons h kids rest, g => by
    show (rest.app g).len + 1 = rest.len + 1 + g.len
    rw [TrF.app_len rest g]; omega
/-- The cells from an address on read as these trees; what is in them lies in blocks of a kind. -/
def TrEl (w : World) (P : Nat → Prop) : TrF → Nat → Nat → Prop
  | .nil, _, _ => True
  | .cons h kids rest, b, off =>
    w.cell? ⟨b, off, none⟩ = some (.int .i64 h.k) ∧ w.cell? ⟨b, off + 1, none⟩ = some (.int .i64 h.i) ∧ w.cell? ⟨b, off + 2, none⟩ = some (.int .i64 h.a) ∧
    (∃ ga gc, w.cell? ⟨b, off + 3, none⟩ = some (.slice ga kids.len gc) ∧ kids.len ≤ gc ∧ gc ≤ 9223372036854775807 ∧ (ga = none → gc = 0) ∧ (0 < kids.len → ∃ b' o', ga = some ⟨b', o', none⟩ ∧ P b' ∧ TrEl w P kids b' o')) ∧
    TrEl w P rest b (off + 4)
/-- A slice of trees. -/
structure TrS (w : World) (P : Nat → Prop) (a : Option Addr) (cap : Nat) (f : TrF) : Prop where
  le : f.len ≤ cap
  max : cap ≤ 9223372036854775807
  nil_ : a = none → cap = 0
  at_ : 0 < f.len → ∃ b off, a = some ⟨b, off, none⟩ ∧ P b ∧ TrEl w P f b off
/-- What lies in blocks of the kind is kept. -/
theorem TrEl.kept {w w' : World} {P : Nat → Prop} (hc : ∀ b off v, P b → w.cell? ⟨b, off, none⟩ = some v → w'.cell? ⟨b, off, none⟩ = some v) : ∀ (f : TrF) (b off : Nat), P b → TrEl w P f b off → TrEl w' P f b off := by
  intro f
  induction f with
  | nil => intro b off _ _; trivial
  | cons h kids rest ihk ihr =>
    rintro b off hb ⟨h1, h2, h3, ⟨ga, gc, h4, h5, h6, h7, h8⟩, h9⟩
    exact ⟨hc _ _ _ hb h1, hc _ _ _ hb h2, hc _ _ _ hb h3, ⟨ga, gc, hc _ _ _ hb h4, h5, h6, h7, fun hn => by obtain ⟨b', o', e, hl, hk⟩ := h8 hn; exact ⟨b', o', e, hl, ihk _ _ hl hk⟩⟩, ihr _ _ hb h9⟩
theorem TrS.kept {w w' : World} {P : Nat → Prop} {cap : Nat} {a : Option Addr} {f : TrF} (h : TrS w P a cap f) (hc : ∀ b off v, P b → w.cell? ⟨b, off, none⟩ = some v → w'.cell? ⟨b, off, none⟩ = some v) : TrS w' P a cap f :=
  ⟨h.le, h.max, h.nil_, fun hn => by obtain ⟨b, o, e, hl, hk⟩ := h.at_ hn; exact ⟨b, o, e, hl, TrEl.kept hc f b o hl hk⟩⟩
theorem TrS.grown {w w' : World} {P : Nat → Prop} {cap : Nat} {a : Option Addr} {f : TrF} (h : TrS w P a cap f) (hb : Below w.heap.size w w') : TrS w' P a cap f :=
  h.kept (fun b off v _ hv => (hb.cell (p := ⟨b, off, none⟩) (World.block_lt_of_cell? w _ hv)).trans hv)
/-- The kind of blocks may be told otherwise. -/
theorem TrEl.imp {w : World} {P Q : Nat → Prop} (hp : ∀ b, P b → b < w.heap.size → Q b) : ∀ (f : TrF) (b off : Nat), TrEl w P f b off → TrEl w Q f b off := by
  intro f
  induction f with
  | nil => intro b off _; trivial
  | cons h kids rest ihk ihr =>
    rintro b off ⟨h1, h2, h3, ⟨ga, gc, h4, h5, h6, h7, h8⟩, h9⟩
    refine ⟨h1, h2, h3, ⟨ga, gc, h4, h5, h6, h7, fun hn => ?_⟩, ihr _ _ h9⟩
    obtain ⟨b', o', e, hl, hk⟩ := h8 hn
    refine ⟨b', o', e, hp b' hl ?_, ihk _ _ hk⟩
    cases kids with
    | nil => simp [TrF.len] at hn
    | cons x y z => exact World.block_lt_of_cell? w ⟨b', o', none⟩ hk.1
theorem TrS.imp {w : World} {P Q : Nat → Prop} (hp : ∀ b, P b → b < w.heap.size → Q b) {cap : Nat} {a : Option Addr} {f : TrF} (h : TrS w P a cap f) : TrS w Q a cap f :=
  ⟨h.le, h.max, h.nil_, fun hn => by
    obtain ⟨b, o, e, hl, hk⟩ := h.at_ hn
    refine ⟨b, o, e, hp b hl ?_, TrEl.imp hp f b o hk⟩
    cases f with
    | nil => simp [TrF.len] at hn
    | cons x y z => exact World.block_lt_of_cell? w ⟨b, o, none⟩ hk.1⟩
theorem TrS.nil (w : World) (P : Nat → Prop) : TrS w P none 0 .nil := ⟨by simp [TrF.len], by omega, fun _ => rfl, fun h => by simp [TrF.len] at h⟩
/-- How many there are in all. -/
def TrF.size : TrF → Nat
  | .nil => 0
  | .cons _ kids rest => kids.size + rest.size + 1
def TrF.drop : Nat → TrF → TrF
  | 0, f => f
  | _ + 1, .nil => .nil
  | k + 1, .cons _ _ rest => rest.drop k

theorem TrF.drop_len : ∀ (k : Nat) (f : TrF), (f.drop k).len = f.len - k := by
  intro k
  induction k with
  | zero => intro f; rfl
  | succ k ih => intro f; cases f with
    | nil => simp [TrF.drop, TrF.len]
    | cons h kids rest => simp only [TrF.drop, TrF.len, ih]; omega
theorem TrF.drop_succ : ∀ (k : Nat) (f : TrF) (h : TrH) (kids rest : TrF), f.drop k = .cons h kids rest → f.drop (k + 1) = rest := by
  intro k
  induction k with
  | zero => intro f h kids rest e; simp only [TrF.drop] at e; subst e; rfl
  | succ k ih => intro f h kids rest e; cases f with
    | nil => simp [TrF.drop] at e
    | cons h' kids' rest' => simp only [TrF.drop] at e ⊢; exact ih _ _ _ _ e
theorem TrF.drop_cons {k : Nat} {f : TrF} (h : k < f.len) : ∃ hd kids rest, f.drop k = .cons hd kids rest := by
  have := TrF.drop_len k f
  cases e : f.drop k with
  | nil => rw [e] at this; simp [TrF.len] at this; omega
  | cons hd kids rest => exact ⟨_, _, _, rfl⟩
theorem TrF.drop_all {f : TrF} {k : Nat} (h : f.len ≤ k) : f.drop k = .nil := by
  have := TrF.drop_len k f
  cases e : f.drop k with
  | nil => rfl
  | cons hd kids rest => rw [e] at this; simp [TrF.len] at this; omega
theorem TrF.drop_size : ∀ (k : Nat) (f : TrF), (f.drop k).size ≤ f.size := by
  intro k
  induction k with
  | zero => intro f; exact Nat.le_refl _
  | succ k ih => intro f; cases f with
    | nil => exact Nat.le_refl _
    | cons h kids rest => simp only [TrF.drop, TrF.size]; have := ih rest; omega
theorem TrEl.drop {w : World} {P : Nat → Prop} : ∀ (k : Nat) (f : TrF) (b off : Nat), TrEl w P f b off → TrEl w P (f.drop k) b (off + k * 4) := by
  intro k
  induction k with
  | zero => intro f b off h; simpa [TrF.drop] using h
  | succ k ih => intro f b off h; cases f with
    | nil => trivial
    | cons hd kids rest =>
      have := ih rest b (off + 4) h.2.2.2.2
      rw [show off + (k + 1) * 4 = off + 4 + k * 4 from by omega]
      exact this

/-- One element of a list, where the list is read in turn. -/
structure TrAt (w : World) (P : Nat → Prop) (b off k : Nat) (kids : TrF) (hd : TrH) (ks : TrF) (xa : Option Addr) (xcap : Nat) : Prop where
  c0 : w.cell? ⟨b, off + k * 4, none⟩ = some (.int .i64 hd.k)
  c1 : w.cell? ⟨b, off + k * 4 + 1, none⟩ = some (.int .i64 hd.i)
  c2 : w.cell? ⟨b, off + k * 4 + 2, none⟩ = some (.int .i64 hd.a)
  c3 : w.cell? ⟨b, off + k * 4 + 3, none⟩ = some (.slice xa ks.len xcap)
  its : TrS w P xa xcap ks
  cut : kids.drop k = .cons hd ks (kids.drop (k + 1))
theorem TrS.at {w : World} {P : Nat → Prop} {a : Option Addr} {cap : Nat} {kids : TrF} (hI : TrS w P a cap kids) {k : Nat} (hk : k < kids.len) : ∃ b off hd ks xa xcap, a = some ⟨b, off, none⟩ ∧ TrAt w P b off k kids hd ks xa xcap := by
  obtain ⟨hd, ks, rs, hdr⟩ := TrF.drop_cons hk
  obtain ⟨b, off, rfl, hlo, hel⟩ := hI.at_ (by omega)
  have hel2 := TrEl.drop k kids b off hel
  rw [hdr] at hel2
  obtain ⟨x0, x1, x2, ⟨xa, xcap, x3, hx1, hx2, hx3, hx4⟩, _⟩ := hel2
  exact ⟨b, off, hd, ks, xa, xcap, rfl, x0, x1, x2, x3, ⟨hx1, hx2, hx3, hx4⟩, by rw [TrF.drop_succ k kids hd ks rs hdr]; exact hdr⟩
theorem TrAt.size {w : World} {P : Nat → Prop} {b off k xcap : Nat} {kids ks : TrF} {hd : TrH} {xa : Option Addr} (h : TrAt w P b off k kids hd ks xa xcap) : (kids.drop k).size = ks.size + (kids.drop (k + 1)).size + 1 ∧ (kids.drop k).size ≤ kids.size := by
  have h1 := TrF.drop_size k kids
  rw [h.cut] at h1 ⊢
  exact ⟨rfl, h1⟩
/-- A tree as a value. -/
abbrev treV (h : TrH) (ga : Option Addr) (n gc : Nat) : Value := .agg #[.int .i64 h.k, .int .i64 h.i, .int .i64 h.a, .slice ga n gc]
end Go.Proofs.Ythogiakfbgehnaa

namespace Go.Proofs.Ythogiakfbgehnaa
open Go.RowKit

def hdT (h g : TrH) (n m : Nat) : Bool := (h.k == g.k) && (h.i == g.i) && (h.a == g.a) && ((n : Int) == m)
/-- The same items, one by one. -/
def sameT : TrF → TrF → Bool
  | .nil, .nil => true
  | .cons h k r, .cons h' k' r' => hdT h h' k.len k'.len && sameT k k' && sameT r r'
  | _, _ => false

theorem TrAt.same {w w2 : World} {P P2 : Nat → Prop} {b off b2 off2 k xcap ycap : Nat} {kids ks gids gs : TrF} {hd gd : TrH} {xa ya : Option Addr} (h : TrAt w P b off k kids hd ks xa xcap) (g : TrAt w2 P2 b2 off2 k gids gd gs ya ycap) :
    sameT (kids.drop k) (gids.drop k) = (hdT hd gd ks.len gs.len && sameT ks gs && sameT (kids.drop (k + 1)) (gids.drop (k + 1))) := by
  rw [h.cut, g.cut, TrF.drop_succ _ _ _ _ _ h.cut, TrF.drop_succ _ _ _ _ _ g.cut]
  simp only [sameT]

end Go.Proofs.Ythogiakfbgehnaa

namespace Go.Proofs.Ythogiakfbgehnaa
open Go.RowKit Go.Maps

attribute [local go_sem] Oper.semAt_some

end Go.Proofs.Ythogiakfbgehnaa

namespace Go.Proofs.Ythogiakfbgehnaa
open Go.RowKit
/-- These cells are these trees'. -/
def TrCs (w : World) (P : Nat → Prop) : TrF → List Value → Prop
  | .nil, cs => cs = []
  | .cons h kids rest, cs => ∃ ga gc r, cs = .int .i64 h.k :: .int .i64 h.i :: .int .i64 h.a :: .slice ga kids.len gc :: r ∧ TrS w P ga gc kids ∧ TrCs w P rest r
theorem TrCs.len {w : World} {P : Nat → Prop} : ∀ {f : TrF} {cs : List Value}, TrCs w P f cs → cs.length = f.len * 4
  | .nil, cs, h => by
    have h : cs = [] := h
    subst h; rfl
  | .cons x kids rest, cs, h => by
    obtain ⟨ga, gc, r, rfl, _, h2⟩ := h
    have := TrCs.len h2
    show r.length + 1 + 1 + 1 + 1 = (rest.len + 1) * 4
    omega
theorem TrCs.app {w : World} {P : Nat → Prop} : ∀ {f g : TrF} {cs ds : List Value}, TrCs w P f cs → TrCs w P g ds → TrCs w P (f.app g) (cs ++ ds)
  | .nil, g, cs, ds, h, h2 => by
    have h : cs = [] := h
    subst h
    exact h2
  | .cons x kids rest, g, cs, ds, h, h2 => by
    obtain ⟨ga, gc, r, rfl, h3, h4⟩ := h
    exact ⟨ga, gc, r ++ ds, rfl, h3, TrCs.app h4 h2⟩
theorem TrCs.one {w : World} {P : Nat → Prop} {h : TrH} {kids : TrF} {ga : Option Addr} {gc : Nat} (hk : TrS w P ga gc kids) : TrCs w P (.cons h kids .nil) [.int .i64 h.k, .int .i64 h.i, .int .i64 h.a, .slice ga kids.len gc] := ⟨ga, gc, [], rfl, hk, rfl⟩
theorem TrCs.kept {w w' : World} {P : Nat → Prop} (hc : ∀ b off v, P b → w.cell? ⟨b, off, none⟩ = some v → w'.cell? ⟨b, off, none⟩ = some v) : ∀ {f : TrF} {cs : List Value}, TrCs w P f cs → TrCs w' P f cs
  | .nil, _, h => h
  | .cons x kids rest, _, h => by
    obtain ⟨ga, gc, r, e, h3, h4⟩ := h
    exact ⟨ga, gc, r, e, h3.kept hc, TrCs.kept hc h4⟩
theorem TrCs.imp {w : World} {P Q : Nat → Prop} (hp : ∀ b, P b → b < w.heap.size → Q b) : ∀ {f : TrF} {cs : List Value}, TrCs w P f cs → TrCs w Q f cs
  | .nil, _, h => h
  | .cons x kids rest, _, h => by
    obtain ⟨ga, gc, r, e, h3, h4⟩ := h
    exact ⟨ga, gc, r, e, h3.imp hp, TrCs.imp hp h4⟩
theorem TrCs.el {w : World} {P : Nat → Prop} : ∀ {f : TrF} {cs : List Value} {b off : Nat}, TrCs w P f cs → (∀ j v, cs[j]? = some v → w.cell? ⟨b, off + j, none⟩ = some v) → TrEl w P f b off
  | .nil, _, _, _, _, _ => trivial
  | .cons x kids rest, cs, b, off, h, hr => by
    obtain ⟨ga, gc, r, rfl, h3, h4⟩ := h
    refine ⟨hr 0 _ rfl, hr 1 _ rfl, hr 2 _ rfl, ⟨ga, gc, hr 3 _ rfl, h3.le, h3.max, h3.nil_, h3.at_⟩, TrCs.el h4 (fun j v hj => ?_)⟩
    have := hr (j + 4) v (by simpa using hj)
    rwa [show off + (j + 4) = off + 4 + j by omega] at this
theorem row_trs {W : World} {base c : Nat} {e : TypeId} {a : Option Addr} {f : TrF} {cs : List Value} {P : Nat → Prop} (h : W.ownsRow base e 4 (.slice a f.len c) f.len cs) (hc : TrCs W P f cs) (hp : ∀ g o, a = some ⟨g, o, none⟩ → base ≤ g → P g) : TrS W P a c f := by
  rcases h.2 with ⟨e1, e2⟩ | ⟨g, cap', cur, e1, hb, hg, hle, hm, hs, ht⟩
  · simp only [Value.slice.injEq] at e1
    obtain ⟨rfl, e3, rfl⟩ := e1
    exact ⟨by omega, by omega, fun _ => rfl, fun hn => by omega⟩
  · simp only [Value.slice.injEq] at e1
    obtain ⟨rfl, -, rfl⟩ := e1
    have hm2 : c ≤ 9223372036854775807 := by unfold maxLen at hm; omega
    refine ⟨hle, hm2, fun e => (by cases e), fun hn => ⟨g, 0, rfl, hp g 0 rfl hb, hc.el (fun j v hj => ?_)⟩⟩
    have hlt := (List.getElem?_eq_some_iff.1 hj).1
    rw [Nat.zero_add, h.cellAt j (by rw [← hc.len]; exact hlt)]
    exact hj
end Go.Proofs.Ythogiakfbgehnaa

namespace Go.Proofs.Ythogiakfbgehnaa
open Go.RowKit
theorem info_tree : (Try.prog.info? 51).map (fun i => (i.zero, i.size, i.bytes)) = some (some (.agg #[.int .i64 0, .int .i64 0, .int .i64 0, .slice none 0 0]), 4, 48) := by kernel_rfl
end Go.Proofs.Ythogiakfbgehnaa

namespace Go.Proofs.Ythogiakfbgehnaa
open Go.RowKit Go.Maps

attribute [local go_sem] Oper.semAt_some

noncomputable def few10 (d : CfD) : Bool := decide (d.toks.length + d.names.length + szC (d.alts.map IrD.p) ≤ 150) && decide (validE d.p = 0)
end Go.Proofs.Ythogiakfbgehnaa

namespace Go.Proofs.Ythogiakfbgehnaa
open Go.RowKit Go.Maps

attribute [local go_sem] Oper.semAt_some

end Go.Proofs.Ythogiakfbgehnaa

namespace Go.Proofs.Ythogiakfbgehnaa
open Go.RowKit Go.Maps

attribute [local go_sem] Oper.semAt_some

end Go.Proofs.Ythogiakfbgehnaa

namespace Go.Proofs.Ythogiakfbgehnaa
open Go.RowKit Go.Maps

attribute [local go_sem] Oper.semAt_some

end Go.Proofs.Ythogiakfbgehnaa

namespace Go.Proofs.Ythogiakfbgehnaa
open Go.RowKit Go.Maps

attribute [local go_sem] Oper.semAt_some

theorem blk_put4 {W : World} {b : Nat} {t : TypeId} {z0 z1 z2 z3 : Value} (h : Blk W b t [z0, z1, z2, z3]) (v0 v1 v2 v3 : Value) : Blk ((((W.setCell ⟨b, 0, none⟩ v0).setCell ⟨b, 1, none⟩ v1).setCell ⟨b, 2, none⟩ v2).setCell ⟨b, 3, none⟩ v3) b t [v0, v1, v2, v3] := (((h.set 0 v0).set 1 v1).set 2 v2).set 3 v3
theorem blk_oth4 {W : World} {b b' : Nat} {t : TypeId} {cs : List Value} (h : Blk W b t cs) (hne : b ≠ b') (v0 v1 v2 v3 : Value) : Blk ((((W.setCell ⟨b', 0, none⟩ v0).setCell ⟨b', 1, none⟩ v1).setCell ⟨b', 2, none⟩ v2).setCell ⟨b', 3, none⟩ v3) b t cs := (((h.setOther hne v0).setOther hne v1).setOther hne v2).setOther hne v3
theorem grown_put4 {w W : World} {b r : Nat} (h : w.grownBy W (some r)) (hb : w.heap.size ≤ b) (v0 v1 v2 v3 : Value) : w.grownBy ((((W.setCell ⟨b, 0, none⟩ v0).setCell ⟨b, 1, none⟩ v1).setCell ⟨b, 2, none⟩ v2).setCell ⟨b, 3, none⟩ v3) (some r) :=
  grownBy_trans (grownBy_trans (grownBy_trans (grownBy_trans h (grownBy_set _ b 0 v0) (fun i e => by cases e; exact .inr hb)) (grownBy_set _ b 1 v1) (fun i e => by cases e; exact .inr hb)) (grownBy_set _ b 2 v2) (fun i e => by cases e; exact .inr hb)) (grownBy_set _ b 3 v3) (fun i e => by cases e; exact .inr hb)
end Go.Proofs.Ythogiakfbgehnaa

namespace Go.Proofs.Ythogiakfbgehnaa
open Go.RowKit Go.Maps

attribute [local go_sem] Oper.semAt_some

/-- An append of a tree, and where the row lies then. -/
theorem tr_push2 {W : World} {base c : Nat} {a : Option Addr} {n : Nat} {cs : List Value} (h : W.ownsRow base 51 4 (.slice a n c) n cs) (x : TrH) (ga : Option Addr) (m gc : Nat) (ty : TypeId) (hn : n + 1 ≤ 1000000000) (hb : base ≤ W.heap.size) :
    ∃ a' c' w', (Builtin.append_ #[49, 49] ty #[.slice a n c, .slice (some ⟨W.heap.size, 0, none⟩) 1 1]).run Try.prog (W.alloc (.cells #[.int .i64 x.k, .int .i64 x.i, .int .i64 x.a, .slice ga m gc] 51)) = .ok (.slice a' (n + 1) c') w' ∧
      w'.ownsRow base 51 4 (.slice a' (n + 1) c') (n + 1) (cs ++ [.int .i64 x.k, .int .i64 x.i, .int .i64 x.a, .slice ga m gc]) ∧ W.grownBy w' (Value.slice a n c).ownBlock ∧ (∀ g, (Value.slice a' (n + 1) c').ownBlock = some g → (Value.slice a n c).ownBlock = some g ∨ W.heap.size ≤ g) := by
  obtain ⟨i0, hi, hz0, hz1, hz2⟩ := info_parts info_tree
  have hnew : ∀ j u, [Value.int .i64 x.k, .int .i64 x.i, .int .i64 x.a, .slice ga m gc][j]? = some u → (W.alloc (.cells #[.int .i64 x.k, .int .i64 x.i, .int .i64 x.a, .slice ga m gc] 51)).cell? ((⟨W.heap.size, 0, none⟩ : Addr).add j) = some u := by
    intro j u hj
    have := World.alloc_heap_new W (.cells #[.int .i64 x.k, .int .i64 x.i, .int .i64 x.a, .slice ga m gc] 51)
    have e : ((⟨W.heap.size, 0, none⟩ : Addr).add j) = ⟨W.heap.size, j, none⟩ := by simp [Addr.add]; exact Eq.symm
    rw [e]
    unfold World.cell?
    rw [show ((⟨W.heap.size, j, none⟩ : Addr).block) = W.heap.size from rfl, this]
    simp only [Option.bind_some]
    simpa using hj
  obtain ⟨v', w', hrun, ho, hg, _, hw⟩ := run_append_own_at (P := Try.prog) (w := W.alloc (.cells #[.int .i64 x.k, .int .i64 x.i, .int .i64 x.a, .slice ga m gc] 51)) base 49 ty 51 i0 (.agg #[.int .i64 0, .int .i64 0, .int .i64 0, .slice none 0 0]) 4 48 Try.underlying49 hi hz0 hz1 hz2 rfl (by decide) _ _ _ (h.alloc _) ⟨W.heap.size, 0, none⟩ 1 1 [.int .i64 x.k, .int .i64 x.i, .int .i64 x.a, .slice ga m gc] rfl hnew (fun u hu => by
    simp only [List.mem_cons, List.not_mem_nil, or_false] at hu
    rcases hu with rfl | rfl | rfl | rfl <;> rfl) (by unfold maxLen; omega) (by omega) (by simp; omega)
  obtain ⟨a', cap', rfl⟩ := slice_of_own ho
  refine ⟨a', cap', w', hrun, ho, grownBy_trans (World.grownBy_alloc W _ _) hg (fun i e => .inl e), fun g e => ?_⟩
  rcases hw with hw | hw
  · exact .inl (by rw [← hw]; exact e)
  · rw [hw] at e
    have := Option.some.inj e
    exact .inr (by rw [← this]; simp)
theorem trs_grown {w w' : World} {P : Nat → Prop} {cap : Nat} {a : Option Addr} {f : TrF} {row : Option Nat} (h : TrS w P a cap f) (hg : w.grownBy w' row) (hr : ∀ g, P g → row ≠ some g) : TrS w' P a cap f :=
  h.kept (fun b off v hb hv => (World.cell?_of_block (a := ⟨b, off, none⟩) (hg.block b (World.block_lt_of_cell? w _ hv) (fun e => hr b hb e.symm))).trans hv)
theorem trcs_grown {w w' : World} {P : Nat → Prop} {f : TrF} {cs : List Value} {row : Option Nat} (h : TrCs w P f cs) (hg : w.grownBy w' row) (hr : ∀ g, P g → row ≠ some g) : TrCs w' P f cs :=
  h.kept (fun b off v hb hv => (World.cell?_of_block (a := ⟨b, off, none⟩) (hg.block b (World.block_lt_of_cell? w _ hv) (fun e => hr b hb e.symm))).trans hv)
end Go.Proofs.Ythogiakfbgehnaa

namespace Go.Proofs.Ythogiakfbgehnaa
open Go.RowKit Go.Maps

attribute [local go_sem] Oper.semAt_some

end Go.Proofs.Ythogiakfbgehnaa

namespace Go.Proofs.Ythogiakfbgehnaa
open Go.RowKit Go.Maps

attribute [local go_sem] Oper.semAt_some

/-- The world has grown, but for these blocks. -/
structure KeB (bad : Nat → Prop) (w w' : World) : Prop where
  os : w'.os = w.os
  tape : w'.tape = w.tape
  output : w'.output = w.output
  size : w.heap.size ≤ w'.heap.size
  block : ∀ k, k < w.heap.size → ¬ bad k → w'.heap[k]? = w.heap[k]?
theorem KeB.of (bad : Nat → Prop) {w w' : World} (h : Below w.heap.size w w') : KeB bad w w' := ⟨h.os, h.tape, h.output, h.size, fun k hk _ => h.block k hk⟩
theorem KeB.trans {bad : Nat → Prop} {a b c : World} (h : KeB bad a b) (k : KeB bad b c) : KeB bad a c := ⟨k.os.trans h.os, k.tape.trans h.tape, k.output.trans h.output, Nat.le_trans h.size k.size, fun i hi hn => (k.block i (Nat.lt_of_lt_of_le hi h.size) hn).trans (h.block i hi hn)⟩
theorem KeB.set {bad : Nat → Prop} (w : World) (p : Addr) (v : Value) (h : bad p.block) : KeB bad w (w.setCell p v) := ⟨rfl, rfl, rfl, by show _ ≤ (w.heap.modify _ _).size; rw [Array.size_modify]; exact Nat.le_refl _, fun k _ hn => by
  show (w.heap.modify _ _)[k]? = _
  rw [Array.getElem?_modify]
  rw [if_neg (fun e => hn (by rw [← e]; exact h))]⟩
theorem KeB.alloc (bad : Nat → Prop) (w : World) (o : Obj) : KeB bad w (w.alloc o) := KeB.of bad ((Below.refl _ w).alloc (Nat.le_refl _) o)
theorem KeB.mono {bad bad' : Nat → Prop} {w w' : World} (h : KeB bad w w') (hm : ∀ k, bad k → bad' k) : KeB bad' w w' := ⟨h.os, h.tape, h.output, h.size, fun k hk hn => h.block k hk (fun e => hn (hm k e))⟩
theorem KeB.below {bad : Nat → Prop} {B : Nat} {w w' : World} (h : KeB bad w w') (hB : B ≤ w.heap.size) (hb : ∀ k, bad k → B ≤ k) : Below B w w' := ⟨h.os, h.tape, h.output, h.size, fun k hk => h.block k (by omega) (fun e => by have := hb k e; omega)⟩
end Go.Proofs.Ythogiakfbgehnaa

namespace Go.Proofs.Ythogiakfbgehnaa
open Go.RowKit Go.Maps

attribute [local go_sem] Oper.semAt_some

end Go.Proofs.Ythogiakfbgehnaa

namespace Go.Proofs.Ythogiakfbgehnaa
open Go.RowKit Go.Maps

attribute [local go_sem] Oper.semAt_some

end Go.Proofs.Ythogiakfbgehnaa

namespace Go.Proofs.Ythogiakfbgehnaa
open Go.RowKit Go.Maps

attribute [local go_sem] Oper.semAt_some

theorem keb_cell {bad : Nat → Prop} {W W' : World} (hk : KeB bad W W') {b off : Nat} {v : Value} (hn : ¬ bad b) (h : W.cell? ⟨b, off, none⟩ = some v) : W'.cell? ⟨b, off, none⟩ = some v :=
  (World.cell?_of_block (a := ⟨b, off, none⟩) (hk.block b (World.block_lt_of_cell? W _ h) hn)).trans h
theorem trs_keb {w w' : World} {P bad : Nat → Prop} {cap : Nat} {a : Option Addr} {f : TrF} (h : TrS w P a cap f) (hk : KeB bad w w') (hn : ∀ b, P b → ¬ bad b) : TrS w' P a cap f := h.kept (fun _ _ _ hb hv => keb_cell hk (hn _ hb) hv)
end Go.Proofs.Ythogiakfbgehnaa

namespace Go.Proofs.Ythogiakfbgehnaa
open Go.RowKit Go.Maps

attribute [local go_sem] Oper.semAt_some

end Go.Proofs.Ythogiakfbgehnaa

namespace Go.Proofs.Ythogiakfbgehnaa
open Go.RowKit Go.Maps

attribute [local go_sem] Oper.semAt_some

end Go.Proofs.Ythogiakfbgehnaa

namespace Go.Proofs.Ythogiakfbgehnaa
open Go.RowKit Go.Maps

attribute [local go_sem] Oper.semAt_some

theorem KeB.step {bad bad' : Nat → Prop} {w U W : World} (h : KeB bad w U) (k : KeB bad' U W) (hb : ∀ b, bad' b → bad b ∨ w.heap.size ≤ b) : KeB bad w W :=
  ⟨k.os.trans h.os, k.tape.trans h.tape, k.output.trans h.output, Nat.le_trans h.size k.size, fun i hi hn => (k.block i (Nat.lt_of_lt_of_le hi h.size) (fun e => by rcases hb i e with e | e; exact hn e; omega)).trans (h.block i hi hn)⟩
theorem keb_set4 {bad : Nat → Prop} (W : World) (g L : Nat) (h : bad g) (v0 v1 v2 v3 : Value) : KeB bad W ((((W.setCell ⟨g, L, none⟩ v0).setCell ⟨g, L + 1, none⟩ v1).setCell ⟨g, L + 2, none⟩ v2).setCell ⟨g, L + 3, none⟩ v3) :=
  (((KeB.set W ⟨g, L, none⟩ v0 h).trans (KeB.set _ ⟨g, L + 1, none⟩ v1 h)).trans (KeB.set _ ⟨g, L + 2, none⟩ v2 h)).trans (KeB.set _ ⟨g, L + 3, none⟩ v3 h)
end Go.Proofs.Ythogiakfbgehnaa

namespace Go.Proofs.Ythogiakfbgehnaa
open Go.RowKit Go.Maps

attribute [local go_sem] Oper.semAt_some

end Go.Proofs.Ythogiakfbgehnaa

namespace Go.Proofs.Ythogiakfbgehnaa
open Go.RowKit Go.Maps

attribute [local go_sem] Oper.semAt_some

/-- What is answered: a tree, or where, and why there is none. -/
def TreQ (w : World) (r : PsR Tre) (e : Ending) (W : World) : Prop :=
  Below w.heap.size w W ∧ match r with
  | .bad b x => e = .returned (.tuple #[treV ⟨0, 0, 0⟩ none 0 0, .int .i64 (b : Int), .int .i64 x])
  | .ok t _ _ => ∃ ga gc, e = .returned (.tuple #[treV ⟨t.k, t.i, t.a⟩ ga t.l.len gc, .int .i64 0, .int .i64 0]) ∧ TrS W (fun b => w.heap.size ≤ b) ga gc t.l
end Go.Proofs.Ythogiakfbgehnaa

namespace Go.Proofs.Ythogiakfbgehnaa
open Go.RowKit Go.Maps

attribute [local go_sem] Oper.semAt_some

end Go.Proofs.Ythogiakfbgehnaa

namespace Go.Proofs.Ythogiakfbgehnaa
open Go.RowKit Go.Maps

attribute [local go_sem] Oper.semAt_some

/-- A tree in a box, with what was told beside it. -/
def BoxR (W : World) (r : PsR Tre) (nb : Nat) (p x : Int) : Prop := match r with
  | .bad b y => p = (b : Int) ∧ x = y ∧ Blk W nb 51 [.int .i64 0, .int .i64 0, .int .i64 0, .slice none 0 0]
  | .ok t _ _ => p = 0 ∧ x = 0 ∧ ∃ ga gc, Blk W nb 51 [.int .i64 t.k, .int .i64 t.i, .int .i64 t.a, .slice ga t.l.len gc] ∧ TrS W (fun _ => True) ga gc t.l
theorem BoxR.grown {W W' : World} {r : PsR Tre} {nb : Nat} {p x : Int} (h : BoxR W r nb p x) (hb : Below W.heap.size W W') : BoxR W' r nb p x := by
  cases r with
  | bad b y => exact ⟨h.1, h.2.1, h.2.2.below hb h.2.2.lt⟩
  | ok t b q =>
    obtain ⟨h1, h2, ga, gc, h3, h4⟩ := h
    exact ⟨h1, h2, ga, gc, h3.below hb h3.lt, h4.grown hb⟩
/-- What a call tells, as a value; and put into a box. -/
theorem tre_box {w W : World} {r : PsR Tre} {e : Ending} (h : TreQ w r e W) : ∃ k i a ga n gc p x, e = .returned (.tuple #[.agg #[.int .i64 k, .int .i64 i, .int .i64 a, .slice ga n gc], .int .i64 p, .int .i64 x]) ∧ (∀ V nb, Below W.heap.size W V → (nb < w.heap.size ∨ W.heap.size ≤ nb) → Blk V nb 51 [.int .i64 0, .int .i64 0, .int .i64 0, .slice none 0 0] → BoxR ((((V.setCell ⟨nb, 0, none⟩ (.int .i64 k)).setCell ⟨nb, 1, none⟩ (.int .i64 i)).setCell ⟨nb, 2, none⟩ (.int .i64 a)).setCell ⟨nb, 3, none⟩ (.slice ga n gc)) r nb p x) ∧ ∀ V nb, Below W.heap.size W V → Blk V nb 51 [.int .i64 k, .int .i64 i, .int .i64 a, .slice ga n gc] → BoxR V r nb p x := by
  obtain ⟨hb, h⟩ := h
  cases r with
  | bad b y => exact ⟨_, _, _, _, _, _, _, _, h, fun V nb _ _ hB => ⟨rfl, rfl, blk_put4 hB _ _ _ _⟩, fun V nb _ hB => ⟨rfl, rfl, hB⟩⟩
  | ok t b q =>
    obtain ⟨ga, gc, rfl, ht⟩ := h
    refine ⟨_, _, _, _, _, _, _, _, rfl, fun V nb hV hn hB => ⟨rfl, rfl, ga, gc, blk_put4 hB _ _ _ _, ?_⟩, fun V nb hV hB => ⟨rfl, rfl, ga, gc, hB, (ht.imp (fun _ _ _ => trivial)).grown hV⟩⟩
    have h1 := (ht.imp (Q := fun b => w.heap.size ≤ b ∧ b < W.heap.size) (fun b h1 h2 => ⟨h1, h2⟩)).grown hV
    have hk := keb_set4 (bad := fun b => b = nb) V nb 0 rfl (.int .i64 t.k) (.int .i64 t.i) (.int .i64 t.a) (.slice ga t.l.len gc)
    simp only [Nat.zero_add] at hk
    exact (trs_keb h1 hk (fun b h1 e => by obtain ⟨h2, h3⟩ := h1; have e : b = nb := e; omega)).imp (fun _ _ _ => trivial)
theorem ints_take {w : World} {a : Option Addr} {cap : Nat} {l : List Int} (h : Ints w a cap l) (i : Nat) (hi : i ≤ l.length) : Ints w a cap (l.take i) where
  le := by rw [List.length_map, List.length_take]; have := h.le; rw [List.length_map] at this; omega
  max := h.max
  nil_ := h.nil_
  at_ := fun j hj => h.at_ j (by rw [List.length_map, List.length_take] at hj; rw [List.length_map]; omega)
  cell := fun b off e j hj => by
    have hj2 : j < (l.map (Value.int .i64)).length := by rw [List.length_map, List.length_take] at hj; rw [List.length_map]; omega
    rw [h.cell b off e j hj2]
    simp
/-- append(a, b...), and what it writes into. -/
theorem OwnKZ.app2 {w : World} {base cap : Nat} {a : Option Addr} {l : List Int} (h : OwnKZ w base a cap l) (b' : Addr) (bc : Nat) (m : List Int) (hm : Ints w (some b') bc m) (ty : TypeId) (hn : l.length + m.length ≤ 1099511627780) (hb : base ≤ w.heap.size) :
    ∃ a' c' w', (Builtin.append_ #[35, 35] ty #[.slice a l.length cap, .slice (some b') m.length bc]).run Try.prog w = .ok (.slice a' (l.length + m.length) c') w' ∧
      OwnKZ w' base a' c' (l ++ m) ∧ w.grownBy w' (Value.slice a l.length cap).ownBlock ∧ ((Value.slice a' (l.length + m.length) c').ownBlock = (Value.slice a l.length cap).ownBlock ∨ (Value.slice a' (l.length + m.length) c').ownBlock = some w.heap.size) := by
  obtain ⟨i0, hi, hz0, hz1, hz2⟩ := info_parts info_keyZ
  have hnew : ∀ j u, (m.map (Value.int .i64))[j]? = some u → w.cell? (b'.add j) = some u := by
    intro j u hj
    have hjl : j < (m.map (Value.int .i64)).length := (List.getElem?_eq_some_iff.1 hj).1
    obtain ⟨b2, off, e⟩ := hm.at_ j hjl
    have e := Option.some.inj e
    subst e
    have := hm.cell b2 off rfl j hjl
    rw [show (⟨b2, off, none⟩ : Addr).add j = ⟨b2, off + j, none⟩ from by unfold Addr.add; split <;> simp_all]
    exact this.trans ((List.getElem?_eq_getElem hjl).symm.trans hj)
  obtain ⟨v', w', hrun, ho, hg, _, hw⟩ := run_append_own_at (P := Try.prog) (w := w) base 35 ty 3 i0 _ 1 8 Try.underlying35 hi hz0 hz1 hz2 rfl (by decide) _ l.length _ h b' m.length bc (m.map (Value.int .i64)) (by simp) hnew (fun u hu => by
    obtain ⟨x, _, rfl⟩ := List.mem_map.1 hu
    rfl) (by unfold maxLen; omega) (by omega) hb
  obtain ⟨a', cap', rfl⟩ := slice_of_own ho
  refine ⟨a', cap', w', hrun, ?_, hg, hw⟩
  unfold OwnKZ
  rw [List.map_append, List.length_append]
  exact ho
theorem OwnKZ.belowZ {w w' : World} {base cap : Nat} {a : Option Addr} {l : List Int} (h : OwnKZ w base a cap l) (hb : Below w.heap.size w w') : OwnKZ w' base a cap l := World.ownsRow.kept h (below_grownBy hb none) (by cases (Value.slice a l.length cap).ownBlock <;> simp)
theorem Below.put4 {B : Nat} {w V : World} (h : Below B w V) {nb : Nat} (hn : B ≤ nb) (v0 v1 v2 v3 : Value) : Below B w ((((V.setCell ⟨nb, 0, none⟩ v0).setCell ⟨nb, 1, none⟩ v1).setCell ⟨nb, 2, none⟩ v2).setCell ⟨nb, 3, none⟩ v3) :=
  (((h.setCell (p := ⟨nb, 0, none⟩) hn v0).setCell (p := ⟨nb, 1, none⟩) hn v1).setCell (p := ⟨nb, 2, none⟩) hn v2).setCell (p := ⟨nb, 3, none⟩) hn v3
end Go.Proofs.Ythogiakfbgehnaa

