/- Texts joined: Kd Ke Kf. -/
import Derived.Test.YtngbfjimmdkfeaaPXK2
import Derived.Test.YtngbfjimmdkfeaaPXM
import Derived.BigRegion
set_option linter.unusedVariables false
set_option linter.unusedSimpArgs false
namespace Go.Proofs.Ytngbfjimmdkfeaa
open Go.RowKit Go.Shelf

attribute [local go_sem] Oper.semAt_some

set_option maxRecDepth 100000 in
set_option maxHeartbeats 1000000 in
theorem sameInts_any (a b : Option Addr) (ac bc : Nat) (l m : List Int) (w : World) (hl : Ints w a ac l) (hm : Ints w b bc m) :
    Calls Try.prog 42 #[.slice a l.length ac, .slice b m.length bc] w fun e w' => e = .returned (.bool (decide (l = m))) ∧ Below w.heap.size w w' := by
  have hle := hl.le
  have hmx := hl.max
  have hle2 := hm.le
  have hmx2 := hm.max
  obtain ⟨L, HL⟩ : ∃ L, Hid (l.length = L) := ⟨_, Lib.hid rfl⟩
  obtain ⟨M, HM⟩ : ∃ L, Hid (m.length = L) := ⟨_, Lib.hid rfl⟩
  rw [HL.out] at hle ⊢
  rw [HM.out] at hle2 ⊢
  by_cases hLM : L = M
  · subst hLM
    go_enter Try.func42, Try.ntmps42
    go_wp2_with (fail)
    go_loopw [5, 13] (fun _ i wr => ∃ (k : Nat), k ≤ L ∧ i = .int .i64 (k : Int) ∧ l.take k = m.take k ∧ Below w.heap.size w wr) (fun _ i _ => L - (intOf i).toNat)
    case atStart => exact ⟨0, by omega, rfl, rfl, Below.refl _ w⟩
    case round =>
      obtain ⟨k, hk, rfl, hr, hbr⟩ := hrel
      have HR := Lib.hid hr
      clear hr
      by_cases hlt : k < L
      · have hkl : k < l.length := by rw [HL.out]; exact hlt
        have hkm : k < m.length := by rw [HM.out]; exact hlt
        have hkI : (k : Int) < (L : Int) := by omega
        have hkI0 : (0 : Int) ≤ (k : Int) := by omega
        obtain ⟨b1, o1, rfl⟩ := hl.at_ k hkl
        obtain ⟨b2, o2, rfl⟩ := hm.at_ k hkm
        have c0 := (hl.grown hbr).cell b1 o1 rfl k hkl
        have d0 := (hm.grown hbr).cell b2 o2 rfl k hkm
        obtain ⟨s, HS⟩ : ∃ s, Hid (l[k] = s) := ⟨_, Lib.hid rfl⟩
        obtain ⟨t, HT⟩ : ∃ s, Hid (m[k] = s) := ⟨_, Lib.hid rfl⟩
        rw [HS.out] at c0
        rw [HT.out] at d0
        have hmore : Hid (l.take (k + 1) = l.take k ++ [s] ∧ m.take (k + 1) = m.take k ++ [t]) := Lib.hid ⟨by rw [List.take_add_one, List.getElem?_eq_getElem hkl, HS.out]; rfl, by rw [List.take_add_one, List.getElem?_eq_getElem hkm, HT.out]; rfl⟩
        have hne : Hid (s ≠ t → decide (l = m) = false) := Lib.hid (fun h => decide_eq_false (fun e => h (by rw [← HS.out, ← HT.out]; subst e; rfl)))
        have hbd : Below w.heap.size w wr := hbr
        have hbl := World.block_lt_of_cell? _ _ c0
        have hbl2 := World.block_lt_of_cell? _ _ d0
        by_cases e1 : s = t
        · subst e1
          clear hl hm
          go_wp2_with (fail)
          go_region
          all_goals
            go_wp2_with (fail)
            go_roundw
          case rel => exact ⟨k + 1, by omega, by go_num, by rw [hmore.out.1, hmore.out.2, HR.out], hbd.drew⟩
          case measure => simp [intOf]; omega
        · have e3 : (s == t) = false := by rw [beq_eq_false_iff_ne]; exact e1
          have hF := Lib.hid (hne.out e1)
          clear hl hm
          go_wp2_with (fail)
          go_region
          go_wp2_with (fail)
          exact bodyPost_ret (v := .bool false) (by simp [results, Try.results42, go_sem]; try rfl) rfl ⟨ret_bool hF.out.symm, hbd.drew⟩
      · obtain rfl : k = L := by omega
        have hT : Hid (decide (l = m) = true) := Lib.hid (decide_eq_true (by have := HR.out; rwa [List.take_of_length_le (by rw [HL.out]; exact Nat.le_refl _), List.take_of_length_le (by rw [HM.out]; exact Nat.le_refl _)] at this))
        go_wp2_with (fail)
        exact bodyPost_ret (v := .bool true) (by simp [results, Try.results42, go_sem]; try rfl) rfl ⟨ret_bool hT.out.symm, hbr⟩
  · have hF : Hid (decide (l = m) = false) := Lib.hid (decide_eq_false (fun e => hLM (by rw [← HL.out, ← HM.out, e])))
    have hne : ((L : Int) == (M : Int)) = false := by rw [beq_eq_false_iff_ne]; omega
    go_enter Try.func42, Try.ntmps42
    go_wp2_with (fail)
    all_goals first
      | exact bodyPost_ret (v := .bool false) (by simp [results, Try.results42, go_sem]; try rfl) rfl ⟨ret_bool hF.out.symm, Below.refl _ w⟩
      | (exfalso; omega)

/-- a. -/
abbrev hA : Hd := ⟨2, [⟨97, 97⟩]⟩
/-- a, and a*. -/
abbrev fSt : Fo := .cons hA .nil (.cons ⟨5, []⟩ (.cons hA .nil .nil) .nil)

/-- Where the expressions of a list begin. -/
theorem Items.of {w : World} {f : Fo} {b off cap : Nat} (h : Elems w f b off) (hl : f.len ≤ cap) (hc : cap ≤ 9223372036854775807) : Items w (some ⟨b, off, none⟩) cap f :=
  ⟨hl, hc, fun e => (by cases e), fun _ => ⟨_, _, rfl, h⟩⟩
/-- The second one alone. -/
abbrev fS1 : Fo := .cons ⟨5, []⟩ (.cons hA .nil .nil) .nil
theorem st_err : errF fSt = 0 ∧ errF fS1 = 0 ∧ stF fSt = 4 ∧ stF fS1 = 3 := ⟨by kernel_rfl, by kernel_rfl, by kernel_rfl, by kernel_rfl⟩
theorem st_size : fSt.size = 3 ∧ fS1.size = 2 := ⟨by kernel_rfl, by kernel_rfl⟩
theorem st_nfB : nfB (autF fSt) = true := by kernel_rfl
theorem st_n : (autF fSt).n = 5 ∧ (autF fSt).es.length = 5 ∧ (autF fSt).ends.length = 2 := ⟨rfl, rfl, rfl⟩
end Go.Proofs.Ytngbfjimmdkfeaa

namespace Go.Proofs.Ytngbfjimmdkfeaa
open Go.RowKit Go.Shelf

attribute [local go_sem] Oper.semAt_some

end Go.Proofs.Ytngbfjimmdkfeaa

namespace Go.Proofs.Ytngbfjimmdkfeaa
open Go.RowKit Go.Shelf

attribute [local go_sem] Oper.semAt_some

theorem st_size3 : ∀ (f : Fo), stF f + f.len ≤ 3 * f.size
  | .nil => Nat.le_refl _
  | .cons h k r => by
    have h1 := st_size3 k
    have h2 := st_size3 r
    have h3 : stX h k.len (stF k) ≤ stF k + k.len + 2 := by unfold stX; split <;> (try split) <;> (try split) <;> omega
    simp only [stF, Fo.len, Fo.size]
    omega
theorem bigF_size {m : Nat} : ∀ (f : Fo), bigF (m : Int) f = false → f.size ≤ m * f.len
  | .nil, _ => Nat.zero_le _
  | .cons h k r, e => by
    simp only [bigF, Bool.or_eq_false_iff, Bool.not_eq_false'] at e
    have h1 := bigF_size r e.2
    have h2 := e.1
    unfold fewB at h2
    have h3 := of_decide_eq_true h2
    have h4 := k.size_wt
    simp only [Fo.size, Fo.len]
    rw [Nat.mul_succ]
    omega
theorem ElAt.bigm {w : World} {b off k sc xcap : Nat} {kids ks : Fo} {hd : Hd} {sa xa : Option Addr} (m : Int) (h : ElAt w b off k kids hd ks sa sc xa xcap) : bigF m (kids.drop k) = (!fewB m hd ks || bigF m (kids.drop (k + 1))) := by
  rw [h.cut, Fo.drop_succ _ _ _ _ _ h.cut]
  simp only [bigF]

end Go.Proofs.Ytngbfjimmdkfeaa

