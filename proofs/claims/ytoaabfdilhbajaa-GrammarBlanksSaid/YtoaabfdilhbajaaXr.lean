/- Layer 7: lists of names that are the same. -/
import Derived.Test.YtoaabfdilhbajaaXq
import Derived.BigRegion
namespace Go.Proofs.Ytoaabfdilhbajaa
open Go.RowKit Go.Shelf

attribute [local go_sem] Oper.semAt_some

theorem str_ne {s t : ByteArray} (h : ¬ s = t) : (s.toList == t.toList) = false := by
  rw [beq_eq_false_iff_ne]
  intro e
  rw [toList_is, toList_is] at e
  exact h (by cases s; cases t; rename_i x y; simp at e; rw [e])

set_option maxRecDepth 100000 in
set_option maxHeartbeats 1000000 in
theorem sameNames_any (a b : Option Addr) (ac bc : Nat) (l m : List ByteArray) (w : World) (hl : Nms w a ac l) (hm : Nms w b bc m) :
    Calls Try.prog 28 #[.slice a l.length ac, .slice b m.length bc] w fun e w' => e = .returned (.bool (decide (l = m))) ∧ Below w.heap.size w w' := by
  have hle : l.length ≤ ac := by have := hl.le; rwa [List.length_map] at this
  have hmx := hl.max
  have hle2 : m.length ≤ bc := by have := hm.le; rwa [List.length_map] at this
  have hmx2 := hm.max
  obtain ⟨L, HL⟩ : ∃ L, Hid (l.length = L) := ⟨_, Lib.hid rfl⟩
  obtain ⟨M, HM⟩ : ∃ L, Hid (m.length = L) := ⟨_, Lib.hid rfl⟩
  rw [HL.out] at hle ⊢
  rw [HM.out] at hle2 ⊢
  by_cases hLM : L = M
  · subst hLM
    go_enter Try.func28, Try.ntmps28
    go_wp2_with (fail)
    go_loopw [5, 13] (fun _ i wr => ∃ (k : Nat), k ≤ L ∧ i = .int .i64 (k : Int) ∧ l.take k = m.take k ∧ Below w.heap.size w wr) (fun _ i _ => L - (intOf i).toNat)
    case atStart => exact ⟨0, by omega, rfl, rfl, Below.refl _ w⟩
    case round =>
      obtain ⟨k, hk, rfl, hr, hbr⟩ := hrel
      have HR := Lib.hid hr
      clear hr
      by_cases hlt : k < L
      · have hkl : k < l.length := by rw [HL.out]; exact hlt
        have hkm : k < m.length := by rw [HM.out]; exact hlt
        have hkI : (k : Int) < (L : Int) := by omega
        have hkI0 : (0 : Int) ≤ (k : Int) := by omega
        obtain ⟨b1, o1, rfl⟩ := hl.at_ k (by rw [List.length_map]; exact hkl)
        obtain ⟨b2, o2, rfl⟩ := hm.at_ k (by rw [List.length_map]; exact hkm)
        have c0 := (hl.grown hbr).cell b1 o1 rfl k (by rw [List.length_map]; exact hkl)
        have d0 := (hm.grown hbr).cell b2 o2 rfl k (by rw [List.length_map]; exact hkm)
        rw [List.getElem_map] at c0 d0
        obtain ⟨s, HS⟩ : ∃ s, Hid (l[k] = s) := ⟨_, Lib.hid rfl⟩
        obtain ⟨t, HT⟩ : ∃ s, Hid (m[k] = s) := ⟨_, Lib.hid rfl⟩
        rw [HS.out] at c0
        rw [HT.out] at d0
        have hmore : Hid (l.take (k + 1) = l.take k ++ [s] ∧ m.take (k + 1) = m.take k ++ [t]) := Lib.hid ⟨by rw [List.take_add_one, List.getElem?_eq_getElem hkl, HS.out]; rfl, by rw [List.take_add_one, List.getElem?_eq_getElem hkm, HT.out]; rfl⟩
        have hne : Hid (s ≠ t → decide (l = m) = false) := Lib.hid (fun h => decide_eq_false (fun e => h (by rw [← HS.out, ← HT.out]; subst e; rfl)))
        have hbd : Below w.heap.size w wr := hbr
        have hbl := World.block_lt_of_cell? _ _ c0
        have hbl2 := World.block_lt_of_cell? _ _ d0
        by_cases e1 : s = t
        · subst e1
          clear hl hm
          go_wp2_with (fail)
          go_region
          all_goals
            go_wp2_with (fail)
            go_roundw
          case rel => exact ⟨k + 1, by omega, by go_num, by rw [hmore.out.1, hmore.out.2, HR.out], hbd.drew⟩
          case measure => simp [intOf]; omega
        · have e3 : (s.toList == t.toList) = false := str_ne e1
          have hF := Lib.hid (hne.out e1)
          clear hl hm
          go_wp2_with (fail)
          go_region
          go_wp2_with (fail)
          exact bodyPost_ret (v := .bool false) (by simp [results, Try.results28, go_sem]; try rfl) rfl ⟨by rw [hF.out], hbd.drew⟩
      · obtain rfl : k = L := by omega
        have hT : Hid (decide (l = m) = true) := Lib.hid (decide_eq_true (by have := HR.out; rwa [List.take_of_length_le (by rw [HL.out]; exact Nat.le_refl _), List.take_of_length_le (by rw [HM.out]; exact Nat.le_refl _)] at this))
        go_wp2_with (fail)
        exact bodyPost_ret (v := .bool true) (by simp [results, Try.results28, go_sem]; try rfl) rfl ⟨by rw [hT.out], hbr⟩
  · have hF : Hid (decide (l = m) = false) := Lib.hid (decide_eq_false (fun e => hLM (by rw [← HL.out, ← HM.out, e])))
    have hne : ((L : Int) == (M : Int)) = false := by rw [beq_eq_false_iff_ne]; omega
    go_enter Try.func28, Try.ntmps28
    go_wp2_with (fail)
    all_goals first
      | exact bodyPost_ret (v := .bool false) (by simp [results, Try.results28, go_sem]; try rfl) rfl ⟨by rw [hF.out], Below.refl _ w⟩
      | (exfalso; omega)

set_option maxRecDepth 100000 in
set_option maxHeartbeats 1000000 in
theorem sEqual_any (a b : Option Addr) (ac bc : Nat) (l m : List ByteArray) (w : World) (hl : Nms w a ac l) (hm : Nms w b bc m) :
    Calls Try.prog 27 #[.slice a l.length ac, .slice b m.length bc] w fun e w' => e = .returned (.bool (decide (l = m))) ∧ Below w.heap.size w w' := by
  have hle : l.length ≤ ac := by have := hl.le; rwa [List.length_map] at this
  have hmx := hl.max
  have hle2 : m.length ≤ bc := by have := hm.le; rwa [List.length_map] at this
  have hmx2 := hm.max
  obtain ⟨L, HL⟩ : ∃ L, Hid (l.length = L) := ⟨_, Lib.hid rfl⟩
  obtain ⟨M, HM⟩ : ∃ L, Hid (m.length = L) := ⟨_, Lib.hid rfl⟩
  rw [HL.out] at hle ⊢
  rw [HM.out] at hle2 ⊢
  by_cases hLM : L = M
  · subst hLM
    go_enter Try.func27, Try.ntmps27
    go_wp2_with (fail)
    go_loopw [5, 13] (fun _ i wr => ∃ (k : Nat), k ≤ L ∧ i = .int .i64 (k : Int) ∧ l.take k = m.take k ∧ Below w.heap.size w wr) (fun _ i _ => L - (intOf i).toNat)
    case atStart => exact ⟨0, by omega, rfl, rfl, Below.refl _ w⟩
    case round =>
      obtain ⟨k, hk, rfl, hr, hbr⟩ := hrel
      have HR := Lib.hid hr
      clear hr
      by_cases hlt : k < L
      · have hkl : k < l.length := by rw [HL.out]; exact hlt
        have hkm : k < m.length := by rw [HM.out]; exact hlt
        have hkI : (k : Int) < (L : Int) := by omega
        have hkI0 : (0 : Int) ≤ (k : Int) := by omega
        obtain ⟨b1, o1, rfl⟩ := hl.at_ k (by rw [List.length_map]; exact hkl)
        obtain ⟨b2, o2, rfl⟩ := hm.at_ k (by rw [List.length_map]; exact hkm)
        have c0 := (hl.grown hbr).cell b1 o1 rfl k (by rw [List.length_map]; exact hkl)
        have d0 := (hm.grown hbr).cell b2 o2 rfl k (by rw [List.length_map]; exact hkm)
        rw [List.getElem_map] at c0 d0
        obtain ⟨s, HS⟩ : ∃ s, Hid (l[k] = s) := ⟨_, Lib.hid rfl⟩
        obtain ⟨t, HT⟩ : ∃ s, Hid (m[k] = s) := ⟨_, Lib.hid rfl⟩
        rw [HS.out] at c0
        rw [HT.out] at d0
        have hmore : Hid (l.take (k + 1) = l.take k ++ [s] ∧ m.take (k + 1) = m.take k ++ [t]) := Lib.hid ⟨by rw [List.take_add_one, List.getElem?_eq_getElem hkl, HS.out]; rfl, by rw [List.take_add_one, List.getElem?_eq_getElem hkm, HT.out]; rfl⟩
        have hne : Hid (s ≠ t → decide (l = m) = false) := Lib.hid (fun h => decide_eq_false (fun e => h (by rw [← HS.out, ← HT.out]; subst e; rfl)))
        have hbd : Below w.heap.size w wr := hbr
        have hbl := World.block_lt_of_cell? _ _ c0
        have hbl2 := World.block_lt_of_cell? _ _ d0
        by_cases e1 : s = t
        · subst e1
          clear hl hm
          go_wp2_with (fail)
          go_region
          all_goals
            go_wp2_with (fail)
            go_roundw
          case rel => exact ⟨k + 1, by omega, by go_num, by rw [hmore.out.1, hmore.out.2, HR.out], hbd.drew⟩
          case measure => simp [intOf]; omega
        · have e3 : (s.toList == t.toList) = false := str_ne e1
          have hF := Lib.hid (hne.out e1)
          clear hl hm
          go_wp2_with (fail)
          go_region
          go_wp2_with (fail)
          exact bodyPost_ret (v := .bool false) (by simp [results, Try.results27, go_sem]; try rfl) rfl ⟨by rw [hF.out], hbd.drew⟩
      · obtain rfl : k = L := by omega
        have hT : Hid (decide (l = m) = true) := Lib.hid (decide_eq_true (by have := HR.out; rwa [List.take_of_length_le (by rw [HL.out]; exact Nat.le_refl _), List.take_of_length_le (by rw [HM.out]; exact Nat.le_refl _)] at this))
        go_wp2_with (fail)
        exact bodyPost_ret (v := .bool true) (by simp [results, Try.results27, go_sem]; try rfl) rfl ⟨by rw [hT.out], hbr⟩
  · have hF : Hid (decide (l = m) = false) := Lib.hid (decide_eq_false (fun e => hLM (by rw [← HL.out, ← HM.out, e])))
    have hne : ((L : Int) == (M : Int)) = false := by rw [beq_eq_false_iff_ne]; omega
    go_enter Try.func27, Try.ntmps27
    go_wp2_with (fail)
    all_goals first
      | exact bodyPost_ret (v := .bool false) (by simp [results, Try.results27, go_sem]; try rfl) rfl ⟨by rw [hF.out], Below.refl _ w⟩
      | (exfalso; omega)
end Go.Proofs.Ytoaabfdilhbajaa
