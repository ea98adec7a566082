/- appendHead of a Text, of a List, and of what may not be. -/
import Derived.Test.YtahibjiiaocjkaaHead
import Derived.Deep.RegionLaw
namespace Go.Proofs.Ytahibjiiaocjkaa
open Go.RowKit

set_option maxRecDepth 100000 in
set_option maxHeartbeats 400000 in
theorem head_list (h : Hd) (a sa : Option Addr) (l c len cap base : Nat) (ys : List UInt8) (w : World) (ho : OwnB w base a l c ys) (hl : l + 30 ≤ 140737488355328) (hbase : base ≤ w.heap.size) (hn : len < 9223372036854775808) (hk : (h.k == 1) = false) (hk2 : (h.k == 2) = false) :
    Calls Try.prog 41 #[.slice a l c, itemV h sa len cap] w fun e w' => ∃ a' c', e = .returned (.slice a' (l + (headB h len).length) c') ∧ OwnB w' base a' (l + (headB h len).length) c' (ys ++ headB h len) ∧ Only base 5 w w' := by
  obtain ⟨a2, c2, w2, hrun, ho2, hon, hbx⟩ := head_first h a sa l c len cap base ys w 31 ho (by omega) hbase
  have Hr := Lib.hid hrun
  have x0 := hbx.cell 0
  have x3 := hbx.cell 3
  simp only [List.getElem?_cons_zero, List.getElem?_cons_succ] at x0 x3
  have hfin := Lib.hid (show headB h len = byteK h.k :: countB len by unfold headB; rw [if_neg (by simp [hk]), if_neg (by simp [hk2])])
  have hsz := hon.size
  clear hrun
  go_enter Try.func41, Try.ntmps41
  go_wp2_with (first | (at_builtin; refine wpList_append_run rfl _ _ 31 31 rfl _ _ _ _ rfl rfl Hr.out ?_) | (go_at_call 50; (with_reducible refine (appendCount_any a2 (l + 1) c2 len base _ w2 ho2 (by omega) (by omega) (by omega)).mono ?_); rintro e w4 ⟨a4, c4, rfl, ho4, hon4⟩))
  go_ret
  have hlen : l + (headB h len).length = l + 1 + (countB len).length := by rw [hfin.out]; simp; omega
  exact ⟨a4, c4, by rw [hlen]; rfl, by rw [hlen, hfin.out]; simpa using ho4, hon.trans hon4⟩

set_option maxRecDepth 100000 in
set_option maxHeartbeats 400000 in
theorem head_text (h : Hd) (a sa : Option Addr) (l c len cap base : Nat) (ys : List UInt8) (w : World) (ho : OwnB w base a l c ys) (hl : l + 30 + h.s.size ≤ 140737488355328) (hbase : base ≤ w.heap.size) (hk : (h.k == 1) = false) (hk2 : (h.k == 2) = true) :
    Calls Try.prog 41 #[.slice a l c, itemV h sa len cap] w fun e w' => ∃ a' c', e = .returned (.slice a' (l + (headB h len).length) c') ∧ OwnB w' base a' (l + (headB h len).length) c' (ys ++ headB h len) ∧ Only base 5 w w' := by
  obtain ⟨a2, c2, w2, hrun, ho2, hon, hbx⟩ := head_first h a sa l c len cap base ys w 31 ho (by omega) hbase
  have Hr := Lib.hid hrun
  have x0 := hbx.cell 0
  have x2 := hbx.cell 2
  simp only [List.getElem?_cons_zero, List.getElem?_cons_succ] at x0 x2
  have hfin := Lib.hid (show headB h len = byteK h.k :: (countB h.s.size ++ h.s.data.toList) by unfold headB; rw [if_neg (by simp [hk]), if_pos hk2])
  have hsz := hon.size
  have hcl := countB_length (n := h.s.size) (by omega)
  obtain ⟨hcl1, hcl2⟩ := hcl
  have ho2d : OwnB w2.drew base a2 (l + 1) c2 _ := World.ownsRow.drew ho2
  have hbase2 : base ≤ w2.drew.heap.size := by show base ≤ w2.heap.size; omega
  clear hrun
  go_enter Try.func41, Try.ntmps41
  go_wp2_with (at_builtin; refine wpList_append_run rfl _ _ 31 31 rfl _ _ _ _ rfl rfl Hr.out ?_)
  go_region_law (first | (refine step_append_run rfl (.tmp 30) (.tmp 32) 31 9 rfl _ _ _ _ rfl rfl Hr5.out ?_) | (go_simp; go_at_call 50; (with_reducible refine (appendCount_any a2 (l + 1) c2 h.s.size base _ w2.drew ho2d (by omega) (by omega) hbase2).mono ?_); rintro e w4 ⟨a4, c4, rfl, ho4, hon4⟩; have hbx4 := hon4.blk (show Blk w2.drew w.heap.size _ _ from hbx) (by decide); have z2 := hbx4.cell 2; simp only [List.getElem?_cons_zero, List.getElem?_cons_succ] at z2; obtain ⟨a5, c5, w5, hrun5, ho5, hg5⟩ := run_append_str w4 31 ho4 h.s (by omega) (Nat.le_trans hbase2 hon4.size); have hon5 := (hon.trans (Only.drew w2)).trans (hon4.trans (ho4.only hg5)); have Hr5 := Lib.hid hrun5; clear hbx4 ho4 hg5 hon4 hrun5))
  all_goals
    have hlen : l + (headB h len).length = l + 1 + (countB h.s.size).length + h.s.size := by
      rw [hfin.out]
      have : h.s.data.toList.length = h.s.size := by rw [Array.length_toList]; rfl
      simp only [List.length_cons, List.length_append, this]; omega
    have Hlen := Lib.hid hlen
    have Ho5 := Lib.hid ho5
    clear hlen ho5
    go_simp
    go_wp2
    go_ret
    exact ⟨_, _, by rw [Hlen.out]; rfl, by rw [Hlen.out, hfin.out]; simpa using Ho5.out, hon5⟩

theorem head_any (h : Hd) (a sa : Option Addr) (l c len cap base : Nat) (ys : List UInt8) (w : World) (ho : OwnB w base a l c ys) (hl : l + 30 + h.s.size ≤ 140737488355328) (hbase : base ≤ w.heap.size) (hn : len < 9223372036854775808) :
    Calls Try.prog 41 #[.slice a l c, itemV h sa len cap] w fun e w' => ∃ a' c', e = .returned (.slice a' (l + (headB h len).length) c') ∧ OwnB w' base a' (l + (headB h len).length) c' (ys ++ headB h len) ∧ Only base 5 w w' := by
  by_cases hk : (h.k == 1) = true
  · exact head_num h a sa l c len cap base ys w ho (by omega) hbase hk
  · by_cases hk2 : (h.k == 2) = true
    · exact head_text h a sa l c len cap base ys w ho hl hbase (by simpa using hk) hk2
    · exact head_list h a sa l c len cap base ys w ho (by omega) hbase hn (by simpa using hk) (by simpa using hk2)

end Go.Proofs.Ytahibjiiaocjkaa
