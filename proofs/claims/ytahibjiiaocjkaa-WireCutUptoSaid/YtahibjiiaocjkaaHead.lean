/- appendHead: an item's own bytes, up to those of its list's items. -/
import Derived.Test.YtahibjiiaocjkaaCountW
import Derived.Test.YtahibjiiaocjkaaCheck
namespace Go.Proofs.Ytahibjiiaocjkaa
open Go.RowKit

def byteK (k : Int) : UInt8 := UInt8.ofNat (k % 256).toNat
def u64N (n : Int) : Nat := (n % 18446744073709551616).toNat

/-- An item's bytes up to those of its list's items. -/
def headB (h : Hd) (len : Nat) : List UInt8 :=
  byteK h.k :: (if h.k == 1 then hiB 8 (u64N h.n) else if h.k == 2 then countB h.s.size ++ h.s.data.toList else countB len)

theorem bv_byteK (k : Int) : Value.int .u8 (k % 256) = bv (byteK k) := by
  unfold byteK
  rw [bv, UInt8.toNat_ofNat']
  congr 1
  omega

theorem bytes_of_blk0 {w : World} {g e cap off : Nat} {cs : List Value} {xs : List UInt8} (hB : Blk w g e cs) (hle : xs.length ≤ cap) (hm : cap ≤ 9223372036854775807)
    (h : ∀ i, (hi : i < xs.length) → cs[off + i]? = some (bv xs[i])) : Bytes w (some ⟨g, off, none⟩) cap xs :=
  ⟨hle, hm, fun i _ => ⟨g, off, rfl⟩, fun b o e i hi => by
    cases e
    rw [← h i hi]
    exact hB.cell (off + i), fun e => by cases e⟩

theorem own_ne_blk {w : World} {base n cap g e : Nat} {a : Option Addr} {xs : List UInt8} {cs : List Value} (h : OwnB w base a n cap xs) (hB : Blk w g e cs) (he : e ≠ 5) : (Value.slice a n cap).ownBlock ≠ some g := by
  intro e1
  obtain ⟨_, cs', fr, e2⟩ := h.row g e1
  rw [show w.heap[g]? = _ from hB] at e2
  cases e2
  exact he rfl

/-- The first step: the byte of the kind. -/
theorem head_first (h : Hd) (a sa : Option Addr) (l c len cap base : Nat) (ys : List UInt8) (w : World) (ty : TypeId) (ho : OwnB w base a l c ys) (hl : l + 1 ≤ 140737488355328) (hbase : base ≤ w.heap.size) :
    ∃ a2 c2 w2, (Builtin.append_ #[31, 31] ty #[.slice a l c, .slice (some ⟨w.heap.size + 1, 0, none⟩) 1 1]).run Try.prog ((w.alloc (.cells #[.int .i64 h.k, .int .i64 h.n, .string h.s, .slice sa len cap] 24)).alloc (.cells #[.int .u8 (h.k % 256)] 5)) = .ok (.slice a2 (l + 1) c2) w2 ∧
      OwnB w2 base a2 (l + 1) c2 (ys ++ [byteK h.k]) ∧ Only base 5 w w2 ∧ Blk w2 w.heap.size 24 [.int .i64 h.k, .int .i64 h.n, .string h.s, .slice sa len cap] := by
  have ho1 : OwnB (w.alloc (.cells #[.int .i64 h.k, .int .i64 h.n, .string h.s, .slice sa len cap] 24)) base a l c ys := World.ownsRow.alloc ho _
  obtain ⟨a2, c2, w2, hrun, ho2, hg2⟩ := run_append_one _ ty ho1 (byteK h.k) _ (bv_byteK h.k) hl (by simp; omega)
  rw [World.size_alloc] at hrun
  have hon := ho1.only hg2
  exact ⟨a2, c2, w2, hrun, ho2, (Only.alloc _ _).trans hon, hon.blk (Blk.new w 24 #[.int .i64 h.k, .int .i64 h.n, .string h.s, .slice sa len cap]) (by decide)⟩

set_option maxRecDepth 100000 in
set_option maxHeartbeats 400000 in
theorem head_num (h : Hd) (a sa : Option Addr) (l c len cap base : Nat) (ys : List UInt8) (w : World) (ho : OwnB w base a l c ys) (hl : l + 30 ≤ 140737488355328) (hbase : base ≤ w.heap.size) (hk : (h.k == 1) = true) :
    Calls Try.prog 41 #[.slice a l c, itemV h sa len cap] w fun e w' => ∃ a' c', e = .returned (.slice a' (l + (headB h len).length) c') ∧ OwnB w' base a' (l + (headB h len).length) c' (ys ++ headB h len) ∧ Only base 5 w w' := by
  obtain ⟨a2, c2, w2, hrun, ho2, hon, hbx⟩ := head_first h a sa l c len cap base ys w 31 ho (by omega) hbase
  have Hr := Lib.hid hrun
  have x0 := hbx.cell 0
  have x1 := hbx.cell 1
  simp only [List.getElem?_cons_zero, List.getElem?_cons_succ] at x0 x1
  have hfin := Lib.hid (show headB h len = byteK h.k :: hiB 8 (u64N h.n) by unfold headB; rw [if_pos hk])
  clear hrun
  go_enter Try.func41, Try.ntmps41
  go_wp2_with (at_builtin; refine wpList_append_run rfl _ _ 31 31 rfl _ _ _ _ rfl rfl Hr.out ?_)
  have hg3 : w2.grownBy (w2.alloc (.cells #[.int .u8 0, .int .u8 0, .int .u8 0, .int .u8 0, .int .u8 0, .int .u8 0, .int .u8 0, .int .u8 0] 70)) none := World.grownBy_alloc _ _ _
  have hon3 : Only base 5 w2 (w2.alloc (.cells #[.int .u8 0, .int .u8 0, .int .u8 0, .int .u8 0, .int .u8 0, .int .u8 0, .int .u8 0, .int .u8 0] 70)) := Only.alloc _ _
  have hB3 := Blk.new w2 70 #[.int .u8 0, .int .u8 0, .int .u8 0, .int .u8 0, .int .u8 0, .int .u8 0, .int .u8 0, .int .u8 0]
  have ho3 : OwnB (w2.alloc (.cells #[.int .u8 0, .int .u8 0, .int .u8 0, .int .u8 0, .int .u8 0, .int .u8 0, .int .u8 0, .int .u8 0] 70)) base a2 (l + 1) c2 _ := World.ownsRow.alloc ho2 _
  have hbx3 := hbx.alloc (.cells #[.int .u8 0, .int .u8 0, .int .u8 0, .int .u8 0, .int .u8 0, .int .u8 0, .int .u8 0, .int .u8 0] 70)
  have hsz2 := hon.size
  generalize w2.alloc (.cells #[.int .u8 0, .int .u8 0, .int .u8 0, .int .u8 0, .int .u8 0, .int .u8 0, .int .u8 0, .int .u8 0] 70) = w3 at hg3 hon3 hB3 ho3 hbx3 ⊢
  have hgz : w.heap.size ≤ w2.heap.size := hsz2
  have hgb : Hid (w2.heap.size = w2.heap.size) := rfl
  clear hgb
  generalize hG : w2.heap.size = g at hB3 hgz ⊢
  have HG := Lib.hid hG
  clear hG
  have y1 := hbx3.cell 1
  simp only [List.getElem?_cons_zero, List.getElem?_cons_succ] at y1
  have hB3' : Blk w3.drew g 70 _ := hB3
  have HW : Hid (IntKind.u64.wrap h.n = ((u64N h.n : Nat) : Int)) := by
    have : IntKind.u64.wrap h.n = ((u64N h.n : Nat) : Int) := by rw [wrap_u64]; unfold u64N; omega
    exact this
  have hlt64 : u64N h.n < 18446744073709551616 := by unfold u64N; omega
  have Hlt64 := Lib.hid hlt64
  clear hlt64 x0 x1
  go_region_with (go_at_call 45; rw [HW.out]; (with_reducible refine (putHigh_any g 0 8 8 (u64N h.n) _ w3.drew (by omega) Hlt64.out (by simp) hB3').mono ?_); rintro e w4 ⟨rfl, hB4, hg4⟩)
  all_goals
    rw [over_all _ _ (by simp [hiB_length])] at hB4
    have hbb : Bytes w4 (some ⟨g, 0, none⟩) 8 (hiB 8 (u64N h.n)) := bytes_of_blk0 hB4 (by simp [hiB_length]) (by omega) (fun i hi => by simp [hi])
    have hne := own_ne_blk ho3 hB3 (by decide)
    have ho4 : OwnB w4 base a2 (l + 1) c2 (ys ++ [byteK h.k]) := OwnB.kept (w := w3.drew) ho3 hg4 (.inr hne)
    have h24 : w2.grownBy w4 none := grownBy_trans (grownBy_trans hg3 (grownBy_drew w3 none) (fun i e => by cases e)) hg4 (fun i e => .inr (by cases e; rw [HG.out]; exact Nat.le_refl _))
    have hsz4 := h24.size
    obtain ⟨a5, c5, w5, hrun5, ho5, hg5⟩ := run_append_bytes w4 31 ho4 (some ⟨g, 0, none⟩) 8 8 (hiB 8 (u64N h.n)) hbb (by simp [hiB_length]) (by omega) (by omega)
    have Hr5 := Lib.hid hrun5
    have hon5 := (hon.trans (Only.of_none h24)).trans (ho4.only hg5)
    have hlen : Hid ((headB h len).length = 1 + 8) := Lib.hid (by rw [hfin.out]; simp [hiB_length])
    clear hrun5 hg5 hbb hB4 ho4 hne y1
    go_wp2_with (at_builtin; refine wpList_append_run rfl _ _ 31 31 rfl _ _ _ _ rfl rfl Hr5.out ?_)
    go_ret
    exact ⟨a5, c5, by rw [hlen.out]; rfl, by rw [hlen.out, hfin.out]; simpa using ho5, hon5⟩
end Go.Proofs.Ytahibjiiaocjkaa
