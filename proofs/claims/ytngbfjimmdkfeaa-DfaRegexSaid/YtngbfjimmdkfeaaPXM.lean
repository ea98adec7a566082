/- Texts joined: Rs Rk. -/
import Derived.Test.YtngbfjimmdkfeaaPXB
import Derived.Test.YtngbfjimmdkfeaaPXC
import Derived.BigQuiet
import Derived.Test.YtngbfjimmdkfeaaPXL
set_option linter.unusedVariables false
set_option linter.unusedSimpArgs false
namespace Go.Proofs.Ytngbfjimmdkfeaa
open Go.RowKit

attribute [local go_sem] Oper.semAt_some

set_option maxRecDepth 100000 in
set_option maxHeartbeats 1000000 in
theorem in_any (a : Option Addr) (ac : Nat) (l : List Sp) (c : Nat) (hc : c < 256) (w : World) (hl : Sps w a ac l) :
    Calls Try.prog 60 #[.slice a l.length ac, .int .u8 (c : Int)] w fun e w' => e = .returned (.bool (inSp l c)) ∧ Below w.heap.size w w' := by
  have hle := hl.le
  have hmx := hl.max
  obtain ⟨L, HL⟩ : ∃ L, Hid (l.length = L) := ⟨_, Lib.hid rfl⟩
  rw [HL.out] at hle ⊢
  go_enter Try.func60, Try.ntmps60
  go_wp2_with (fail)
  go_loopw [6, 9] (fun _ i wr => ∃ (k : Nat), k ≤ L ∧ i = .int .i64 (k : Int) ∧ inSp (l.take k) c = false ∧ Below w.heap.size w wr) (fun _ i _ => L - (intOf i).toNat)
  case atStart => exact ⟨0, by omega, rfl, rfl, Below.refl _ w⟩
  case round =>
    obtain ⟨k, hk, rfl, hr, hbr⟩ := hrel
    have HR := Lib.hid hr
    clear hr
    by_cases hlt : k < L
    · have hkl : k < l.length := by rw [HL.out]; exact hlt
      obtain ⟨b1, o1, rfl⟩ := hl.at_ k hkl
      obtain ⟨c0, c1⟩ := (hl.grown hbr).cell b1 o1 rfl k hkl
      obtain ⟨s, HS⟩ : ∃ s, Hid (l[k] = s) := ⟨_, Lib.hid rfl⟩
      rw [HS.out] at c0 c1
      have hlw : b1 < wr.heap.size := World.block_lt_of_cell? wr _ c0
      have hmore : Hid (inSp (l.take (k + 1)) c = (inSp (l.take k) c || decide (s.lo.toNat ≤ c ∧ c ≤ s.hi.toNat))) := Lib.hid (inSp_snoc l k s (by rw [List.getElem?_eq_getElem hkl, HS.out]) c)
      have hall : Hid (s.lo.toNat ≤ c → c ≤ s.hi.toNat → inSp l c = true) := Lib.hid (fun h1 h2 => by
        unfold inSp
        rw [List.any_eq_true]
        exact ⟨s, HS.out ▸ List.getElem_mem _, decide_eq_true ⟨h1, h2⟩⟩)
      have hbn : Below w.heap.size w (wr.alloc (.cells #[.int .u8 (s.lo.toNat : Int), .int .u8 (s.hi.toNat : Int)] 55)) := hbr.alloc hbr.size _
      clear hl
      by_cases h1 : s.lo.toNat ≤ c
      · have h1I : (s.lo.toNat : Int) ≤ (c : Int) := by omega
        by_cases h2 : c ≤ s.hi.toNat
        · have h2I : (c : Int) ≤ (s.hi.toNat : Int) := by omega
          go_wp2_with (fail)
          exact bodyPost_ret (v := .bool true) (by simp [results, Try.results60, go_sem]; try rfl) rfl ⟨ret_bool (hall.out h1 h2).symm, hbn⟩
        · have h2I : ¬ (c : Int) ≤ (s.hi.toNat : Int) := by omega
          go_wp2_with (fail)
          go_roundw
          case rel => exact ⟨k + 1, by omega, by go_num, by rw [hmore.out, HR.out, decide_eq_false (by omega)]; rfl, hbn⟩
          case measure => simp [intOf]; omega
      · have h1I : ¬ (s.lo.toNat : Int) ≤ (c : Int) := by omega
        go_wp2_with (fail)
        go_roundw
        case rel => exact ⟨k + 1, by omega, by go_num, by rw [hmore.out, HR.out, decide_eq_false (by omega)]; rfl, hbn⟩
        case measure => simp [intOf]; omega
    · obtain rfl : k = L := by omega
      have hF : Hid (inSp l c = false) := Lib.hid (by have := HR.out; rwa [List.take_of_length_le (by rw [HL.out]; exact Nat.le_refl _)] at this)
      go_wp2_with (fail)
      exact bodyPost_ret (v := .bool false) (by simp [results, Try.results60, go_sem]; try rfl) rfl ⟨ret_bool hF.out.symm, hbr⟩
end Go.Proofs.Ytngbfjimmdkfeaa

namespace Go.Proofs.Ytngbfjimmdkfeaa
open Go.RowKit Go.Shelf

attribute [local go_sem] Oper.semAt_some

theorem checkE_ref (h : Hd) (kids : Fo) : checkE (Fo.pre 1 (.cons h kids .nil)) = if (plainB h kids.len && mayB kids) = true then (if kids.deep + 1 ≤ 40 then 0 else 3) else 1 := by
  unfold checkE
  have e1 : ((Fo.pre 1 (.cons h kids .nil)).all fun x => plainB x.h x.len) = (plainB h kids.len && mayB kids) := by
    have := mayB_cons h kids .nil
    rw [show mayB .nil = true from rfl, Bool.and_true] at this
    exact this
  have e2 := pre_deep (.cons h kids .nil) 1 (by omega)
  rw [e1, e2]
  by_cases hp : (plainB h kids.len && mayB kids) = true
  · rw [if_pos hp, if_pos hp]
    have : (1 + (Fo.cons h kids .nil).deep ≤ 41) ↔ kids.deep + 1 ≤ 40 := by
      show 1 + max (kids.deep + 1) 0 ≤ 41 ↔ _
      omega
    by_cases h2 : kids.deep + 1 ≤ 40
    · rw [if_pos h2, if_pos (decide_eq_true (this.2 h2))]
    · rw [if_neg h2, if_neg (by rw [decide_eq_false (fun h => h2 (this.1 h))]; decide)]
  · rw [if_neg hp, if_neg hp]

set_option maxRecDepth 100000 in
set_option maxHeartbeats 1000000 in
theorem refCheck_any (h : Hd) (kids : Fo) (sa : Option Addr) (sc : Nat) (a : Option Addr) (cap : Nat) (w : World) (hss : Sps w sa sc h.set) (hI : Items w a cap kids) (hN : kids.size ≤ 1099511627776) :
    Calls Try.prog 24 #[itemV h sa sc a kids.len cap] w fun e w' => e = .returned (.int .i64 (checkE (Fo.pre 1 (.cons h kids .nil)))) ∧ Below w.heap.size w w' := by
  obtain ⟨E, HE⟩ : ∃ E : Int, Hid (checkE (Fo.pre 1 (.cons h kids .nil)) = E) := ⟨_, Lib.hid rfl⟩
  rw [HE.out]
  have hb0 := (Below.refl w.heap.size w).alloc (Nat.le_refl _) (.cells #[.int .i64 h.k, .slice sa h.set.length sc, .slice a kids.len cap] 45)
  have hI1 := hI.grown hb0
  have hs1 := hss.grown hb0
  have hB0 := Blk.new w 45 #[.int .i64 h.k, .slice sa h.set.length sc, .slice a kids.len cap]
  have hlt0 := hB0.lt
  go_enter Try.func24, Try.ntmps24
  go_wp2_with (fail)
  refine (may_any (kids.size + 1) h kids sa sc a cap _ (by omega) hs1 hI1).mono ?_
  rintro e w1 ⟨rfl, hb1⟩
  have hB1 := hB0.below hb1 hlt0
  have hI2 := hI1.grown hb1
  have hb2 : Below w.heap.size w w1 := hb0.trans (hb1.mono hb0.size)
  clear hb0 hb1 hB0 hlt0 hI1 hs1
  by_cases hm : (plainB h kids.len && mayB kids) = true
  · rw [hm]
    have y0 := hB1.cell 0
    have y1 := hB1.cell 1
    have y2 := hB1.cell 2
    simp only [List.getElem?_cons_zero, List.getElem?_cons_succ] at y0 y1 y2
    clear hB1
    go_wp2_with (fail)
    refine (deep_any (kids.size + 1) h kids sa sc a cap w1 (by omega) (by omega) hI2).mono ?_
    rintro e w3 ⟨rfl, hb3⟩
    have hb4 : Below w.heap.size w w3 := hb2.trans (hb3.mono hb2.size)
    have hdl := Fo.deep_le kids
    clear hb3 hb2 y0 y1 y2 hI2
    by_cases hd : kids.deep + 1 ≤ 40
    · go_wp2_with (fail)
      exact bodyPost_ret (v := .int .i64 0) (by simp [results, Try.results24, go_sem]; try rfl) rfl ⟨by rw [← HE.out, checkE_ref, if_pos hm, if_pos hd], hb4⟩
    · go_wp2_with (fail)
      exact bodyPost_ret (v := .int .i64 3) (by simp [results, Try.results24, go_sem]; try rfl) rfl ⟨by rw [← HE.out, checkE_ref, if_pos hm, if_neg hd], hb4⟩
  · have hm' : (plainB h kids.len && mayB kids) = false := by simpa using hm
    rw [hm']
    go_wp2_with (fail)
    exact bodyPost_ret (v := .int .i64 1) (by simp [results, Try.results24, go_sem]; try rfl) rfl ⟨by rw [← HE.out, checkE_ref, if_neg hm], hb2⟩

theorem ElAt.same {w w2 : World} {b off b2 off2 k sc tc xcap ycap : Nat} {kids ks gids gs : Fo} {hd gd : Hd} {sa ta xa ya : Option Addr} (h : ElAt w b off k kids hd ks sa sc xa xcap) (g : ElAt w2 b2 off2 k gids gd gs ta tc ya ycap) :
    sameB (kids.drop k) (gids.drop k) = (hdB hd gd ks.len gs.len && sameB ks gs && sameB (kids.drop (k + 1)) (gids.drop (k + 1))) := by
  rw [h.cut, g.cut, Fo.drop_succ _ _ _ _ _ h.cut, Fo.drop_succ _ _ _ _ _ g.cut]
  simp only [sameB]

/-- No more than m. -/
def fewB (m : Int) (h : Hd) (kids : Fo) : Bool := decide ((kids.wt : Int) + (h.set.length : Int) + 1 ≤ m)
theorem few_B (h : Hd) (kids : Fo) (sa : Option Addr) (sc : Nat) (a : Option Addr) (cap : Nat) (m : Int) (w : World) (hSp : Sps w sa sc h.set) (hI : Items w a cap kids) (h0 : 0 ≤ m) (h1 : m ≤ 1000000) :
    Calls Try.prog 23 #[itemV h sa sc a kids.len cap, .int .i64 m] w fun e w' => e = .returned (.bool (fewB m h kids)) ∧ Below w.heap.size w w' := few_any h kids sa sc a cap m w hSp hI h0 h1
/-- Some expression of the list has more than m. -/
def bigF (m : Int) : Fo → Bool
  | .nil => false
  | .cons h kids rest => !fewB m h kids || bigF m rest
end Go.Proofs.Ytngbfjimmdkfeaa

