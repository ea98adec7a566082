/- The reference's Same; alike. -/
import Derived.Test.YtahibjiiaocjkaaRef2
namespace Go.Proofs.Ytahibjiiaocjkaa
open Go.RowKit

def hdB (h g : Hd) (n m : Nat) : Bool := (h.k == g.k) && (h.n == g.n) && (h.s.toList == g.s.toList) && ((n : Int) == m)
/-- The same items, one by one. -/
def sameB : Fo → Fo → Bool
  | .nil, .nil => true
  | .cons h k r, .cons h' k' r' => hdB h h' k.len k'.len && sameB k k' && sameB r r'
  | _, _ => false

/-- Two items are alike, but for their lists. -/
def hd3 (h g : Hd) : Bool := (h.k == g.k) && (h.n == g.n) && (h.s.toList == g.s.toList)
theorem hdB_eq (h g : Hd) (n m : Nat) : hdB h g n m = (hd3 h g && decide (n = m)) := by
  unfold hdB hd3
  congr 1
  by_cases h : n = m
  · simp [h]
  · simp [h]; omega

set_option maxRecDepth 100000 in
set_option maxHeartbeats 1000000 in
theorem alike_any (h g : Hd) (a b : Option Addr) (n m c d : Nat) (w : World) :
    Calls Try.prog 40 #[itemV h a n c, itemV g b m d] w fun e w' => e = .returned (.bool (hd3 h g)) ∧ Below w.heap.size w w' := by
  obtain ⟨hk, hn', hs⟩ := h
  obtain ⟨gk, gn, gs⟩ := g
  go_enter Try.func40, Try.ntmps40
  go_wp2_with (fail)
  · exact bodyPost_ret (v := .bool (hs.toList == gs.toList)) (by simp [results, Try.results40, go_sem]; try rfl) rfl ⟨ret_bool (by simp [hd3, *]), ((Below.refl w.heap.size w).alloc (Nat.le_refl _) _).alloc (by simp) _⟩
  all_goals exact bodyPost_ret (v := .bool false) (by simp [results, Try.results40, go_sem]; try rfl) rfl ⟨ret_bool (by simp [hd3, *]), ((Below.refl w.heap.size w).alloc (Nat.le_refl _) _).alloc (by simp) _⟩

theorem At.same {w w2 : World} {b off b2 off2 k xcap ycap : Nat} {kids ks gids gs : Fo} {hd gd : Hd} {xa ya : Option Addr} (h : At w b off k kids hd ks xa xcap) (g : At w2 b2 off2 k gids gd gs ya ycap) :
    sameB (kids.drop k) (gids.drop k) = (hdB hd gd ks.len gs.len && sameB ks gs && sameB (kids.drop (k + 1)) (gids.drop (k + 1))) := by
  rw [h.cut, g.cut, Fo.drop_succ _ _ _ _ _ h.cut, Fo.drop_succ _ _ _ _ _ g.cut]
  simp only [sameB]

set_option maxRecDepth 100000 in
set_option maxHeartbeats 1000000 in
theorem rsame_any : ∀ (N : Nat) (h g : Hd) (kids gids : Fo) (a b : Option Addr) (cap dap : Nat) (w : World), kids.size < N → Items w a cap kids → Items w b dap gids →
    Calls Try.prog 17 #[itemV h a kids.len cap, itemV g b gids.len dap] w fun e w' => e = .returned (.bool (hdB h g kids.len gids.len && sameB kids gids)) ∧ Below w.heap.size w w' := by
  intro N
  induction N with
  | zero => intro h g kids gids a b cap dap w hN; omega
  | succ N ih =>
    intro h g kids gids a b cap dap w hN hI hJ
    obtain ⟨hk, hn, hs⟩ := h
    obtain ⟨gk, gn, gs⟩ := g
    have hlm : kids.len ≤ cap ∧ cap ≤ 9223372036854775807 := ⟨hI.le, hI.max⟩
    have hlm2 : gids.len ≤ dap ∧ dap ≤ 9223372036854775807 := ⟨hJ.le, hJ.max⟩
    obtain ⟨L, HL⟩ : ∃ L, Hid (kids.len = L) := ⟨_, Lib.hid rfl⟩
    obtain ⟨M, HM⟩ : ∃ L, Hid (gids.len = L) := ⟨_, Lib.hid rfl⟩
    rw [HL.out] at hlm ⊢
    rw [HM.out] at hlm2 ⊢
    go_enter Try.func17, Try.ntmps17
    have hb0 : Below w.heap.size w ((w.alloc (.cells #[.int .i64 hk, .int .i64 hn, .string hs, .slice a L cap] 24)).alloc (.cells #[.int .i64 gk, .int .i64 gn, .string gs, .slice b M dap] 24)) := ((Below.refl w.heap.size w).alloc (Nat.le_refl _) _).alloc (by simp) _
    have hBa := (Blk.new w 24 #[.int .i64 hk, .int .i64 hn, .string hs, .slice a L cap]).alloc (.cells #[.int .i64 gk, .int .i64 gn, .string gs, .slice b M dap] 24)
    have hBb := Blk.new (w.alloc (.cells #[.int .i64 hk, .int .i64 hn, .string hs, .slice a L cap] 24)) 24 #[.int .i64 gk, .int .i64 gn, .string gs, .slice b M dap]
    rw [World.size_alloc] at hBb
    by_cases hh : hdB ⟨hk, hn, hs⟩ ⟨gk, gn, gs⟩ L M = true
    · have hh' := hh
      simp only [hdB, Bool.and_eq_true, beq_iff_eq] at hh'
      obtain ⟨⟨⟨rfl, rfl⟩, hst⟩, hLM⟩ := hh'
      obtain rfl : L = M := by omega
      have HH := Lib.hid hh
      clear hh hLM
      go_wp2_with (fail)
      go_loopw [5, 37] (fun _ i wr => ∃ (k : Nat), k ≤ L ∧ i = .int .i64 k ∧ sameB kids gids = sameB (kids.drop k) (gids.drop k) ∧ Below w.heap.size w wr ∧ Blk wr w.heap.size 24 [.int .i64 hk, .int .i64 hn, .string hs, .slice a L cap] ∧ Blk wr (w.heap.size + 1) 24 [.int .i64 hk, .int .i64 hn, .string gs, .slice b L dap]) (fun _ i _ => L - (intOf i).toNat)
      case atStart => exact ⟨0, by omega, rfl, rfl, hb0, hBa, hBb⟩
      case round =>
        obtain ⟨k, hk', rfl, hr, hbr, hB1, hB2⟩ := hrel
        have HR := Lib.hid hr
        clear hr hb0 hBa hBb
        by_cases hlt : k < L
        · obtain ⟨b1, off, hd, ks, xa, xcap, rfl, hat⟩ := (hI.grown hbr).at (k := k) (by rw [HL.out]; exact hlt)
          obtain ⟨b2, off2, gd, gks, ya, ycap, rfl, gat⟩ := (hJ.grown hbr).at (k := k) (by rw [HM.out]; exact hlt)
          have HS := Lib.hid (At.size hat)
          have HQ := Lib.hid (At.same hat gat)
          obtain ⟨x0, x1, x2, x3, hIk, hc1⟩ := hat
          obtain ⟨z0, z1, z2, z3, hJk, hc2⟩ := gat
          clear hc1 hc2
          have y3 := hB1.cell 3
          have q3 := hB2.cell 3
          simp only [List.getElem?_cons_zero, List.getElem?_cons_succ] at y3 q3
          have hlt1 := hB1.lt
          have hlt2 := hB2.lt
          have hdr : Below wr.heap.size wr wr.drew := grownBy_below (grownBy_drew wr none) (fun i e => by cases e)
          have hmx := hIk.le
          have hmx2 := hIk.max
          have hmy := hJk.le
          have hmy2 := hJk.max
          have hIH := ih hd gd ks gks xa ya xcap ycap wr.drew (by have := HS.out; omega) (hIk.grown hdr) (hJk.grown hdr)
          obtain ⟨R, HB⟩ : ∃ R, Hid ((hdB hd gd ks.len gks.len && sameB ks gks) = R) := ⟨_, Lib.hid rfl⟩
          rw [HB.out] at hIH HQ
          have hbd : Below w.heap.size w wr.drew := hbr.trans (hdr.mono hbr.size)
          have hBd1 := hB1.below hdr hlt1
          have hBd2 := hB2.below hdr hlt2
          clear hIk hJk hB1 hB2
          go_wp2_with (fail)
          go_region_with ((go_at_call 17; (with_reducible refine hIH.mono ?_); rintro e w4 ⟨rfl, hb4⟩))
          all_goals
            have hb5 : Below w.heap.size w w4 := hbd.trans (hb4.mono hbd.size)
            have hB5 := hBd1.below hb4 (by exact hlt1)
            have hB6 := hBd2.below hb4 (by exact hlt2)
            clear hb4 hbd hIH hdr hBd1 hBd2 x0 x1 x2 x3 z0 z1 z2 z3 y3 q3 hbr
            cases R
            · go_wp2_with (fail)
              exact bodyPost_ret (v := .bool false) (by simp [results, Try.results17, go_sem]; try rfl) rfl ⟨ret_bool (by rw [HR.out, HQ.out]; simp), hb5⟩
            · go_wp2_with (fail)
              go_roundw
              case rel => exact ⟨k + 1, by omega, by go_num, by rw [HR.out, HQ.out, Bool.true_and], hb5, hB5, hB6⟩
              case measure => simp [intOf]; omega
        · obtain rfl : k = L := by omega
          have HK : Hid (sameB kids gids = true) := Lib.hid (by rw [HR.out, Fo.drop_all (by rw [HL.out]; exact Nat.le_refl _), Fo.drop_all (by rw [HM.out]; exact Nat.le_refl _)]; rfl)
          go_wp2_with (fail)
          exact bodyPost_ret (v := .bool true) (by simp [results, Try.results17, go_sem]; try rfl) rfl ⟨ret_bool (by rw [HH.out, HK.out]; rfl), hbr⟩
    · have HH : Hid ((hdB ⟨hk, hn, hs⟩ ⟨gk, gn, gs⟩ L M && sameB kids gids) = false) := Lib.hid (by rw [Bool.eq_false_iff.2 hh]; rfl)
      rw [HH.out]
      simp only [hdB, Bool.and_eq_true, beq_iff_eq] at hh
      go_wp2_with (fail)
      all_goals first
        | exact bodyPost_ret (v := .bool false) (by simp [results, Try.results17, go_sem]; try rfl) rfl ⟨rfl, ((Below.refl w.heap.size w).alloc (Nat.le_refl _) _).alloc (by simp) _⟩
        | (exfalso; simp_all)
end Go.Proofs.Ytahibjiiaocjkaa
