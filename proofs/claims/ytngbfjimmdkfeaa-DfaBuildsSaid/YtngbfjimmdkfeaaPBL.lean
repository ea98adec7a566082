/- Texts joined: Rl Rm. -/
import Derived.Test.YtngbfjimmdkfeaaPBA
import Derived.Test.YtngbfjimmdkfeaaPBB
set_option linter.unusedVariables false
set_option linter.unusedSimpArgs false
namespace Go.Proofs.Ytngbfjimmdkfeaa
open Go.RowKit

/-- One element of a list, where the list is read in turn. -/
structure ElAt (w : World) (b off k : Nat) (kids : Fo) (hd : Hd) (ks : Fo) (sa : Option Addr) (sc : Nat) (xa : Option Addr) (xcap : Nat) : Prop where
  c0 : w.cell? ⟨b, off + k * 3, none⟩ = some (.int .i64 hd.k)
  c1 : w.cell? ⟨b, off + k * 3 + 1, none⟩ = some (.slice sa hd.set.length sc)
  c2 : w.cell? ⟨b, off + k * 3 + 2, none⟩ = some (.slice xa ks.len xcap)
  sps : Sps w sa sc hd.set
  its : Items w xa xcap ks
  cut : kids.drop k = .cons hd ks (kids.drop (k + 1))
theorem Items.at {w : World} {a : Option Addr} {cap : Nat} {kids : Fo} (hI : Items w a cap kids) {k : Nat} (hk : k < kids.len) : ∃ b off hd ks sa sc xa xcap, a = some ⟨b, off, none⟩ ∧ ElAt w b off k kids hd ks sa sc xa xcap := by
  obtain ⟨hd, ks, rs, hdr⟩ := Fo.drop_cons hk
  obtain ⟨b, off, rfl, hel⟩ := hI.at_ (by omega)
  have hel2 := Elems.drop k kids b off hel
  rw [hdr] at hel2
  obtain ⟨x0, ⟨sa, sc, x1, hsp⟩, ⟨xa, xcap, x3, hx1, hx2, hx3, hx4⟩, _⟩ := hel2
  exact ⟨b, off, hd, ks, sa, sc, xa, xcap, rfl, x0, x1, x3, hsp, ⟨hx1, hx2, hx3, hx4⟩, by rw [Fo.drop_succ k kids hd ks rs hdr]; exact hdr⟩
theorem ElAt.size {w : World} {b off k sc xcap : Nat} {kids ks : Fo} {hd : Hd} {sa xa : Option Addr} (h : ElAt w b off k kids hd ks sa sc xa xcap) : (kids.drop k).size = ks.size + (kids.drop (k + 1)).size + 1 ∧ (kids.drop k).size ≤ kids.size := by
  have h1 := Fo.drop_size k kids
  rw [h.cut] at h1 ⊢
  exact ⟨rfl, h1⟩
end Go.Proofs.Ytngbfjimmdkfeaa

namespace Go.Proofs.Ytngbfjimmdkfeaa
open Go.RowKit Go.Shelf

attribute [local go_sem] Oper.semAt_some

set_option maxRecDepth 100000 in
set_option maxHeartbeats 1000000 in
theorem ordered_any (a : Option Addr) (L cap : Nat) (l : List Sp) (w : World) (hs : Sps w a cap l) (hL : L = l.length) :
    Calls Try.prog 61 #[.slice a L cap] w fun e w' => e = .returned (.bool (ordB l)) ∧ Below w.heap.size w w' := by
  have hle := hs.le
  have hmx := hs.max
  rw [← hL] at hle
  have HL := Lib.hid hL
  clear hL
  obtain ⟨R, HR⟩ : ∃ R, Hid (ordB l = R) := ⟨_, Lib.hid rfl⟩
  rw [HR.out]
  go_enter Try.func61, Try.ntmps61
  go_wp2_with (fail)
  go_loopw [7] (fun iv wr => ∃ k : Nat, k ≤ L ∧ iv = .int .i64 (k : Int) ∧ ordK l k = true ∧ Below w.heap.size w wr) (fun i _ => L - (intOf i).toNat)
  case atStart => exact ⟨0, by omega, rfl, rfl, Below.refl _ w⟩
  case round =>
    obtain ⟨k, hk, rfl, hord, hbr⟩ := hrel
    have HO := Lib.hid hord
    clear hord
    by_cases hlt : k < L
    · have hlt' : k < l.length := by rw [← HL.out]; exact hlt
      have hsr := hs.grown hbr
      obtain ⟨b, off, rfl⟩ := hs.at_ k hlt'
      obtain ⟨c0, c1⟩ := hsr.cell b off rfl k hlt'
      obtain ⟨s, HS⟩ : ∃ s, Hid (l[k] = s) := ⟨_, Lib.hid rfl⟩
      rw [HS.out] at c0 c1
      have hblt : b < wr.heap.size := World.block_lt_of_cell? wr _ c0
      have hbn : Below w.heap.size w (wr.alloc (.cells #[.int .u8 (s.lo.toNat : Int), .int .u8 (s.hi.toNat : Int)] 55)) := hbr.alloc hbr.size _
      have hget : Hid (l[k]? = some s) := Lib.hid (by rw [List.getElem?_eq_getElem hlt', HS.out])
      cases k with
      | zero =>
        rw [Nat.zero_mul, Nat.add_zero] at c0 c1
        rw [show ((0 : Nat) : Int) = 0 from rfl]
        have hok : Hid (okAt l 0 = decide (s.lo.toNat ≤ s.hi.toNat)) := Lib.hid (by simp [okAt, hget.out])
        by_cases h1 : s.hi.toNat < s.lo.toNat
        · have h1' : ((s.hi.toNat : Int) < (s.lo.toNat : Int)) := by omega
          have hR : Hid (R = false) := Lib.hid (by rw [← HR.out]; exact ordK_false (k := 0) (by rw [hok.out]; exact decide_eq_false (by omega)) _ hlt')
          clear hs hsr hbr
          go_wp2_with (fail)
          go_quiet (fail)
          go_wp2_with (fail)
          exact bodyPost_ret (v := .bool false) (by simp [results, Try.results61, go_sem]; try rfl) rfl ⟨ret_bool hR.out.symm, Below.drewN hbn _⟩
        · have h1' : ¬ ((s.hi.toNat : Int) < (s.lo.toNat : Int)) := by omega
          have hO2 : Hid (ordK l 1 = true) := Lib.hid (by rw [ordK_succ, HO.out, hok.out]; simp; omega)
          clear hs hsr hbr
          go_wp2_with (fail)
          go_quiet (fail)
          go_wp2_with (fail)
          exact ⟨⟨1, by omega, rfl, hO2.out, Below.drewN hbn _⟩, by simp [intOf]; omega⟩
      | succ j =>
        have hj : j < l.length := by omega
        obtain ⟨p0, p1⟩ := hsr.cell b off rfl j hj
        obtain ⟨q, HQ⟩ : ∃ q, Hid (l[j] = q) := ⟨_, Lib.hid rfl⟩
        rw [HQ.out] at p0 p1
        have hgq : Hid (l[j]? = some q) := Lib.hid (by rw [List.getElem?_eq_getElem hj, HQ.out])
        have hok : Hid (okAt l (j + 1) = (decide (s.lo.toNat ≤ s.hi.toNat) && decide (q.hi.toNat + 2 ≤ s.lo.toNat))) := Lib.hid (by simp [okAt, hget.out, hgq.out])
        have e1 : ((j + 1 : Nat) : Int) - 1 = (j : Int) := by omega
        have hu1 := s.lo.toNat_lt
        have hu2 := q.hi.toNat_lt
        by_cases h1 : s.hi.toNat < s.lo.toNat
        · have h1' : ((s.hi.toNat : Int) < (s.lo.toNat : Int)) := by omega
          have hR : Hid (R = false) := Lib.hid (by rw [← HR.out]; exact ordK_false (k := j + 1) (by rw [hok.out, decide_eq_false (by omega)]; rfl) _ hlt')
          clear hs hsr hbr
          go_wp2_with (fail)
          go_quiet (fail)
          go_wp2_with (fail)
          exact bodyPost_ret (v := .bool false) (by simp [results, Try.results61, go_sem]; try rfl) rfl ⟨ret_bool hR.out.symm, Below.drewN hbn _⟩
        · have h1' : ¬ ((s.hi.toNat : Int) < (s.lo.toNat : Int)) := by omega
          by_cases h2 : s.lo.toNat < q.hi.toNat + 2
          · have h2' : ((s.lo.toNat : Int) < (q.hi.toNat : Int) + 2) := by omega
            have hR : Hid (R = false) := Lib.hid (by rw [← HR.out]; exact ordK_false (k := j + 1) (by rw [hok.out, decide_eq_false (p := _ + 2 ≤ _) (by omega), Bool.and_false]) _ hlt')
            clear hs hsr hbr
            go_wp2_with (fail)
            go_quiet (fail)
            go_wp2_with (fail)
            exact bodyPost_ret (v := .bool false) (by simp [results, Try.results61, go_sem]; try rfl) rfl ⟨ret_bool hR.out.symm, Below.drewN hbn _⟩
          · have h2' : ¬ ((s.lo.toNat : Int) < (q.hi.toNat : Int) + 2) := by omega
            have hO2 : Hid (ordK l (j + 1 + 1) = true) := Lib.hid (by rw [ordK_succ, HO.out, hok.out]; simp; omega)
            clear hs hsr hbr
            go_wp2_with (fail)
            go_quiet (fail)
            go_wp2_with (fail)
            exact ⟨⟨j + 2, by omega, by simp; omega, hO2.out, Below.drewN hbn _⟩, by simp [intOf]; omega⟩
    · obtain rfl : k = L := by omega
      have hR : Hid (R = true) := Lib.hid (by rw [← HR.out]; unfold ordB; rw [← HL.out]; exact HO.out)
      clear hs
      go_wp2_with (fail)
      exact bodyPost_ret (v := .bool true) (by simp [results, Try.results61, go_sem]; try rfl) rfl ⟨ret_bool hR.out.symm, hbr⟩

def Fo.deep : Fo → Nat
  | .nil => 0
  | .cons _ kids rest => max (kids.deep + 1) rest.deep
theorem Fo.deep_le (f : Fo) : f.deep ≤ f.size := by
  induction f with
  | nil => exact Nat.le_refl _
  | cons h kids rest ihk ihr => simp only [Fo.deep, Fo.size]; omega
theorem pre_deep (f : Fo) : ∀ d, d ≤ 41 → ((f.pre d).all (fun x => decide (x.d ≤ 40)) = decide (d + f.deep ≤ 41)) := by
  induction f with
  | nil => intro d h; simp [Fo.pre, Fo.deep, h]
  | cons h kids rest ihk ihr =>
    intro d hd
    simp only [Fo.pre, Fo.deep, List.all_cons, List.all_append]
    by_cases h40 : d ≤ 40
    · rw [ihk (d + 1) (by omega), ihr d hd, decide_eq_true h40, Bool.true_and, ← Bool.decide_and]
      apply decide_eq_decide.2; omega
    · rw [decide_eq_false h40, Bool.false_and]
      symm
      refine decide_eq_false ?_
      show ¬ d + max (kids.deep + 1) rest.deep ≤ 41
      omega
theorem ElAt.deep {w : World} {b off k sc xcap : Nat} {kids ks : Fo} {hd : Hd} {sa xa : Option Addr} (h : ElAt w b off k kids hd ks sa sc xa xcap) : (kids.drop k).deep = max (ks.deep + 1) (kids.drop (k + 1)).deep := by
  rw [h.cut]; rfl

set_option maxRecDepth 100000 in
set_option maxHeartbeats 1000000 in
theorem deep_any : ∀ (N : Nat) (h : Hd) (kids : Fo) (sa : Option Addr) (sc : Nat) (a : Option Addr) (cap : Nat) (w : World), kids.size < N → N ≤ 1099511627777 → Items w a cap kids →
    Calls Try.prog 46 #[itemV h sa sc a kids.len cap] w fun e w' => e = .returned (.int .i64 ((kids.deep : Int) + 1)) ∧ Below w.heap.size w w' := by
  intro N
  induction N with
  | zero => intro h kids sa sc a cap w hN; omega
  | succ N ih =>
    intro h kids sa sc a cap w hN hN1 hI
    have hlm : kids.len ≤ cap ∧ cap ≤ 9223372036854775807 := ⟨hI.le, hI.max⟩
    have hdl := Fo.deep_le kids
    obtain ⟨L, HL⟩ : ∃ L, Hid (kids.len = L) := ⟨_, Lib.hid rfl⟩
    rw [HL.out] at hlm ⊢
    have hb0 := (Below.refl w.heap.size w).alloc (Nat.le_refl _) (.cells #[.int .i64 h.k, .slice sa h.set.length sc, .slice a L cap] 45)
    go_enter Try.func46, Try.ntmps46
    go_wp2
    go_loopw [3, 5, 9] (fun t _ i wr => ∃ (k : Nat) (r : Nat), k ≤ L ∧ i = .int .i64 k ∧ t = .int .i64 r ∧ max r (kids.drop k).deep = kids.deep ∧ Below w.heap.size w wr) (fun _ _ i _ => L - (intOf i).toNat)
    case atStart => exact ⟨0, 0, by omega, rfl, rfl, by simp [Fo.drop], hb0⟩
    case round =>
      obtain ⟨k, r, hk, rfl, rfl, hr, hbr⟩ := hrel
      have HR := Lib.hid hr
      clear hr hb0
      by_cases hlt : k < L
      · obtain ⟨b, off, hd, ks, ya, yc, xa, xcap, rfl, hat⟩ := (hI.grown hbr).at (k := k) (by rw [HL.out]; exact hlt)
        have HS := Lib.hid hat.size
        have HD := Lib.hid hat.deep
        obtain ⟨x0, x1, x2, hsp, hIk, hcut⟩ := hat
        clear hcut
        have hmx := hIk.le
        have hmx2 := hIk.max
        have hnx := (Below.refl wr.heap.size wr).alloc (Nat.le_refl _) (.cells #[.int .i64 hd.k, .slice ya hd.set.length yc, .slice xa ks.len xcap] 45)
        have hIk2 := hIk.grown hnx
        have hbn : Below w.heap.size w (wr.alloc (.cells #[.int .i64 hd.k, .slice ya hd.set.length yc, .slice xa ks.len xcap] 45)) := hbr.trans (hnx.mono hbr.size)
        clear hnx hIk hsp
        go_wp2_with (fail)
        refine (ih hd ks ya yc xa xcap _ (by have := HS.out; omega) (by omega) hIk2).mono ?_
        rintro e w4 ⟨rfl, hb4⟩
        have hb5 : Below w.heap.size w w4 := hbn.trans (hb4.mono hbn.size)
        have hkd := Fo.deep_le ks
        have hkd2 : Hid (ks.size ≤ kids.size) := Lib.hid (by have := HS.out; omega)
        clear hb4 hbn hIk2 x0 x1 x2
        go_wp2_with (fail)
        go_roundw
        case rel =>
          have h1 := HR.out
          have h2 := HD.out
          exact ⟨k + 1, max r (ks.deep + 1), by omega, by go_num, by (congr 1; first | (split <;> omega) | omega), by omega, hb5⟩
        case measure => simp [intOf]; omega
      · obtain rfl : k = L := by omega
        have hd0 : (kids.drop k).deep = 0 := by rw [Fo.drop_all (by rw [HL.out]; exact Nat.le_refl _)]; rfl
        obtain rfl : r = kids.deep := by have := HR.out; omega
        clear hd0 HR
        go_wp2_with (fail)
        exact bodyPost_ret (v := .int .i64 ((kids.deep : Int) + 1)) (by simp [results, Try.results46, go_sem]; try rfl) rfl ⟨rfl, hbr⟩

/-- All of a list's expressions may be, their depth aside. -/
def mayB (f : Fo) : Bool := (f.pre 1).all (fun x => plainB x.h x.len)
theorem pre_plain (f : Fo) : ∀ d d' : Nat, (f.pre d).all (fun x => plainB x.h x.len) = (f.pre d').all (fun x => plainB x.h x.len) := by
  induction f with
  | nil => intro d d'; rfl
  | cons h kids rest ihk ihr => intro d d'; simp only [Fo.pre, List.all_cons, List.all_append]; rw [ihk (d + 1) (d' + 1), ihr d d']
theorem mayB_cons (h : Hd) (kids rest : Fo) : mayB (.cons h kids rest) = (plainB h kids.len && mayB kids && mayB rest) := by
  unfold mayB
  simp only [Fo.pre, List.all_cons, List.all_append]
  rw [pre_plain kids 2 1, Bool.and_assoc]
theorem ElAt.may {w : World} {b off k sc xcap : Nat} {kids ks : Fo} {hd : Hd} {sa xa : Option Addr} (h : ElAt w b off k kids hd ks sa sc xa xcap) : mayB (kids.drop k) = (plainB hd ks.len && mayB ks && mayB (kids.drop (k + 1))) := by
  rw [h.cut, mayB_cons, Fo.drop_succ _ _ _ _ _ h.cut]

set_option maxRecDepth 100000 in
set_option maxHeartbeats 2000000 in
theorem may_any : ∀ (N : Nat) (h : Hd) (kids : Fo) (sa : Option Addr) (sc : Nat) (a : Option Addr) (cap : Nat) (w : World), kids.size < N → Sps w sa sc h.set → Items w a cap kids →
    Calls Try.prog 45 #[itemV h sa sc a kids.len cap] w fun e w' => e = .returned (.bool (plainB h kids.len && mayB kids)) ∧ Below w.heap.size w w' := by
  intro N
  induction N with
  | zero => intro h kids sa sc a cap w hN; omega
  | succ N ih =>
    intro h kids sa sc a cap w hN hss hI
    obtain ⟨hk, set⟩ := h
    have hlm : kids.len ≤ cap ∧ cap ≤ 9223372036854775807 := ⟨hI.le, hI.max⟩
    have hss' : Hid (Sps w sa sc set) := Lib.hid hss
    clear hss
    obtain ⟨L, HL⟩ : ∃ L, Hid (kids.len = L) := ⟨_, Lib.hid rfl⟩
    dsimp only [itemV] at *
    obtain ⟨S, HSl⟩ : ∃ S, Hid (set.length = S) := ⟨_, Lib.hid rfl⟩
    rw [HL.out] at hlm ⊢
    rw [HSl.out]
    have hb0 := (Below.refl w.heap.size w).alloc (Nat.le_refl _) (.cells #[.int .i64 hk, .slice sa S sc, .slice a L cap] 45)
    obtain ⟨R, HRb⟩ : ∃ R, Hid ((plainB ⟨hk, set⟩ L && mayB kids) = R) := ⟨_, Lib.hid rfl⟩
    rw [HRb.out]
    go_enter Try.func45, Try.ntmps45
    have hBx := Blk.new w 45 #[.int .i64 hk, .slice sa S sc, .slice a L cap]
    go_wp2_with (fail)
    go_loopw [4, 8] (fun _ i wr => ∃ (k : Nat), k ≤ L ∧ i = .int .i64 k ∧ mayB kids = mayB (kids.drop k) ∧ Below w.heap.size w wr ∧ Blk wr w.heap.size 45 [.int .i64 hk, .slice sa S sc, .slice a L cap]) (fun _ i _ => L - (intOf i).toNat)
    case atStart => exact ⟨0, by omega, rfl, rfl, hb0, hBx⟩
    case round =>
      obtain ⟨k, hk', rfl, hr, hbr, hBr⟩ := hrel
      have HR := Lib.hid hr
      clear hr hb0 hBx
      by_cases hlt : k < L
      · obtain ⟨b, off, hd, ks, ya, yc, xa, xcap, rfl, hat⟩ := (hI.grown hbr).at (k := k) (by rw [HL.out]; exact hlt)
        have HS := Lib.hid hat.size
        have HM := Lib.hid hat.may
        obtain ⟨x0, x1, x2, hsp, hIk, hcut⟩ := hat
        clear hcut
        have hmx := hIk.le
        have hmx2 := hIk.max
        have hnx := (Below.refl wr.heap.size wr).alloc (Nat.le_refl _) (.cells #[.int .i64 hd.k, .slice ya hd.set.length yc, .slice xa ks.len xcap] 45)
        have hIk2 := hIk.grown hnx
        have hsp2 := hsp.grown hnx
        have hbn : Below w.heap.size w (wr.alloc (.cells #[.int .i64 hd.k, .slice ya hd.set.length yc, .slice xa ks.len xcap] 45)) := hbr.trans (hnx.mono hbr.size)
        have hBn := hBr.alloc (.cells #[.int .i64 hd.k, .slice ya hd.set.length yc, .slice xa ks.len xcap] 45)
        have hltb := hBn.lt
        clear hnx hIk hBr hsp
        go_wp2_with (fail)
        refine (ih hd ks ya yc xa xcap _ (by have := HS.out; omega) hsp2 hIk2).mono ?_
        rintro e w4 ⟨rfl, hb4⟩
        have hb5 : Below w.heap.size w w4 := hbn.trans (hb4.mono hbn.size)
        have hB5 := hBn.below hb4 hltb
        clear hb4 hbn hIk2 hsp2 x0 x1 x2 hBn hltb
        by_cases hm : (plainB hd ks.len && mayB ks) = true
        · rw [hm]
          go_wp2_with (fail)
          go_roundw
          case rel => exact ⟨k + 1, by omega, by go_num, by rw [HR.out, HM.out, hm, Bool.true_and], hb5, hB5⟩
          case measure => simp [intOf]; omega
        · have hm' : (plainB hd ks.len && mayB ks) = false := by simpa using hm
          rw [hm']
          have hF : Hid (R = false) := Lib.hid (by rw [← HRb.out, HR.out, HM.out, hm']; simp)
          go_wp2_with (fail)
          exact bodyPost_ret (v := .bool false) (by simp [results, Try.results45, go_sem]; try rfl) rfl ⟨ret_bool hF.out.symm, hb5⟩
      · obtain rfl : k = L := by omega
        have hd0 : mayB (kids.drop k) = true := by rw [Fo.drop_all (by rw [HL.out]; exact Nat.le_refl _)]; rfl
        have HK : Hid (R = plainB ⟨hk, set⟩ k) := Lib.hid (by rw [← HRb.out, HR.out, hd0, Bool.and_true])
        clear hd0
        have y0 := hBr.cell 0
        have y1 := hBr.cell 1
        have y2 := hBr.cell 2
        have hblt := hBr.lt
        simp only [List.getElem?_cons_zero, List.getElem?_cons_succ] at y0 y1 y2
        have hord := ordered_any sa S sc set wr (hss'.out.grown hbr) HSl.out.symm
        have h2 : Hid (hk = 2 → 0 < S → R = (ordB set && ((k : Int) == 0))) := Lib.hid (by
          intro e hp
          rw [HK.out]
          subst e
          rw [← HSl.out] at hp
          simp [plainB, hp])
        clear hBr
        go_wp2_with (go_at_call 61; (with_reducible refine hord.mono ?_); rintro e w9 ⟨rfl, hb9⟩; have c2 := (hb9.cell (p := ⟨w.heap.size, 2, none⟩) hblt).trans y2; have hlt9 : w.heap.size < w9.heap.size := World.block_lt_of_cell? w9 _ c2; have hR2 : Hid (R = (ordB set && ((k : Int) == 0))) := Lib.hid (h2.out (by simp_all) (by omega)); generalize ordB set = o at hR2 ⊢; cases o)
        all_goals first
          | (go_ret; exact ⟨ret_bool (by rw [hR2.out]; simp_all), hbr.trans (hb9.mono hbr.size)⟩)
          | (have hn := HSl.out
             go_ret
             refine ⟨ret_bool ?_, hbr⟩
             rw [HK.out]
             simp_all [plainB])
          | trace_state
end Go.Proofs.Ytngbfjimmdkfeaa

