/- The reference's deep, Size: plain recursion over an item. -/
import Derived.Test.YtahibjiiaocjkaaLeft
namespace Go.Proofs.Ytahibjiiaocjkaa
open Go.RowKit

def Fo.deep : Fo → Nat
  | .nil => 0
  | .cons _ kids rest => max (kids.deep + 1) rest.deep
theorem Fo.deep_le (f : Fo) : f.deep ≤ f.size := by
  induction f with
  | nil => exact Nat.le_refl _
  | cons h kids rest ihk ihr => simp only [Fo.deep, Fo.size]; omega
theorem pre_deep (f : Fo) : ∀ d, d ≤ 41 → ((f.pre d).all (fun x => decide (x.d ≤ 40)) = decide (d + f.deep ≤ 41)) := by
  induction f with
  | nil => intro d h; simp [Fo.pre, Fo.deep, h]
  | cons h kids rest ihk ihr =>
    intro d hd
    simp only [Fo.pre, Fo.deep, List.all_cons, List.all_append]
    by_cases h40 : d ≤ 40
    · rw [ihk (d + 1) (by omega), ihr d hd, decide_eq_true h40, Bool.true_and, ← Bool.decide_and]
      apply decide_eq_decide.2; omega
    · rw [decide_eq_false h40, Bool.false_and]
      symm
      refine decide_eq_false ?_
      show ¬ d + max (kids.deep + 1) rest.deep ≤ 41
      omega

/-- One element of a list, where the list is read in turn. -/
structure At (w : World) (b off k : Nat) (kids : Fo) (hd : Hd) (ks : Fo) (xa : Option Addr) (xcap : Nat) : Prop where
  c0 : w.cell? ⟨b, off + k * 4, none⟩ = some (.int .i64 hd.k)
  c1 : w.cell? ⟨b, off + k * 4 + 1, none⟩ = some (.int .i64 hd.n)
  c2 : w.cell? ⟨b, off + k * 4 + 2, none⟩ = some (.string hd.s)
  c3 : w.cell? ⟨b, off + k * 4 + 3, none⟩ = some (.slice xa ks.len xcap)
  its : Items w xa xcap ks
  cut : kids.drop k = .cons hd ks (kids.drop (k + 1))
theorem Items.at {w : World} {a : Option Addr} {cap : Nat} {kids : Fo} (hI : Items w a cap kids) {k : Nat} (hk : k < kids.len) : ∃ b off hd ks xa xcap, a = some ⟨b, off, none⟩ ∧ At w b off k kids hd ks xa xcap := by
  obtain ⟨hd, ks, rs, hdr⟩ := Fo.drop_cons hk
  obtain ⟨b, off, rfl, hel⟩ := hI.at_ (by omega)
  have hel2 := Elems.drop k kids b off hel
  rw [hdr] at hel2
  obtain ⟨x0, x1, x2, ⟨xa, xcap, x3, hx1, hx2, hx3, hx4⟩, _⟩ := hel2
  exact ⟨b, off, hd, ks, xa, xcap, rfl, x0, x1, x2, x3, ⟨hx1, hx2, hx3, hx4⟩, by rw [Fo.drop_succ k kids hd ks rs hdr]; exact hdr⟩
theorem At.size {w : World} {b off k xcap : Nat} {kids ks : Fo} {hd : Hd} {xa : Option Addr} (h : At w b off k kids hd ks xa xcap) : (kids.drop k).size = ks.size + (kids.drop (k + 1)).size + 1 ∧ (kids.drop k).size ≤ kids.size := by
  have h1 := Fo.drop_size k kids
  rw [h.cut] at h1 ⊢
  exact ⟨rfl, h1⟩
theorem At.deep {w : World} {b off k xcap : Nat} {kids ks : Fo} {hd : Hd} {xa : Option Addr} (h : At w b off k kids hd ks xa xcap) : (kids.drop k).deep = max (ks.deep + 1) (kids.drop (k + 1)).deep := by
  rw [h.cut]; rfl

set_option maxRecDepth 100000 in
set_option maxHeartbeats 1000000 in
theorem deep_any : ∀ (N : Nat) (h : Hd) (kids : Fo) (a : Option Addr) (cap : Nat) (w : World), kids.size < N → N ≤ 1099511627777 → Items w a cap kids →
    Calls Try.prog 38 #[itemV h a kids.len cap] w fun e w' => e = .returned (.int .i64 ((kids.deep : Int) + 1)) ∧ Below w.heap.size w w' := by
  intro N
  induction N with
  | zero => intro h kids a cap w hN; omega
  | succ N ih =>
    intro h kids a cap w hN hN1 hI
    have hlm : kids.len ≤ cap ∧ cap ≤ 9223372036854775807 := ⟨hI.le, hI.max⟩
    have hdl := Fo.deep_le kids
    obtain ⟨L, HL⟩ : ∃ L, Hid (kids.len = L) := ⟨_, Lib.hid rfl⟩
    rw [HL.out] at hlm ⊢
    have hb0 := (Below.refl w.heap.size w).alloc (Nat.le_refl _) (.cells #[.int .i64 h.k, .int .i64 h.n, .string h.s, .slice a L cap] 24)
    go_enter Try.func38, Try.ntmps38
    go_wp2
    go_loopw [3, 5, 9] (fun t _ i wr => ∃ (k : Nat) (r : Nat), k ≤ L ∧ i = .int .i64 k ∧ t = .int .i64 r ∧ max r (kids.drop k).deep = kids.deep ∧ Below w.heap.size w wr) (fun _ _ i _ => L - (intOf i).toNat)
    case atStart => exact ⟨0, 0, by omega, rfl, rfl, by simp [Fo.drop], hb0⟩
    case round =>
      obtain ⟨k, r, hk, rfl, rfl, hr, hbr⟩ := hrel
      have HR := Lib.hid hr
      clear hr hb0
      by_cases hlt : k < L
      · obtain ⟨b, off, hd, ks, xa, xcap, rfl, hat⟩ := (hI.grown hbr).at (k := k) (by rw [HL.out]; exact hlt)
        obtain ⟨x0, x1, x2, x3, hIk, hcut⟩ := hat
        have HS := Lib.hid (At.size ⟨x0, x1, x2, x3, hIk, hcut⟩)
        have HD := Lib.hid (At.deep ⟨x0, x1, x2, x3, hIk, hcut⟩)
        clear hcut
        have hmx := hIk.le
        have hmx2 := hIk.max
        have hnx := (Below.refl wr.heap.size wr).alloc (Nat.le_refl _) (.cells #[.int .i64 hd.k, .int .i64 hd.n, .string hd.s, .slice xa ks.len xcap] 24)
        have hIk2 := hIk.grown hnx
        have hbn : Below w.heap.size w (wr.alloc (.cells #[.int .i64 hd.k, .int .i64 hd.n, .string hd.s, .slice xa ks.len xcap] 24)) := hbr.trans (hnx.mono hbr.size)
        clear hnx hIk
        go_wp2_with (fail)
        refine (ih hd ks xa xcap _ (by have := HS.out; omega) (by omega) hIk2).mono ?_
        rintro e w4 ⟨rfl, hb4⟩
        have hb5 : Below w.heap.size w w4 := hbn.trans (hb4.mono hbn.size)
        have hkd := Fo.deep_le ks
        have hkd2 : Hid (ks.size ≤ kids.size) := Lib.hid (by have := HS.out; omega)
        clear hb4 hbn hIk2 x0 x1 x2 x3
        go_wp2_with (fail)
        go_roundw
        case rel =>
          have h1 := HR.out
          have h2 := HD.out
          exact ⟨k + 1, max r (ks.deep + 1), by omega, by go_num, by congr 1; split <;> omega, by omega, hb5⟩
        case measure => simp [intOf]; omega
      · obtain rfl : k = L := by omega
        have hd0 : (kids.drop k).deep = 0 := by rw [Fo.drop_all (by rw [HL.out]; exact Nat.le_refl _)]; rfl
        obtain rfl : r = kids.deep := by have := HR.out; omega
        clear hd0 HR
        go_wp2_with (fail)
        exact bodyPost_ret (v := .int .i64 ((kids.deep : Int) + 1)) (by simp [results, Try.results38, go_sem]; try rfl) rfl ⟨rfl, hbr⟩

set_option maxRecDepth 100000 in
set_option maxHeartbeats 1000000 in
theorem rsize_any : ∀ (N : Nat) (h : Hd) (kids : Fo) (a : Option Addr) (cap : Nat) (w : World), kids.size < N → N ≤ 1099511627777 → Items w a cap kids →
    Calls Try.prog 19 #[itemV h a kids.len cap] w fun e w' => e = .returned (.int .i64 ((kids.size : Int) + 1)) ∧ Below w.heap.size w w' := by
  intro N
  induction N with
  | zero => intro h kids a cap w hN; omega
  | succ N ih =>
    intro h kids a cap w hN hN1 hI
    have hlm : kids.len ≤ cap ∧ cap ≤ 9223372036854775807 := ⟨hI.le, hI.max⟩
    obtain ⟨L, HL⟩ : ∃ L, Hid (kids.len = L) := ⟨_, Lib.hid rfl⟩
    rw [HL.out] at hlm ⊢
    have hb0 := (Below.refl w.heap.size w).alloc (Nat.le_refl _) (.cells #[.int .i64 h.k, .int .i64 h.n, .string h.s, .slice a L cap] 24)
    go_enter Try.func19, Try.ntmps19
    go_wp2
    go_loopw [3, 5, 9] (fun t _ i wr => ∃ (k : Nat) (r : Nat), k ≤ L ∧ i = .int .i64 k ∧ t = .int .i64 r ∧ r + (kids.drop k).size = kids.size + 1 ∧ Below w.heap.size w wr) (fun _ _ i _ => L - (intOf i).toNat)
    case atStart => exact ⟨0, 1, by omega, rfl, rfl, by show 1 + kids.size = kids.size + 1; omega, hb0⟩
    case round =>
      obtain ⟨k, r, hk, rfl, rfl, hr, hbr⟩ := hrel
      have HR := Lib.hid hr
      have hr1 : r ≤ 1099511627778 := by omega
      clear hr hb0
      by_cases hlt : k < L
      · obtain ⟨b, off, hd, ks, xa, xcap, rfl, hat⟩ := (hI.grown hbr).at (k := k) (by rw [HL.out]; exact hlt)
        obtain ⟨x0, x1, x2, x3, hIk, hcut⟩ := hat
        have HS := Lib.hid (At.size ⟨x0, x1, x2, x3, hIk, hcut⟩)
        clear hcut
        have hmx := hIk.le
        have hmx2 := hIk.max
        have hnx := (Below.refl wr.heap.size wr).alloc (Nat.le_refl _) (.cells #[.int .i64 hd.k, .int .i64 hd.n, .string hd.s, .slice xa ks.len xcap] 24)
        have hIk2 := hIk.grown hnx
        have hbn : Below w.heap.size w (wr.alloc (.cells #[.int .i64 hd.k, .int .i64 hd.n, .string hd.s, .slice xa ks.len xcap] 24)) := hbr.trans (hnx.mono hbr.size)
        clear hnx hIk
        go_wp2_with (fail)
        refine (ih hd ks xa xcap _ (by have := HS.out; omega) (by omega) hIk2).mono ?_
        rintro e w4 ⟨rfl, hb4⟩
        have hb5 : Below w.heap.size w w4 := hbn.trans (hb4.mono hbn.size)
        have hks : ks.size ≤ 1099511627778 := by have := HS.out; omega
        clear hb4 hbn hIk2 x0 x1 x2 x3
        go_wp2_with (fail)
        go_roundw
        case rel =>
          have h1 := HR.out
          have h2 := HS.out
          exact ⟨k + 1, r + (ks.size + 1), by omega, by go_num, by first | rfl | (congr 1; omega), by omega, hb5⟩
        case measure => simp [intOf]; omega
      · obtain rfl : k = L := by omega
        have hd0 : (kids.drop k).size = 0 := by rw [Fo.drop_all (by rw [HL.out]; exact Nat.le_refl _)]; rfl
        obtain rfl : r = kids.size + 1 := by have := HR.out; omega
        clear hd0 HR
        go_wp2_with (fail)
        exact bodyPost_ret (v := .int .i64 ((kids.size : Int) + 1)) (by simp [results, Try.results19, go_sem]; try rfl) rfl ⟨rfl, hbr⟩

/-- All of a list's items may be, their depth aside. -/
def mayB (f : Fo) : Bool := (f.pre 1).all (fun x => plainB x.h x.len)
theorem pre_plain (f : Fo) : ∀ d d' : Nat, (f.pre d).all (fun x => plainB x.h x.len) = (f.pre d').all (fun x => plainB x.h x.len) := by
  induction f with
  | nil => intro d d'; rfl
  | cons h kids rest ihk ihr => intro d d'; simp only [Fo.pre, List.all_cons, List.all_append]; rw [ihk (d + 1) (d' + 1), ihr d d']
theorem mayB_cons (h : Hd) (kids rest : Fo) : mayB (.cons h kids rest) = (plainB h kids.len && mayB kids && mayB rest) := by
  unfold mayB
  simp only [Fo.pre, List.all_cons, List.all_append]
  rw [pre_plain kids 2 1, Bool.and_assoc]
theorem At.may {w : World} {b off k xcap : Nat} {kids ks : Fo} {hd : Hd} {xa : Option Addr} (h : At w b off k kids hd ks xa xcap) : mayB (kids.drop k) = (plainB hd ks.len && mayB ks && mayB (kids.drop (k + 1))) := by
  rw [h.cut, mayB_cons, Fo.drop_succ _ _ _ _ _ h.cut]
theorem may_leaf {kids : Fo} (hl : kids.len = 0) : mayB kids = true := by
  cases kids with
  | nil => rfl
  | cons h kids rest => simp [Fo.len] at hl

set_option maxRecDepth 100000 in
set_option maxHeartbeats 1000000 in
theorem may_any : ∀ (N : Nat) (h : Hd) (kids : Fo) (a : Option Addr) (cap : Nat) (w : World), kids.size < N → Items w a cap kids →
    Calls Try.prog 37 #[itemV h a kids.len cap] w fun e w' => e = .returned (.bool (plainB h kids.len && mayB kids)) ∧ Below w.heap.size w w' := by
  intro N
  induction N with
  | zero => intro h kids a cap w hN; omega
  | succ N ih =>
    intro h kids a cap w hN hI
    obtain ⟨hk, hn, hs⟩ := h
    have hlm : kids.len ≤ cap ∧ cap ≤ 9223372036854775807 := ⟨hI.le, hI.max⟩
    obtain ⟨L, HL⟩ : ∃ L, Hid (kids.len = L) := ⟨_, Lib.hid rfl⟩
    rw [HL.out] at hlm ⊢
    have hb0 := (Below.refl w.heap.size w).alloc (Nat.le_refl _) (.cells #[.int .i64 hk, .int .i64 hn, .string hs, .slice a L cap] 24)
    go_enter Try.func37, Try.ntmps37
    have hleaf : Hid (L = 0 → mayB kids = true) := Lib.hid (fun e => may_leaf (by rw [HL.out]; exact e))
    have hBx := Blk.new w 24 #[.int .i64 hk, .int .i64 hn, .string hs, .slice a L cap]
    go_wp2_with (fail)
    · refine bodyPost_ret (v := .bool ((L : Int) == 0)) (by simp [results, Try.results37, go_sem]; try rfl) rfl ⟨ret_bool ?_, hb0⟩
      by_cases hL : L = 0
      · simp [plainB, hleaf.out hL, *]
      · simp [plainB, hL, *]
    · refine bodyPost_ret (v := .bool false) (by simp [results, Try.results37, go_sem]; try rfl) rfl ⟨ret_bool ?_, hb0⟩
      simp [plainB, *]
    · refine bodyPost_ret (v := .bool ((L : Int) == 0)) (by simp [results, Try.results37, go_sem]; try rfl) rfl ⟨ret_bool ?_, (Below.refl w.heap.size w).alloc (Nat.le_refl _) _⟩
      by_cases hL : L = 0
      · simp [plainB, hleaf.out hL, *]
      · simp [plainB, hL, *]
    · refine bodyPost_ret (v := .bool false) (by simp [results, Try.results37, go_sem]; try rfl) rfl ⟨ret_bool ?_, hb0⟩
      simp [plainB, *]
    · have h3 : Hid (plainB ⟨hk, hn, hs⟩ L = ((hn == 0) && hs.toList.isEmpty)) := Lib.hid (by simp [plainB, *])
      go_loopw [4, 34] (fun _ i wr => ∃ (k : Nat), k ≤ L ∧ i = .int .i64 k ∧ mayB kids = mayB (kids.drop k) ∧ Below w.heap.size w wr ∧ Blk wr w.heap.size 24 [.int .i64 hk, .int .i64 hn, .string hs, .slice a L cap]) (fun _ i _ => L - (intOf i).toNat)
      case atStart => exact ⟨0, by omega, rfl, rfl, hb0, hBx⟩
      case round =>
        obtain ⟨k, hk', rfl, hr, hbr, hBr⟩ := hrel
        have HR := Lib.hid hr
        clear hr hb0 hBx hleaf
        by_cases hlt : k < L
        · obtain ⟨b, off, hd, ks, xa, xcap, rfl, hat⟩ := (hI.grown hbr).at (k := k) (by rw [HL.out]; exact hlt)
          obtain ⟨x0, x1, x2, x3, hIk, hcut⟩ := hat
          have HS := Lib.hid (At.size ⟨x0, x1, x2, x3, hIk, hcut⟩)
          have HM := Lib.hid (At.may ⟨x0, x1, x2, x3, hIk, hcut⟩)
          clear hcut
          have hmx := hIk.le
          have hmx2 := hIk.max
          have hnx := (Below.refl wr.heap.size wr).alloc (Nat.le_refl _) (.cells #[.int .i64 hd.k, .int .i64 hd.n, .string hd.s, .slice xa ks.len xcap] 24)
          have hIk2 := hIk.grown hnx
          have hbn : Below w.heap.size w (wr.alloc (.cells #[.int .i64 hd.k, .int .i64 hd.n, .string hd.s, .slice xa ks.len xcap] 24)) := hbr.trans (hnx.mono hbr.size)
          have hBn := hBr.alloc (.cells #[.int .i64 hd.k, .int .i64 hd.n, .string hd.s, .slice xa ks.len xcap] 24)
          have hltb := hBn.lt
          clear hnx hIk hBr
          go_wp2_with (fail)
          refine (ih hd ks xa xcap _ (by have := HS.out; omega) hIk2).mono ?_
          rintro e w4 ⟨rfl, hb4⟩
          have hb5 : Below w.heap.size w w4 := hbn.trans (hb4.mono hbn.size)
          have hB5 := hBn.below hb4 hltb
          clear hb4 hbn hIk2 x0 x1 x2 x3 hBn hltb
          by_cases hm : (plainB hd ks.len && mayB ks) = true
          · rw [hm]
            go_wp2_with (fail)
            go_roundw
            case rel => exact ⟨k + 1, by omega, by go_num, by rw [HR.out, HM.out, hm, Bool.true_and], hb5, hB5⟩
            case measure => simp [intOf]; omega
          · have hm' : (plainB hd ks.len && mayB ks) = false := by simpa using hm
            rw [hm']
            go_wp2_with (fail)
            exact bodyPost_ret (v := .bool false) (by simp [results, Try.results37, go_sem]; try rfl) rfl ⟨ret_bool (by rw [HR.out, HM.out, hm']; simp), hb5⟩
        · obtain rfl : k = L := by omega
          have hd0 : mayB (kids.drop k) = true := by rw [Fo.drop_all (by rw [HL.out]; exact Nat.le_refl _)]; rfl
          have HK : Hid (mayB kids = true) := Lib.hid (by rw [HR.out, hd0])
          clear hd0
          have y1 := hBr.cell 1
          have y2 := hBr.cell 2
          simp only [List.getElem?_cons_zero, List.getElem?_cons_succ] at y1 y2
          go_wp2_with (fail)
          · refine bodyPost_ret (v := .bool hs.toList.isEmpty) (by simp [results, Try.results37, go_sem]; try rfl) rfl ⟨ret_bool ?_, hbr⟩
            rw [h3.out, HK.out]; simp [*]
          · refine bodyPost_ret (v := .bool false) (by simp [results, Try.results37, go_sem]; try rfl) rfl ⟨ret_bool ?_, hbr⟩
            rw [h3.out, HK.out]; simp [*]
    · refine bodyPost_ret (v := .bool false) (by simp [results, Try.results37, go_sem]; try rfl) rfl ⟨ret_bool ?_, hb0⟩
      simp [plainB, *]
end Go.Proofs.Ytahibjiiaocjkaa
