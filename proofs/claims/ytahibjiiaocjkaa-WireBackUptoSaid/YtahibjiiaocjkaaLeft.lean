/- ref.left, ref.Few, big: an item that is few has no more than so many items in it. -/
import Derived.Test.YtahibjiiaocjkaaCheck
namespace Go.Proofs.Ytahibjiiaocjkaa
open Go.RowKit

/-- The items from the k-th on. -/
def Fo.drop : Nat → Fo → Fo
  | 0, f => f
  | _ + 1, .nil => .nil
  | k + 1, .cons _ _ rest => rest.drop k

theorem Fo.drop_len : ∀ (k : Nat) (f : Fo), (f.drop k).len = f.len - k := by
  intro k
  induction k with
  | zero => intro f; rfl
  | succ k ih => intro f; cases f with
    | nil => simp [Fo.drop, Fo.len]
    | cons h kids rest => simp only [Fo.drop, Fo.len, ih]; omega
theorem Fo.drop_succ : ∀ (k : Nat) (f : Fo) (h : Hd) (kids rest : Fo), f.drop k = .cons h kids rest → f.drop (k + 1) = rest := by
  intro k
  induction k with
  | zero => intro f h kids rest e; simp only [Fo.drop] at e; subst e; rfl
  | succ k ih => intro f h kids rest e; cases f with
    | nil => simp [Fo.drop] at e
    | cons h' kids' rest' => simp only [Fo.drop] at e ⊢; exact ih _ _ _ _ e
theorem Fo.drop_cons {k : Nat} {f : Fo} (h : k < f.len) : ∃ hd kids rest, f.drop k = .cons hd kids rest := by
  have := Fo.drop_len k f
  cases e : f.drop k with
  | nil => rw [e] at this; simp [Fo.len] at this; omega
  | cons hd kids rest => exact ⟨_, _, _, rfl⟩
theorem Fo.drop_all {f : Fo} {k : Nat} (h : f.len ≤ k) : f.drop k = .nil := by
  have := Fo.drop_len k f
  cases e : f.drop k with
  | nil => rfl
  | cons hd kids rest => rw [e] at this; simp [Fo.len] at this; omega
theorem Fo.drop_size : ∀ (k : Nat) (f : Fo), (f.drop k).size ≤ f.size := by
  intro k
  induction k with
  | zero => intro f; exact Nat.le_refl _
  | succ k ih => intro f; cases f with
    | nil => exact Nat.le_refl _
    | cons h kids rest => simp only [Fo.drop, Fo.size]; have := ih rest; omega
theorem Elems.drop {w : World} : ∀ (k : Nat) (f : Fo) (b off : Nat), Elems w f b off → Elems w (f.drop k) b (off + k * 4) := by
  intro k
  induction k with
  | zero => intro f b off h; simpa [Fo.drop] using h
  | succ k ih => intro f b off h; cases f with
    | nil => trivial
    | cons hd kids rest =>
      have := ih rest b (off + 4) h.2.2.2.2
      rw [show off + (k + 1) * 4 = off + 4 + k * 4 from by omega]
      exact this

set_option maxRecDepth 100000 in
set_option maxHeartbeats 1000000 in
theorem left_any : ∀ (N : Nat) (h : Hd) (kids : Fo) (a : Option Addr) (cap : Nat) (m : Int) (w : World), kids.size < N → Items w a cap kids → 0 ≤ m → m ≤ 1000000 →
    Calls Try.prog 48 #[itemV h a kids.len cap, .int .i64 m] w fun e w' => ∃ r : Int, e = .returned (.int .i64 r) ∧ -1 ≤ r ∧ (0 ≤ r → r = m - (kids.size : Int) - 1) ∧ (r < 0 → m < (kids.size : Int) + 1) ∧ Below w.heap.size w w' := by
  intro N
  induction N with
  | zero => intro h kids a cap m w hN; omega
  | succ N ih =>
    intro h kids a cap m w hN hI h0 h1
    have hlm : kids.len ≤ cap ∧ cap ≤ 9223372036854775807 := ⟨hI.le, hI.max⟩
    have hK := hI.at_
    obtain ⟨L, HL⟩ : ∃ L, Hid (kids.len = L) := ⟨_, Lib.hid rfl⟩
    rw [HL.out] at hlm hK ⊢
    have hb0 := (Below.refl w.heap.size w).alloc (Nat.le_refl _) (.cells #[.int .i64 h.k, .int .i64 h.n, .string h.s, .slice a L cap] 24)
    go_enter Try.func48, Try.ntmps48
    go_wp2
    go_loopw [1, 6, 12] (fun t _ i wr => ∃ (k : Nat) (r : Int), k ≤ L ∧ i = .int .i64 k ∧ t = .int .i64 r ∧ -1 ≤ r ∧ r ≤ 1000000 ∧ (0 ≤ r → r = m - 1 - ((kids.size : Int) - ((kids.drop k).size : Int))) ∧ (r < 0 → m < (kids.size : Int) - ((kids.drop k).size : Int) + 1) ∧ Below w.heap.size w wr) (fun _ _ i _ => L - (intOf i).toNat)
    case atStart => exact ⟨0, m - 1, by omega, rfl, rfl, by omega, by omega, fun _ => by simp [Fo.drop], fun _ => by simp [Fo.drop]; omega, hb0⟩
    case round =>
      obtain ⟨k, r, hk, rfl, rfl, hr0, hr1, hr2, hr3, hbr⟩ := hrel
      have HR2 := Lib.hid hr2
      have HR3 := Lib.hid hr3
      clear hr2 hr3 hb0
      by_cases hlt : k < L
      · obtain ⟨hd, ks, rs, hdr⟩ := Fo.drop_cons (f := kids) (k := k) (by rw [HL.out]; exact hlt)
        obtain ⟨b, off, rfl, hel⟩ := hK (by omega)
        have hel2 := Elems.drop k kids b off hel
        rw [hdr] at hel2
        have hel3 := Elems.grown hbr _ _ _ hel2
        obtain ⟨x0, x1, x2, ⟨xa, xcap, x3, hx1, hx2, hx3, hx4⟩, _⟩ := hel3
        have hdr' := Lib.hid hdr
        have hsz : Hid (ks.size < N ∧ kids.size - (kids.drop (k+1)).size = kids.size - (kids.drop k).size + ks.size + 1 ∧ (kids.drop k).size ≤ kids.size ∧ (kids.drop (k+1)).size ≤ kids.size) := by
          have h1 := Fo.drop_size k kids
          have h2 := Fo.drop_succ k kids hd ks rs hdr
          rw [hdr] at h1 ⊢
          rw [h2]
          simp only [Fo.size] at h1 ⊢
          exact Lib.hid ⟨by omega, by omega, h1, by omega⟩
        clear hdr hel hel2
        have hIk : Items wr xa xcap ks := ⟨hx1, hx2, hx3, hx4⟩
        have hnx := (Below.refl wr.heap.size wr).alloc (Nat.le_refl _) (.cells #[.int .i64 hd.k, .int .i64 hd.n, .string hd.s, .slice xa ks.len xcap] 24)
        have hIk2 := hIk.grown hnx
        have hbn : Below w.heap.size w (wr.alloc (.cells #[.int .i64 hd.k, .int .i64 hd.n, .string hd.s, .slice xa ks.len xcap] 24)) := hbr.trans (hnx.mono hbr.size)
        clear hnx hIk hx4 hx3
        go_wp2_with (fail)
        · refine bodyPost_ret (v := .int .i64 r) (by simp [results, Try.results48, go_sem]; try rfl) rfl ⟨r, rfl, hr0, fun h => ?_, fun h => ?_, hbn⟩
          · omega
          · have := HR3.out h
            have := hsz.out
            omega
        · refine (ih hd ks xa xcap r _ hsz.out.1 hIk2 (by assumption) hr1).mono ?_
          rintro e w4 ⟨r', rfl, q0, q1, q2, hb4⟩
          have hb5 : Below w.heap.size w w4 := hbn.trans (hb4.mono hbn.size)
          have Q1 := Lib.hid q1
          have Q2 := Lib.hid q2
          clear q1 q2 hb4 hbn hIk2 x0 x1 x2 x3
          go_wp2_with (fail)
          go_roundw
          case rel =>
            have h1 := hsz.out
            have h2 := HR2.out (by assumption)
            refine ⟨k + 1, r', by omega, by go_num, rfl, q0, ?_, fun h => ?_, fun h => ?_, hb5⟩
            · by_cases h : 0 ≤ r'
              · have := Q1.out h; omega
              · omega
            · have := Q1.out h; omega
            · have := Q2.out h; omega
          case measure => simp [intOf]; omega
      · obtain rfl : k = L := by omega
        have hd0 : Hid ((kids.drop k).size = 0) := by rw [Fo.drop_all (by rw [HL.out]; exact Nat.le_refl _)]; exact Lib.hid rfl
        go_wp2_with (fail)
        refine bodyPost_ret (v := .int .i64 r) (by simp [results, Try.results48, go_sem]; try rfl) rfl ⟨r, rfl, hr0, fun h => ?_, fun h => ?_, hbr⟩
        · have := HR2.out h; rw [hd0.out] at this; omega
        · have := HR3.out h; rw [hd0.out] at this; omega

/-- Few: just if there are no more than so many. -/
theorem few_any (h : Hd) (kids : Fo) (a : Option Addr) (cap : Nat) (m : Int) (w : World) (hI : Items w a cap kids) (h0 : 0 ≤ m) (h1 : m ≤ 1000000) :
    Calls Try.prog 33 #[itemV h a kids.len cap, .int .i64 m] w fun e w' => e = .returned (.bool (decide ((kids.size : Int) + 1 ≤ m))) ∧ Below w.heap.size w w' := by
  have hb0 := (Below.refl w.heap.size w).alloc (Nat.le_refl _) (.cells #[.int .i64 h.k, .int .i64 h.n, .string h.s, .slice a kids.len cap] 24)
  have hI2 := hI.grown hb0
  go_enter Try.func33, Try.ntmps33
  go_wp2_with (fail)
  refine (left_any (kids.size + 1) h kids a cap m _ (by omega) hI2 h0 h1).mono ?_
  rintro e w2 ⟨r, rfl, q0, q1, q2, hb⟩
  have hb3 : Below w.heap.size w w2 := hb0.trans (hb.mono hb0.size)
  have Q1 := Lib.hid q1
  have Q2 := Lib.hid q2
  clear q1 q2 hb hb0 hI2 hI
  go_wp2_with (fail)
  refine bodyPost_ret (v := .bool (decide (0 ≤ r))) (by simp [results, Try.results33, go_sem]; try rfl) rfl ⟨ret_bool (decide_eq_decide.2 ?_), hb3⟩
  constructor
  · intro h; have := Q1.out h; omega
  · intro h; by_cases hr : 0 ≤ r
    · exact hr
    · have := Q2.out (by omega); omega
end Go.Proofs.Ytahibjiiaocjkaa
