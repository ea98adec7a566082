/- Layer 7: the words of a text, one after the other. -/
import Derived.Test.YtoaabfdilhbajaaXd
import Derived.Test.YtoaabfdilhbajaaXi
import Derived.Test.YtoaabfdilhbajaaAll
namespace Go.Proofs.Ytoaabfdilhbajaa
open Go.RowKit Go.Shelf

attribute [local go_sem] Oper.semAt_some

/-- The words from a place on, each with its place. -/
def wrdsF : Nat → ByteArray → Nat → List (Nat × ByteArray)
  | 0, _, _ => []
  | n + 1, s, k => if k < s.size then (k, s.extract k (k + wrdL (s.data.toList.drop k))) :: wrdsF n s (k + wrdL (s.data.toList.drop k) + blkL false (s.data.toList.drop (k + wrdL (s.data.toList.drop k)))) else []
def wordsP (s : ByteArray) : List (Nat × ByteArray) := wrdsF s.size s (blkL false s.data.toList)
def encW (x : Nat × ByteArray) : Array Value := #[.int .i64 (x.1 : Int), .string x.2]
def GoodW (s : ByteArray) (pre : List (Nat × ByteArray)) : Prop := ∃ r, pre ++ r = wordsP s
def FullW (s : ByteArray) (xs : List (Nat × ByteArray)) : Prop := xs = wordsP s
/-- The box of the text stays. -/
def KeepB (Bs : Nat) (W W' : World) : Prop := ∀ o, W.heap[Bs]? = some o → W'.heap[Bs]? = some o
theorem keepB_frm {B Bs : Nat} (h : Bs < B) : Frm B (KeepB Bs) :=
  ⟨fun h k o ho => k o (h o ho), fun {W l o} o' hl _ _ q hq => by
    have := grownBy_putObj' W l o'
    rw [this.block Bs (Array.getElem?_eq_some_iff.1 hq).1 (fun e => by cases e; omega)]
    exact hq⟩

set_option maxRecDepth 100000 in
set_option maxHeartbeats 1000000 in
theorem words_walks (s : ByteArray) (Bs : Nat) (w : World) (hs : s.size ≤ 1099511627776) (hb : w.heap[Bs]? = some (.cells #[.string s] 9 (0, 0))) :
    WalksX Try.prog 39 #[.pointer (some ⟨Bs, 0, none⟩)] encW (GoodW s) (FullW s) (KeepB Bs) (fun _ => false) w := by
  intro l J Jx W hW hJ hJx hY h0
  have hbl : Bs < w.heap.size := (Array.getElem?_eq_some_iff.1 hb).1
  have hbW : W.heap[Bs]? = some (.cells #[.string s] 9 (0, 0)) := (hW.block Bs hbl).trans hb
  have hblW : Bs < W.heap.size := (Array.getElem?_eq_some_iff.1 hbW).1
  have c0 : W.cell? ⟨Bs, 0, none⟩ = some (.string s) := by unfold World.cell?; rw [show ((⟨Bs, 0, none⟩ : Addr).block) = Bs from rfl, hbW]; rfl
  have HbW := Lib.hid hbW
  have hbl0 := blkL_le false s.data.toList
  rw [dlen] at hbl0
  have Hb0 := Lib.hid (blank_any s 0 W (Nat.zero_le _) hs)
  simp only [List.drop_zero, Nat.zero_add] at Hb0
  obtain ⟨k0, hk0⟩ : ∃ k, Hid (blkL false s.data.toList = k) := ⟨_, Lib.hid rfl⟩
  rw [hk0.out] at hbl0 Hb0
  have HW0 : Hid (wordsP s = wrdsF s.size s k0) := Lib.hid (by unfold wordsP; rw [hk0.out])
  clear hbW hW hb hbl
  refine callsIn_of_wp Try.func39 rfl trivial ?_ rfl
  simp only [Try.ntmps39, List.size_toArray, List.length_cons, List.length_nil, Nat.reduceAdd, Nat.reduceSub, Array.replicate_succ, Array.replicate_zero, List.push_toArray, List.append_toArray, List.nil_append, List.cons_append]
  gi_wp2_with (fail)
  refine ⟨trivial, rfl, ((callsIn_wide (n := 0)).2 Hb0.out).mono ?_⟩
  rintro e w1 ⟨rfl, rfl⟩
  gi_wp2_with (fail)
  gi_loopg [3] (s.size - k0) (fun m o wr => ∃ (k n : Nat) (pre : List (Nat × ByteArray)), k ≤ s.size ∧ m = s.size - k ∧ o = .int .i64 (k : Int) ∧ s.size - k ≤ n ∧ pre ++ wrdsF n s k = wordsP s ∧ J pre wr ∧ wr.heap[Bs]? = some (.cells #[.string s] 9 (0, 0)))
  case atStart => exact ⟨k0, s.size, [], hbl0, rfl, rfl, by omega, HW0.out.symm, h0, HbW.out⟩
  case round =>
    obtain ⟨k, n, pre, hk, rfl, rfl, hn, hpre, hj, hbx⟩ := hrel
    have Hpre := Lib.hid hpre
    have Hbx := Lib.hid hbx
    have c1 : wr.cell? ⟨Bs, 0, none⟩ = some (.string s) := by unfold World.cell?; rw [show ((⟨Bs, 0, none⟩ : Addr).block) = Bs from rfl, hbx]; rfl
    have cl := World.block_lt_of_cell? wr _ c1
    clear hpre hbx c0
    by_cases hlt : k < s.size
    · have hkI : (k : Int) < (s.size : Int) := by omega
      have hkI0 : (0 : Int) ≤ (k : Int) := by omega
      obtain ⟨n, rfl⟩ : ∃ m, n = m + 1 := ⟨n - 1, by omega⟩
      have hwl := wrdL_le (s.data.toList.drop k)
      rw [List.length_drop, dlen] at hwl
      have hwp : 0 < wrdL (s.data.toList.drop k) := by
        rw [List.drop_eq_getElem_cons (by rw [dlen]; exact hlt)]
        exact wrdL_pos _ _
      have HU : Hid (wrdsF (n + 1) s k = (k, s.extract k (k + wrdL (s.data.toList.drop k))) :: wrdsF n s (k + wrdL (s.data.toList.drop k) + blkL false (s.data.toList.drop (k + wrdL (s.data.toList.drop k))))) := Lib.hid (by rw [wrdsF, if_pos hlt])
      have Hwe := Lib.hid (wordEnd_any s k wr hlt hs)
      obtain ⟨q, hq⟩ : ∃ q, Hid (k + wrdL (s.data.toList.drop k) = q) := ⟨_, Lib.hid rfl⟩
      rw [hq.out] at HU Hwe
      have hqk : k < q ∧ q ≤ s.size := by have := hq.out; omega
      have hble := blkL_le false (s.data.toList.drop q)
      rw [List.length_drop, dlen] at hble
      have hgood : GoodW s (pre ++ [(k, s.extract k q)]) := ⟨wrdsF n s (q + blkL false (s.data.toList.drop q)), by rw [← Hpre.out, HU.out]; simp⟩
      obtain ⟨fn, tmps, assign, body, hy, hR⟩ := hY pre _ wr hj hgood
      dsimp only [encW] at hy
      have hqI0 : (0 : Int) ≤ (q : Int) := by omega
      have hqI1 : (k : Int) ≤ (q : Int) := by omega
      have hqI2 : (q : Int) ≤ (s.size : Int) := by omega
      clear hwl hwp hj h0
      gi_wp2_with (fail)
      refine ⟨trivial, rfl, ((callsIn_wide (n := 0)).2 Hwe.out).mono ?_⟩
      rintro e w2 ⟨rfl, hw2⟩
      subst w2
      gi_wp2_with (fail)
      refine ⟨rfl, hR.mono ?_⟩
      rintro e W3 (⟨rfl, hj3, hs3⟩ | ⟨rfl, hjx⟩)
      · have hbx3 := hs3 _ Hbx.out
        have c3 : W3.cell? ⟨Bs, 0, none⟩ = some (.string s) := by unfold World.cell?; rw [show ((⟨Bs, 0, none⟩ : Addr).block) = Bs from rfl, hbx3]; rfl
        have cl3 := World.block_lt_of_cell? W3 _ c3
        have Hbl := Lib.hid (blank_any s q W3 hqk.2 hs)
        obtain ⟨k2, hk2⟩ : ∃ k2, Hid (q + blkL false (s.data.toList.drop q) = k2) := ⟨_, Lib.hid rfl⟩
        rw [hk2.out] at Hbl HU
        have hk2b : q ≤ k2 ∧ k2 ≤ s.size := by have := hk2.out; omega
        have Hbx3 := Lib.hid hbx3
        have Hj3 := Lib.hid hj3
        clear hy hR hbx3 hj3 hs3 c1 cl
        gi_wp2_with (fail)
        refine ⟨trivial, rfl, ((callsIn_wide (n := 0)).2 Hbl.out).mono ?_⟩
        rintro e w4 ⟨rfl, hw4⟩
        subst w4
        gi_wp2_with (fail)
        gi_roundg (s.size - k2)
        case measure => omega
        case rel => exact ⟨k2, n, pre ++ [(k, s.extract k q)], hk2b.2, rfl, rfl, by omega, by rw [← Hpre.out, HU.out]; simp, Hj3.out, Hbx3.out⟩
      · gi_wp2_with (fail)
        refine bodyPost_ret (results_none rfl _ _ _) rfl ?_
        exact ⟨⟨_, rfl⟩, .inr ⟨_, hgood, hjx⟩⟩
    · obtain rfl : k = s.size := by omega
      have hkI : ¬ (s.size : Int) < (s.size : Int) := by omega
      have HF : Hid (pre = wordsP s) := Lib.hid (by
        rw [← Hpre.out]
        cases n with
        | zero => simp [wrdsF]
        | succ n => rw [wrdsF, if_neg (by omega)]; simp)
      gi_wp2_with (fail)
      go_end0
      exact ⟨⟨_, rfl⟩, .inl ⟨pre, HF.out, hj⟩⟩
end Go.Proofs.Ytoaabfdilhbajaa
