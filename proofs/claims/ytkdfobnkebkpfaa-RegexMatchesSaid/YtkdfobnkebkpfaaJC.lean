/- Texts of layer 2 joined: Set SetOf Others Byte Hex Spans SpansF Equal Alike. -/
import Derived.Test.YtkdfobnkebkpfaaJB
import Derived.BigRegion
import Derived.Test.YtkdfobnkebkpfaaJA
set_option linter.unusedVariables false
set_option linter.unusedSimpArgs false
/- A set of bytes as four words of 64 bits: regex.byteSet.has. -/
namespace Go.Proofs.Ytkdfobnkebkpfaa
open Go.RowKit

/-- Whether a byte is in the set that four words hold. -/
def hasW (f : Nat → BitVec 64) (c : Nat) : Bool := (f (c / 64)).getLsbD (c % 64)

/-- The four cells from an address on read as these words. -/
def Wds (w : World) (b off : Nat) (f : Nat → BitVec 64) : Prop := ∀ i, i < 4 → w.cell? ⟨b, off + i, none⟩ = some (.int .u64 ((f i).toNat : Int))

theorem Wds.below {B b off : Nat} {w w' : World} {f : Nat → BitVec 64} (h : Wds w b off f) (hb : Below B w w') (hB : b < B) : Wds w' b off f :=
  fun i hi => (hb.cell (p := ⟨b, off + i, none⟩) hB).trans (h i hi)

theorem bit_at (x : BitVec 64) (r : Nat) : (bits .and .u64 ((x.toNat : Int) / 2 ^ r) 1 == 1) = x.getLsbD r := by
  have h := x.isLt
  have e : ((x.toNat : Int) / 2 ^ r) = ((x.toNat / 2 ^ r : Nat) : Int) := by simp
  have h2 : x.toNat / 2 ^ r < 18446744073709551616 := Nat.lt_of_le_of_lt (Nat.div_le_self _ _) (by omega)
  have := bits_mask .u64 64 (by decide) (fun n h0 h1 => by rw [IntKind.wrap_u64]; omega) 1 (by decide) ((x.toNat / 2 ^ r : Nat) : Int) (Int.natCast_nonneg _) (by omega)
  rw [e]
  rw [show ((1 : Int)) = ((2 ^ 1 - 1 : Nat) : Int) from rfl]
  rw [show bits .and .u64 ((x.toNat / 2 ^ r : Nat) : Int) ((2 ^ 1 - 1 : Nat) : Int) = ((x.toNat / 2 ^ r : Nat) : Int) % 2 from by simpa using this]
  rw [BitVec.getLsbD, Nat.testBit_eq_decide_div_mod_eq]
  by_cases h1 : x.toNat / 2 ^ r % 2 = 1
  · rw [decide_eq_true h1]; simp; omega
  · rw [decide_eq_false h1]; simp; omega

set_option maxRecDepth 100000 in
set_option maxHeartbeats 1000000 in
theorem has_any (w : World) (b off : Nat) (f : Nat → BitVec 64) (c : Nat) (hc : c < 256) (h : Wds w b off f) :
    Calls Try.prog 55 #[.pointer (some ⟨b, off, none⟩), .int .i64 (c : Int)] w fun e w' => e = .returned (.bool (hasW f c)) ∧ Below w.heap.size w w' := by
  have c0 := h (c / 64) (by omega)
  have hb : b < w.heap.size := World.block_lt_of_cell? w _ c0
  have e1 : ((c : Int).tdiv 64) = ((c / 64 : Nat) : Int) := by rw [Int.tdiv_eq_ediv_of_nonneg (by omega)]; omega
  have e2 : ((c : Int).tmod 64) = ((c % 64 : Nat) : Int) := by rw [Int.tmod_eq_emod_of_nonneg (by omega)]; omega
  have l1 : c / 64 < 4 := by omega
  have l2 : c % 64 < 64 := by omega
  obtain ⟨R, HR⟩ : ∃ R, Hid (hasW f c = R) := ⟨_, Lib.hid rfl⟩
  rw [HR.out]
  generalize hq : c / 64 = q at *
  generalize hr : c % 64 = r at *
  obtain ⟨x, hx⟩ : ∃ x, x = f q := ⟨_, rfl⟩
  rw [← hx] at c0
  go_enter Try.func55, Try.ntmps55
  go_wp2_with (fail)
  go_ret
  refine ⟨ret_bool ?_, Below.refl _ _⟩
  rw [bit_at, ← HR.out]
  simp [hasW, hq, hr]
end Go.Proofs.Ytkdfobnkebkpfaa

/- regex.setOf: the set of bytes of some spans. -/
namespace Go.Proofs.Ytkdfobnkebkpfaa
open Go.RowKit

attribute [local go_sem] Oper.semAt_some

/-- The set with a byte more. -/
def addW (f : Nat → BitVec 64) (c : Nat) : Nat → BitVec 64 := fun i => if i = c / 64 then f i ||| (1#64 <<< (c % 64)) else f i
theorem hasW_add (f : Nat → BitVec 64) (c d : Nat) : hasW (addW f c) d = (hasW f d || decide (d = c)) := by
  unfold hasW addW
  by_cases h : d / 64 = c / 64
  · rw [if_pos h]
    have h2 : d % 64 < 64 := by omega
    have h3 : c % 64 < 64 := by omega
    rw [BitVec.getLsbD_or, BitVec.getLsbD_shiftLeft]
    congr 1
    by_cases e : d % 64 = c % 64
    · have : d = c := by omega
      subst this
      simp [h2]
    · have : ¬ d = c := by omega
      rw [decide_eq_false this]
      by_cases lt : d % 64 < c % 64
      · simp [lt]
      · have : d % 64 - c % 64 ≠ 0 := by omega
        simp [this]
  · rw [if_neg h, decide_eq_false (by intro e; subst e; exact h rfl), Bool.or_false]

/-- The four words as cells. -/
def wds (f : Nat → BitVec 64) : List Value := [.int .u64 ((f 0).toNat : Int), .int .u64 ((f 1).toNat : Int), .int .u64 ((f 2).toNat : Int), .int .u64 ((f 3).toNat : Int)]
theorem wds_get (f : Nat → BitVec 64) (q : Nat) (h : q < 4) : (wds f)[q]? = some (.int .u64 ((f q).toNat : Int)) := by
  match q, h with
  | 0, _ => rfl
  | 1, _ => rfl
  | 2, _ => rfl
  | 3, _ => rfl
theorem wds_set (f : Nat → BitVec 64) (c : Nat) (h : c < 256) : (wds f).set (c / 64) (.int .u64 ((f (c / 64) ||| (1#64 <<< (c % 64))).toNat : Int)) = wds (addW f c) := by
  have h2 : c / 64 < 4 := by omega
  unfold wds addW
  generalize c / 64 = q at *
  match q, h2 with
  | 0, _ => rfl
  | 1, _ => rfl
  | 2, _ => rfl
  | 3, _ => rfl
theorem or_bit (x : BitVec 64) (r : Nat) (hr : r < 64) : bits .or .u64 (x.toNat : Int) (2 ^ r % 18446744073709551616) = ((x ||| (1#64 <<< r)).toNat : Int) := by
  have hp : (2 ^ r : Nat) < 18446744073709551616 := Nat.lt_of_lt_of_le (Nat.pow_lt_pow_right (by omega) hr) (by omega)
  have e : ((2 : Int) ^ r % 18446744073709551616) = ((1#64 <<< r).toNat : Int) := by
    rw [BitVec.toNat_shiftLeft]
    simp [Nat.shiftLeft_eq]
  rw [e]
  have h := (x ||| (1#64 <<< r)).isLt
  show IntKind.u64.wrap ((BitVec.ofInt 64 (x.toNat : Int) ||| BitVec.ofInt 64 ((1#64 <<< r).toNat : Int)).toNat : Int) = _
  rw [BitVec.ofInt_natCast, BitVec.ofInt_natCast, IntKind.wrap_u64]
  simp only [BitVec.ofNat_toNat, BitVec.setWidth_eq]
  omega

/-- Whether a byte is in one of the spans. -/
def inSp (l : List Sp) (c : Nat) : Bool := l.any fun s => decide (s.lo.toNat ≤ c ∧ c ≤ s.hi.toNat)

theorem inSp_snoc (l : List Sp) (k : Nat) (s : Sp) (h : l[k]? = some s) (c : Nat) : inSp (l.take (k + 1)) c = (inSp (l.take k) c || decide (s.lo.toNat ≤ c ∧ c ≤ s.hi.toNat)) := by
  obtain ⟨hk, e⟩ := List.getElem?_eq_some_iff.1 h
  rw [List.take_add_one, h]
  simp [inSp, e]

set_option maxRecDepth 100000 in
set_option maxHeartbeats 2000000 in
theorem setOf_any (a : Option Addr) (L cap : Nat) (l : List Sp) (w : World) (hs : Sps w a cap l) (hL : L = l.length) :
    Calls Try.prog 38 #[.slice a L cap] w fun e w' => (∃ f, e = .returned (.agg (wds f).toArray) ∧ ∀ c, hasW f c = inSp l c) ∧ Below w.heap.size w w' := by
  have hle := hs.le
  have hmx := hs.max
  rw [← hL] at hle
  have HL := Lib.hid hL
  clear hL
  go_enter Try.func38, Try.ntmps38
  go_wp2_with (fail)
  go_loopw [9] (fun iv wr => ∃ (k : Nat) (f : Nat → BitVec 64), k ≤ L ∧ iv = .int .i64 (k : Int) ∧ Blk wr (w.heap.size + 1) 55 (wds f) ∧ Blk wr w.heap.size 55 (wds fun _ => 0) ∧ Below w.heap.size w wr ∧ ∀ c, hasW f c = inSp (l.take k) c) (fun i _ => L - (intOf i).toNat)
  case atStart =>
    refine ⟨0, fun _ => 0, by omega, rfl, ?_, ?_, ?_, ?_⟩
    · have := Blk.new (w.alloc (.cells #[.int .u64 0, .int .u64 0, .int .u64 0, .int .u64 0] 55)) 55 #[.int .u64 0, .int .u64 0, .int .u64 0, .int .u64 0]
      rw [World.size_alloc] at this
      exact this
    · exact (Blk.new w 55 #[.int .u64 0, .int .u64 0, .int .u64 0, .int .u64 0]).alloc _
    · exact ((Below.refl _ w).alloc (Nat.le_refl _) _).alloc (by simp) _
    · intro c; simp [hasW, inSp]
  case round =>
    obtain ⟨k, f, hk, rfl, hB, hZ, hbr, hset⟩ := hrel
    have HS := Lib.hid hset
    clear hset
    by_cases hlt : k < L
    · have hlt' : k < l.length := by rw [← HL.out]; exact hlt
      have hsr := hs.grown hbr
      obtain ⟨b, off, rfl⟩ := hs.at_ k hlt'
      obtain ⟨c0, c1⟩ := hsr.cell b off rfl k hlt'
      obtain ⟨s, HS1⟩ : ∃ s, Hid (l[k] = s) := ⟨_, Lib.hid rfl⟩
      rw [HS1.out] at c0 c1
      have hblt : b < wr.heap.size := World.block_lt_of_cell? wr _ c0
      have hget : Hid (l[k]? = some s) := Lib.hid (by rw [List.getElem?_eq_getElem hlt', HS1.out])
      have hu1 : s.lo.toNat < 256 := s.lo.toNat_lt
      have hu2 : s.hi.toNat < 256 := s.hi.toNat_lt
      have w1 : wrap64 (s.lo.toNat : Int) = (s.lo.toNat : Int) := by unfold wrap64; omega
      have w2 : wrap64 (s.hi.toNat : Int) = (s.hi.toNat : Int) := by unfold wrap64; omega
      have hz := hbr.size
      have hB1 := hB.alloc (.cells #[.int .u8 (s.lo.toNat : Int), .int .u8 (s.hi.toNat : Int)] 52)
      have hZ1 := hZ.alloc (.cells #[.int .u8 (s.lo.toNat : Int), .int .u8 (s.hi.toNat : Int)] 52)
      have hS1 := Blk.new wr 52 #[.int .u8 (s.lo.toNat : Int), .int .u8 (s.hi.toNat : Int)]
      have hb1 : Below w.heap.size w (wr.alloc (.cells #[.int .u8 (s.lo.toNat : Int), .int .u8 (s.hi.toNat : Int)] 52)) := hbr.alloc hbr.size _
      have hlw : w.heap.size + 1 < wr.heap.size := hB.lt
      clear hs hsr hbr hB hZ
      go_wp2_with (fail)
      generalize hX : wr.alloc (.cells #[.int .u8 (s.lo.toNat : Int), .int .u8 (s.hi.toNat : Int)] 52) = X at hB1 hZ1 hS1 hb1 ⊢
      clear hX
      go_loopw [6] (fun iv wx => ∃ (j : Nat) (g : Nat → BitVec 64), s.lo.toNat ≤ j ∧ (j ≤ s.hi.toNat + 1 ∨ j = s.lo.toNat) ∧ iv = .int .i64 (j : Int) ∧ Blk wx (w.heap.size + 1) 55 (wds g) ∧ Blk wx w.heap.size 55 (wds fun _ => 0) ∧ Blk wx wr.heap.size 52 [.int .u8 (s.lo.toNat : Int), .int .u8 (s.hi.toNat : Int)] ∧ Below w.heap.size w wx ∧ ∀ c, hasW g c = (inSp (l.take k) c || decide (s.lo.toNat ≤ c ∧ c < j))) (fun i _ => 256 - (intOf i).toNat)
      case atStart => exact ⟨s.lo.toNat, f, by omega, .inr rfl, by simp [w1], hB1, hZ1, hS1, hb1, fun c => by rw [HS.out, decide_eq_false (by omega), Bool.or_false]⟩
      case round =>
        obtain ⟨j, g, hj1, hj2, rfl, hB2, hZ2, hS2, hb2, hset2⟩ := hrel
        have HT := Lib.hid hset2
        clear hset2
        have s1 := hS2.cell 1
        rw [List.getElem?_cons_succ, List.getElem?_cons_zero] at s1
        by_cases hjl : j ≤ s.hi.toNat
        · have hj3 : j < 256 := by omega
          have e1 : ((j : Int).tdiv 64) = ((j / 64 : Nat) : Int) := by rw [Int.tdiv_eq_ediv_of_nonneg (by omega)]; omega
          have e2 : ((j : Int).tmod 64) = ((j % 64 : Nat) : Int) := by rw [Int.tmod_eq_emod_of_nonneg (by omega)]; omega
          have l1 : j / 64 < 4 := by omega
          have l2 : j % 64 < 64 := by omega
          have q1 := hB2.cell (j / 64)
          rw [wds_get g _ l1] at q1
          have q2 := hB2.frozen (j / 64)
          have hst := wds_set g j hj3
          have hor := or_bit (g (j / 64)) (j % 64) l2
          have HST := Lib.hid hst
          have HOR := Lib.hid hor
          clear hst hor
          go_wp2_with (fail)
          go_region
          go_wp2_with (fail)
          have hv : bits .or .u64 ((g (j / 64)).toNat : Int) (IntKind.u64.wrap (2 ^ (j % 64))) = ((g (j / 64) ||| (1#64 <<< (j % 64))).toNat : Int) := by rw [IntKind.wrap_u64]; exact HOR.out
          rw [hv]
          have hB3 := hB2.set (j / 64) (.int .u64 ((g (j / 64) ||| (1#64 <<< (j % 64))).toNat : Int))
          rw [HST.out] at hB3
          refine ⟨⟨j + 1, addW g j, by omega, .inl (by omega), by simp, hB3, hZ2.setOther (by omega) _, hS2.setOther (by omega) _, (hb2.setCell (p := ⟨w.heap.size + 1, j / 64, none⟩) (by simp) _).drew, fun c => ?_⟩, by simp [intOf]; omega⟩
          rw [hasW_add, HT.out, Bool.or_assoc]
          congr 1
          rw [← Bool.decide_or]
          exact decide_eq_decide.2 (by omega)
        · have hj4 : ¬ ((j : Int) ≤ (s.hi.toNat : Int)) := by omega
          go_wp2_with (fail)
          refine ⟨⟨k + 1, g, by omega, by simp, hB2, hZ2, hb2, fun c => ?_⟩, by simp [intOf]; omega⟩
          rw [HT.out, inSp_snoc l k s hget.out]
          congr 1
          exact decide_eq_decide.2 (by omega)
    · obtain rfl : k = L := by omega
      have b0 := hB.cell 0
      have b1 := hB.cell 1
      have b2 := hB.cell 2
      have b3 := hB.cell 3
      have z0 := hZ.cell 0
      have z1 := hZ.cell 1
      have z2 := hZ.cell 2
      have z3 := hZ.cell 3
      have f0 := hZ.frozen 0
      have f1 := hZ.frozen 1
      have f2 := hZ.frozen 2
      have f3 := hZ.frozen 3
      simp only [wds, List.getElem?_cons_zero, List.getElem?_cons_succ] at b0 b1 b2 b3 z0 z1 z2 z3
      go_wp2_with (fail)
      have hF := (((hZ.set 0 (.int .u64 ((f 0).toNat : Int))).set 1 (.int .u64 ((f 1).toNat : Int))).set 2 (.int .u64 ((f 2).toNat : Int))).set 3 (.int .u64 ((f 3).toNat : Int))
      have hbF := (((hbr.setCell (p := ⟨w.heap.size, 0, none⟩) (Nat.le_refl _) (.int .u64 ((f 0).toNat : Int))).setCell (p := ⟨w.heap.size, 1, none⟩) (Nat.le_refl _) (.int .u64 ((f 1).toNat : Int))).setCell (p := ⟨w.heap.size, 2, none⟩) (Nat.le_refl _) (.int .u64 ((f 2).toNat : Int))).setCell (p := ⟨w.heap.size, 3, none⟩) (Nat.le_refl _) (.int .u64 ((f 3).toNat : Int))
      generalize (((wr.setCell ⟨w.heap.size, 0, none⟩ (.int .u64 ((f 0).toNat : Int))).setCell ⟨w.heap.size, 1, none⟩ (.int .u64 ((f 1).toNat : Int))).setCell ⟨w.heap.size, 2, none⟩ (.int .u64 ((f 2).toNat : Int))).setCell ⟨w.heap.size, 3, none⟩ (.int .u64 ((f 3).toNat : Int)) = WF at hF hbF ⊢
      have g0 := hF.cell 0
      have g1 := hF.cell 1
      have g2 := hF.cell 2
      have g3 := hF.cell 3
      simp only [wds, List.set_cons_zero, List.set_cons_succ, List.getElem?_cons_zero, List.getElem?_cons_succ] at g0 g1 g2 g3
      refine bodyPost_ret (v := .agg (wds f).toArray) ?_ rfl ⟨⟨f, rfl, fun c => by rw [HS.out, HL.out, List.take_length]⟩, hbF⟩
      simp [results, Try.f38, go_sem, g0, g1, g2, g3, wds]
end Go.Proofs.Ytkdfobnkebkpfaa

/- regex.byteSet.others: all bytes that are not in the set. -/
namespace Go.Proofs.Ytkdfobnkebkpfaa
open Go.RowKit

attribute [local go_sem] Oper.semAt_some

theorem hasW_not (f : Nat → BitVec 64) (c : Nat) : hasW (fun i => ~~~ f i) c = !hasW f c := by
  unfold hasW
  rw [BitVec.getLsbD_not, decide_eq_true (by omega : c % 64 < 64), Bool.true_and]

theorem not_word (x : BitVec 64) : bits .xor .u64 (if IntKind.u64.signed = true then -1 else IntKind.u64.max) (x.toNat : Int) = ((~~~ x).toNat : Int) := by
  have h := (~~~ x).isLt
  rw [show (if IntKind.u64.signed = true then (-1 : Int) else IntKind.u64.max) = (((-1#64).toNat : Nat) : Int) from by decide]
  show IntKind.u64.wrap ((BitVec.ofInt 64 ((-1#64).toNat : Int) ^^^ BitVec.ofInt 64 (x.toNat : Int)).toNat : Int) = _
  rw [BitVec.ofInt_natCast, BitVec.ofInt_natCast, IntKind.wrap_u64]
  simp only [BitVec.ofNat_toNat, BitVec.setWidth_eq]
  rw [show (-1#64) = BitVec.allOnes 64 from by decide, BitVec.allOnes_xor]
  omega

/-- The first k words turned. -/
def notK (f : Nat → BitVec 64) (k : Nat) : Nat → BitVec 64 := fun i => if i < k then ~~~ f i else f i
theorem notK_set (f : Nat → BitVec 64) (k : Nat) (h : k < 4) : (wds (notK f k)).set k (.int .u64 ((~~~ f k).toNat : Int)) = wds (notK f (k + 1)) := by
  match k, h with
  | 0, _ => rfl
  | 1, _ => rfl
  | 2, _ => rfl
  | 3, _ => rfl

set_option maxRecDepth 100000 in
set_option maxHeartbeats 2000000 in
theorem others_any (w : World) (f : Nat → BitVec 64) :
    Calls Try.prog 85 #[.agg (wds f).toArray] w fun e w' => e = .returned (.agg (wds fun i => ~~~ f i).toArray) ∧ Below w.heap.size w w' := by
  have hz0 := (Blk.new w 55 (wds f).toArray)
  rw [show (wds f).toArray.toList = wds f from rfl] at hz0
  unfold wds at hz0 ⊢
  go_enter Try.func85, Try.ntmps85
  go_wp2_with (fail)
  go_loopw [4] (fun iv wr => ∃ k : Nat, k ≤ 4 ∧ iv = .int .i64 (k : Int) ∧ Blk wr w.heap.size 55 (wds (notK f k)) ∧ Blk wr (w.heap.size + 1) 55 (wds fun _ => 0) ∧ Below w.heap.size w wr) (fun i _ => 4 - (intOf i).toNat)
  case atStart =>
    refine ⟨0, by omega, rfl, hz0.alloc _, ?_, ?_⟩
    · have := Blk.new (w.alloc (.cells #[.int .u64 ((f 0).toNat : Int), .int .u64 ((f 1).toNat : Int), .int .u64 ((f 2).toNat : Int), .int .u64 ((f 3).toNat : Int)] 55)) 55 #[.int .u64 0, .int .u64 0, .int .u64 0, .int .u64 0]
      rw [World.size_alloc] at this
      exact this
    · exact ((Below.refl _ w).alloc (Nat.le_refl _) _).alloc (by simp) _
  case round =>
    obtain ⟨k, hk, rfl, hB, hZ, hbr⟩ := hrel
    by_cases hlt : k < 4
    · have q1 := hB.cell k
      rw [wds_get _ k hlt] at q1
      have e0 : notK f k k = f k := by simp [notK]
      rw [e0] at q1
      have q2 := hB.frozen k
      have hbl := hB.lt
      go_wp2_with (fail)
      have hv : bits .xor .u64 (if IntKind.u64.signed = true then -1 else IntKind.u64.max) ((f k).toNat : Int) = ((~~~ f k).toNat : Int) := not_word (f k)
      rw [hv]
      have hB3 := hB.set k (.int .u64 ((~~~ f k).toNat : Int))
      rw [notK_set f k hlt] at hB3
      exact ⟨⟨k + 1, by omega, by simp, hB3, hZ.setOther (by omega) _, hbr.setCell (p := ⟨w.heap.size, k, none⟩) (Nat.le_refl _) _⟩, by simp [intOf]; omega⟩
    · obtain rfl : k = 4 := by omega
      rw [show wds (notK f 4) = wds (fun i => ~~~ f i) from rfl] at hB
      have b0 := hB.cell 0
      have b1 := hB.cell 1
      have b2 := hB.cell 2
      have b3 := hB.cell 3
      have z0 := hZ.cell 0
      have z1 := hZ.cell 1
      have z2 := hZ.cell 2
      have z3 := hZ.cell 3
      have f0 := hZ.frozen 0
      have f1 := hZ.frozen 1
      have f2 := hZ.frozen 2
      have f3 := hZ.frozen 3
      have hbl := hB.lt
      have hzl := hZ.lt
      generalize hv : (fun i => ~~~ f i) = v at *
      simp only [wds, List.getElem?_cons_zero, List.getElem?_cons_succ] at b0 b1 b2 b3 z0 z1 z2 z3
      go_wp2_with (fail)
      have hF := (((hZ.set 0 (.int .u64 ((v 0).toNat : Int))).set 1 (.int .u64 ((v 1).toNat : Int))).set 2 (.int .u64 ((v 2).toNat : Int))).set 3 (.int .u64 ((v 3).toNat : Int))
      have hbF := (((hbr.setCell (p := ⟨w.heap.size + 1, 0, none⟩) (by simp) (.int .u64 ((v 0).toNat : Int))).setCell (p := ⟨w.heap.size + 1, 1, none⟩) (by simp) (.int .u64 ((v 1).toNat : Int))).setCell (p := ⟨w.heap.size + 1, 2, none⟩) (by simp) (.int .u64 ((v 2).toNat : Int))).setCell (p := ⟨w.heap.size + 1, 3, none⟩) (by simp) (.int .u64 ((v 3).toNat : Int))
      generalize (((wr.setCell ⟨w.heap.size + 1, 0, none⟩ (.int .u64 ((v 0).toNat : Int))).setCell ⟨w.heap.size + 1, 1, none⟩ (.int .u64 ((v 1).toNat : Int))).setCell ⟨w.heap.size + 1, 2, none⟩ (.int .u64 ((v 2).toNat : Int))).setCell ⟨w.heap.size + 1, 3, none⟩ (.int .u64 ((v 3).toNat : Int)) = WF at hF hbF ⊢
      have g0 := hF.cell 0
      have g1 := hF.cell 1
      have g2 := hF.cell 2
      have g3 := hF.cell 3
      simp only [wds, List.set_cons_zero, List.set_cons_succ, List.getElem?_cons_zero, List.getElem?_cons_succ] at g0 g1 g2 g3
      refine bodyPost_ret (v := .agg (wds v).toArray) ?_ rfl ⟨by rw [← hv]; rfl, hbF⟩
      simp [results, Try.f85, go_sem, g0, g1, g2, g3, wds]
end Go.Proofs.Ytkdfobnkebkpfaa

/- regex.appendByte: a byte's text. -/
namespace Go.Proofs.Ytkdfobnkebkpfaa
open Go.RowKit Go.Shelf

attribute [local go_sem] Oper.semAt_some

def specials : List UInt8 := [92, 124, 42, 43, 63, 40, 41, 91, 93, 46, 94, 45]
def hexD (n : Nat) : UInt8 := [48, 49, 50, 51, 52, 53, 54, 55, 56, 57, 97, 98, 99, 100, 101, 102].getD n 0
/-- A byte's text. -/
def byteT (c : UInt8) : List UInt8 :=
  if c = 10 then [92, 110] else if c = 9 then [92, 116] else if c = 13 then [92, 114]
  else if 0 ≤ Lib.indexByte specials c then [92, c]
  else if 32 ≤ c.toNat ∧ c.toNat ≤ 126 then [c]
  else [92, 120, hexD (c.toNat / 16), hexD (c.toNat % 16)]

set_option maxRecDepth 100000 in
set_option maxHeartbeats 1000000 in
theorem appendByte_short (a : Option Addr) (n cap base : Nat) (c : UInt8) (ys : List UInt8) (w : World) (hown : OwnB w base a n cap ys) (hnh : c = 10 ∨ c = 9 ∨ c = 13 ∨ 0 ≤ Lib.indexByte specials c ∨ (32 ≤ c.toNat ∧ c.toNat ≤ 126)) (hn : n + 4 ≤ 140737488355328) (hbase : base ≤ w.heap.size) :
    Calls Try.prog 76 #[.slice a n cap, .int .u8 (c.toNat : Int)] w fun e w' => (∃ a' c', e = .returned (.slice a' (n + (byteT c).length) c') ∧ OwnB w' base a' (n + (byteT c).length) c' (ys ++ byteT c) ∧ New w.heap.size a a') ∧ w.grownBy w' (Value.slice a n cap).ownBlock := by
  have hu := c.toNat_lt
  have hidx : Hid (Lib.indexByte (ByteArray.mk #[92, 124, 42, 43, 63, 40, 41, 91, 93, 46, 94, 45]).data.toList (c.toNat : Int).toNat.toUInt8 = Lib.indexByte specials c) := Lib.hid (by
    rw [Int.toNat_natCast, show c.toNat.toUInt8 = c from by simp]; rfl)
  have hne : ∀ k : Nat, k < 256 → ¬ c = UInt8.ofNat k → ¬ (c.toNat : Int) = (k : Int) := fun k hk h e => h (UInt8.toNat_inj.1 (by simp; omega))
  by_cases h10 : c = 10
  · subst h10
    obtain ⟨a2, c2, w2, hrun, ho, hg, hnw⟩ := run_append_str w 65 hown (ByteArray.mk #[92, 110]) (by show n + 2 ≤ _; omega) hbase (by show (2 : Nat) ≠ 0; omega)
    have Hr := Lib.hid hrun
    clear hrun
    go_enter Try.func76, Try.ntmps76
    go_wp2_with (at_builtin; refine wpList_append_run rfl _ _ 65 9 rfl _ _ _ _ rfl rfl Hr.out ?_)
    go_ret
    exact ⟨⟨a2, c2, rfl, ho, hnw⟩, hg⟩
  have n10 : ¬ (c.toNat : Int) = 10 := by have := hne 10 (by omega) h10; omega
  by_cases h9 : c = 9
  · subst h9
    obtain ⟨a2, c2, w2, hrun, ho, hg, hnw⟩ := run_append_str w 65 hown (ByteArray.mk #[92, 116]) (by show n + 2 ≤ _; omega) hbase (by show (2 : Nat) ≠ 0; omega)
    have Hr := Lib.hid hrun
    clear hrun
    go_enter Try.func76, Try.ntmps76
    go_wp2_with (at_builtin; refine wpList_append_run rfl _ _ 65 9 rfl _ _ _ _ rfl rfl Hr.out ?_)
    go_ret
    exact ⟨⟨a2, c2, rfl, ho, hnw⟩, hg⟩
  have n9 : ¬ (c.toNat : Int) = 9 := by have := hne 9 (by omega) h9; omega
  by_cases h13 : c = 13
  · subst h13
    obtain ⟨a2, c2, w2, hrun, ho, hg, hnw⟩ := run_append_str w 65 hown (ByteArray.mk #[92, 114]) (by show n + 2 ≤ _; omega) hbase (by show (2 : Nat) ≠ 0; omega)
    have Hr := Lib.hid hrun
    clear hrun
    go_enter Try.func76, Try.ntmps76
    go_wp2_with (at_builtin; refine wpList_append_run rfl _ _ 65 9 rfl _ _ _ _ rfl rfl Hr.out ?_)
    go_ret
    exact ⟨⟨a2, c2, rfl, ho, hnw⟩, hg⟩
  have n13 : ¬ (c.toNat : Int) = 13 := by have := hne 13 (by omega) h13; omega
  clear hne
  by_cases hsp : 0 ≤ Lib.indexByte specials c
  · have hT : Hid (byteT c = [92, c]) := Lib.hid (by simp [byteT, h10, h9, h13, hsp])
    obtain ⟨a2, c2, w2, hrun, ho, hg, hnw⟩ := run_append_bytes (w.alloc (.cells #[.int .u8 92, .int .u8 (c.toNat : Int)] 5)) 65 (World.ownsRow.alloc hown _ : OwnB _ base a n cap ys) (some ⟨w.heap.size, 0, none⟩) 2 2 [92, c] (OwnB.lit w w.heap.size #[.int .u8 92, .int .u8 (c.toNat : Int)] [92, c] (Nat.le_refl _) (by simp) rfl).bytes rfl (by omega) (by simp; omega)
    have Hr := Lib.hid hrun
    clear hrun
    go_enter Try.func76, Try.ntmps76
    go_wp2_with (first | (go_at_call 81; (with_reducible refine (Try.strings_IndexByte _ _ _).mono ?_); rintro e w3 ⟨rfl, hww⟩; subst w3; rw [hidx.out]) | (at_builtin; (refine wpList_append_run rfl _ _ 65 65 rfl _ _ _ _ rfl rfl Hr.out ?_)))
    go_ret
    rw [hT.out]
    exact ⟨⟨a2, c2, rfl, ho, hnw.le (by simp)⟩, grownBy_trans (World.grownBy_alloc w _ _) hg (fun i e => .inl e)⟩
  by_cases hpr : 32 ≤ c.toNat ∧ c.toNat ≤ 126
  · have hT : Hid (byteT c = [c]) := Lib.hid (by simp [byteT, h10, h9, h13, hsp, hpr])
    obtain ⟨p1, p2⟩ := hpr
    obtain ⟨a2, c2, w2, hrun, ho, hg, hnw⟩ := run_append_one w 65 hown c (.int .u8 (c.toNat : Int)) rfl (by omega) hbase
    have Hr := Lib.hid hrun
    clear hrun
    go_enter Try.func76, Try.ntmps76
    go_wp2_with (first | (go_at_call 81; (with_reducible refine (Try.strings_IndexByte _ _ _).mono ?_); rintro e w3 ⟨rfl, hww⟩; subst w3; rw [hidx.out]) | (at_builtin; (refine wpList_append_run rfl _ _ 65 65 rfl _ _ _ _ rfl rfl Hr.out ?_)))
    go_ret
    rw [hT.out]
    exact ⟨⟨a2, c2, rfl, ho, hnw⟩, hg⟩
  · rcases hnh with h | h | h | h | h
    · exact absurd h h10
    · exact absurd h h9
    · exact absurd h h13
    · exact absurd h hsp
    · exact absurd h hpr

end Go.Proofs.Ytkdfobnkebkpfaa

/- regex.appendByte: any byte's text. -/
namespace Go.Proofs.Ytkdfobnkebkpfaa
open Go.RowKit Go.Shelf

attribute [local go_sem] Oper.semAt_some

theorem and15 (m : Nat) (h : m < 256) : bits .and .u8 (m : Int) 15 = ((m % 16 : Nat) : Int) := by
  have := bits_mask .u8 8 (by decide) (fun n h0 h1 => by simp [IntKind.wrap, IntKind.bits, IntKind.signed]; omega) 4 (by decide) (m : Int) (by omega) (by omega)
  rw [show (15 : Int) = ((2 ^ 4 - 1 : Nat) : Int) from rfl]
  rw [show bits .and .u8 (m : Int) ((2 ^ 4 - 1 : Nat) : Int) = (m : Int) % 16 from by simpa using this]
  omega

set_option maxRecDepth 100000 in
set_option maxHeartbeats 1000000 in
theorem appendByte_hex (a : Option Addr) (n cap base : Nat) (c : UInt8) (ys : List UInt8) (w : World) (hown : OwnB w base a n cap ys) (hn : n + 4 ≤ 140737488355328) (hbase : base ≤ w.heap.size)
    (h10 : ¬ (c.toNat : Int) = 10) (h9 : ¬ (c.toNat : Int) = 9) (h13 : ¬ (c.toNat : Int) = 13) (hsp : ¬ 0 ≤ Lib.indexByte specials c) (hT : Hid (byteT c = [92, 120, hexD (c.toNat / 16), hexD (c.toNat % 16)])) :
    (¬ (32 ≤ (c.toNat : Int))) ∨ ((32 ≤ (c.toNat : Int)) ∧ ¬ ((c.toNat : Int) ≤ 126)) →
    Calls Try.prog 76 #[.slice a n cap, .int .u8 (c.toNat : Int)] w fun e w' => (∃ a' c', e = .returned (.slice a' (n + (byteT c).length) c') ∧ OwnB w' base a' (n + (byteT c).length) c' (ys ++ byteT c) ∧ New w.heap.size a a') ∧ w.grownBy w' (Value.slice a n cap).ownBlock := by
  intro hpr
  have hu : c.toNat < 256 := c.toNat_lt
  have hidx : Hid (Lib.indexByte (ByteArray.mk #[92, 124, 42, 43, 63, 40, 41, 91, 93, 46, 94, 45]).data.toList (c.toNat : Int).toNat.toUInt8 = Lib.indexByte specials c) := Lib.hid (by
    rw [Int.toNat_natCast, show c.toNat.toUInt8 = c from by simp]; rfl)
  have hA := and15 c.toNat hu
  have e1 : (c.toNat : Int) / 16 = ((c.toNat / 16 : Nat) : Int) := by omega
  have b0 : c.toNat / 16 < 16 := by omega
  have b3 : c.toNat % 16 < 16 := by omega
  obtain ⟨q, hq⟩ : ∃ q, Hid (c.toNat / 16 = q) := ⟨_, Lib.hid rfl⟩
  obtain ⟨r, hr⟩ : ∃ r, Hid (c.toNat % 16 = r) := ⟨_, Lib.hid rfl⟩
  rw [hq.out] at e1 b0
  rw [hr.out] at hA b3
  have b1 : 0 ≤ (q : Int) ∧ (q : Int) < 16 := by omega
  have b2 : 0 ≤ (r : Int) ∧ (r : Int) < 16 := by omega
  have hszD : (ByteArray.mk #[48, 49, 50, 51, 52, 53, 54, 55, 56, 57, 97, 98, 99, 100, 101, 102]).size = 16 := rfl
  have dq : q < (ByteArray.mk #[48, 49, 50, 51, 52, 53, 54, 55, 56, 57, 97, 98, 99, 100, 101, 102]).size := by rw [hszD]; exact b0
  have dr : r < (ByteArray.mk #[48, 49, 50, 51, 52, 53, 54, 55, 56, 57, 97, 98, 99, 100, 101, 102]).size := by rw [hszD]; exact b3
  have hD : ∀ k (h : k < (ByteArray.mk #[48, 49, 50, 51, 52, 53, 54, 55, 56, 57, 97, 98, 99, 100, 101, 102]).size), (ByteArray.mk #[48, 49, 50, 51, 52, 53, 54, 55, 56, 57, 97, 98, 99, 100, 101, 102])[k] = hexD k := by
    intro k h
    rw [hszD] at h
    have : k = 0 ∨ k = 1 ∨ k = 2 ∨ k = 3 ∨ k = 4 ∨ k = 5 ∨ k = 6 ∨ k = 7 ∨ k = 8 ∨ k = 9 ∨ k = 10 ∨ k = 11 ∨ k = 12 ∨ k = 13 ∨ k = 14 ∨ k = 15 := by omega
    rcases this with rfl | rfl | rfl | rfl | rfl | rfl | rfl | rfl | rfl | rfl | rfl | rfl | rfl | rfl | rfl | rfl <;> rfl
  have hcs : (#[.int .u8 92, .int .u8 120, .int .u8 (((ByteArray.mk #[48, 49, 50, 51, 52, 53, 54, 55, 56, 57, 97, 98, 99, 100, 101, 102])[q].toNat : Nat) : Int), .int .u8 (((ByteArray.mk #[48, 49, 50, 51, 52, 53, 54, 55, 56, 57, 97, 98, 99, 100, 101, 102])[r].toNat : Nat) : Int)] : Array Value).toList = ([92, 120, hexD q, hexD r] : List UInt8).map bv := by
    rw [← hD q dq, ← hD r dr]; rfl
  obtain ⟨a2, c2, w2, hrun, ho, hg, hnw⟩ := run_append_bytes ((w.alloc (.cells #[.int .u8 92, .int .u8 120, .int .u8 (((ByteArray.mk #[48, 49, 50, 51, 52, 53, 54, 55, 56, 57, 97, 98, 99, 100, 101, 102])[q].toNat : Nat) : Int), .int .u8 (((ByteArray.mk #[48, 49, 50, 51, 52, 53, 54, 55, 56, 57, 97, 98, 99, 100, 101, 102])[r].toNat : Nat) : Int)] 5)).drew) 65 (World.ownsRow.drew (World.ownsRow.alloc hown _) : OwnB _ base a n cap ys) (some ⟨w.heap.size, 0, none⟩) 4 4 [92, 120, hexD q, hexD r] (OwnB.bytes (World.ownsRow.drew (OwnB.lit w w.heap.size _ [92, 120, hexD q, hexD r] (Nat.le_refl _) (by simp) hcs) : OwnB _ w.heap.size (some ⟨w.heap.size, 0, none⟩) 4 4 [92, 120, hexD q, hexD r])) rfl (by omega) (by show base ≤ (w.alloc _).heap.size; simp; omega)
  have Hr := Lib.hid hrun
  have Ho := Lib.hid ho
  have Hn : Hid (New w.heap.size a a2) := Lib.hid (hnw.le (by show w.heap.size ≤ (w.alloc _).heap.size; simp))
  have Hg := Lib.hid (grownBy_trans (grownBy_trans (World.grownBy_alloc w (.cells #[.int .u8 92, .int .u8 120, .int .u8 (((ByteArray.mk #[48, 49, 50, 51, 52, 53, 54, 55, 56, 57, 97, 98, 99, 100, 101, 102])[q].toNat : Nat) : Int), .int .u8 (((ByteArray.mk #[48, 49, 50, 51, 52, 53, 54, 55, 56, 57, 97, 98, 99, 100, 101, 102])[r].toNat : Nat) : Int)] 5) (Value.slice a n cap).ownBlock) (grownBy_drew _ _) (fun i e => .inl e)) hg (fun i e => .inl e))
  rw [hq.out, hr.out] at hT
  clear hrun ho hg hcs hD hnw
  rcases hpr with hp | ⟨hp, hp2⟩
  · skip
    go_enter Try.func76, Try.ntmps76
    go_wp2_with (first | (go_at_call 81; (with_reducible refine (Try.strings_IndexByte _ _ _).mono ?_); rintro e w3 ⟨rfl, hww⟩; subst w3; rw [hidx.out]))
    go_region_law (refine step_append_run rfl (.tmp 39) (.tmp 46) 65 65 rfl _ _ _ _ rfl rfl Hr.out ?_)
    all_goals
      go_wp2_with (fail)
      go_ret
      rw [hT.out]
      exact ⟨⟨a2, c2, rfl, Ho.out, Hn.out⟩, Hg.out⟩
  · skip
    go_enter Try.func76, Try.ntmps76
    go_wp2_with (first | (go_at_call 81; (with_reducible refine (Try.strings_IndexByte _ _ _).mono ?_); rintro e w3 ⟨rfl, hww⟩; subst w3; rw [hidx.out]))
    go_region_law (refine step_append_run rfl (.tmp 39) (.tmp 46) 65 65 rfl _ _ _ _ rfl rfl Hr.out ?_)
    all_goals
      go_wp2_with (fail)
      go_ret
      rw [hT.out]
      exact ⟨⟨a2, c2, rfl, Ho.out, Hn.out⟩, Hg.out⟩

theorem appendByte_any (a : Option Addr) (n cap base : Nat) (c : UInt8) (ys : List UInt8) (w : World) (hown : OwnB w base a n cap ys) (hn : n + 4 ≤ 140737488355328) (hbase : base ≤ w.heap.size) :
    Calls Try.prog 76 #[.slice a n cap, .int .u8 (c.toNat : Int)] w fun e w' => (∃ a' c', e = .returned (.slice a' (n + (byteT c).length) c') ∧ OwnB w' base a' (n + (byteT c).length) c' (ys ++ byteT c) ∧ New w.heap.size a a') ∧ w.grownBy w' (Value.slice a n cap).ownBlock := by
  by_cases h : c = 10 ∨ c = 9 ∨ c = 13 ∨ 0 ≤ Lib.indexByte specials c ∨ (32 ≤ c.toNat ∧ c.toNat ≤ 126)
  · exact appendByte_short a n cap base c ys w hown h hn hbase
  · simp only [not_or] at h
    obtain ⟨h10, h9, h13, hsp, hpr⟩ := h
    have hne : ∀ k : Nat, k < 256 → ¬ c = UInt8.ofNat k → ¬ (c.toNat : Int) = (k : Int) := fun k hk h e => h (UInt8.toNat_inj.1 (by simp; omega))
    exact appendByte_hex a n cap base c ys w hown hn hbase (hne 10 (by omega) h10) (hne 9 (by omega) h9) (hne 13 (by omega) h13) hsp (Lib.hid (by
      unfold byteT
      rw [if_neg h10, if_neg h9, if_neg h13, if_neg hsp, if_neg hpr])) (by omega)
end Go.Proofs.Ytkdfobnkebkpfaa

/- regex.byteSet.spans: a set's bytes as spans in order. -/
namespace Go.Proofs.Ytkdfobnkebkpfaa
open Go.RowKit

attribute [local go_sem] Oper.semAt_some

/-- The last span ends with this byte. -/
def lastTo (out : List Sp) (c : Nat) : List Sp := out.dropLast ++ [⟨(out.getLast?.getD ⟨0, 0⟩).lo, UInt8.ofNat c⟩]
def stepS (f : Nat → BitVec 64) (c : Nat) (out : List Sp) : List Sp :=
  if hasW f c then (if decide (0 < c) && hasW f (c - 1) then lastTo out c else out ++ [⟨UInt8.ofNat c, UInt8.ofNat c⟩]) else out
/-- The spans of the bytes below k. -/
def spK (f : Nat → BitVec 64) : Nat → List Sp
  | 0 => []
  | k + 1 => stepS f k (spK f k)
theorem spK_ne {f : Nat → BitVec 64} {k : Nat} (h : hasW f k = true) : ∃ l p, spK f (k + 1) = l ++ [p] := by
  rw [spK, stepS, if_pos h]
  split
  · exact ⟨_, _, rfl⟩
  · exact ⟨_, _, rfl⟩
theorem spK_length (f : Nat → BitVec 64) (k : Nat) : (spK f k).length ≤ k := by
  induction k with
  | zero => simp [spK]
  | succ k ih =>
    rw [spK, stepS]
    split
    · split
      · rename_i h1 h2
        simp only [Bool.and_eq_true, decide_eq_true_eq] at h2
        obtain ⟨j, rfl⟩ : ∃ j, k = j + 1 := ⟨k - 1, by omega⟩
        obtain ⟨l, p, e⟩ := spK_ne (f := f) (k := j) (by simpa using h2.2)
        rw [e] at ih ⊢
        simp [lastTo] at ih ⊢
        omega
      · simp; omega
    · omega

def rowS (l : List Sp) : List Value := l.flatMap fun s => [.int .u8 (s.lo.toNat : Int), .int .u8 (s.hi.toNat : Int)]
theorem rowS_length (l : List Sp) : (rowS l).length = l.length * 2 := by
  induction l with
  | nil => rfl
  | cons s l ih => simp [rowS] at ih ⊢; omega
theorem rowS_snoc (l : List Sp) (s : Sp) : rowS (l ++ [s]) = rowS l ++ [.int .u8 (s.lo.toNat : Int), .int .u8 (s.hi.toNat : Int)] := by simp [rowS]
theorem rowS_set (l : List Sp) (s : Sp) (c : UInt8) : (rowS (l ++ [s])).set (l.length * 2 + 1) (.int .u8 (c.toNat : Int)) = rowS (l ++ [⟨s.lo, c⟩]) := by
  rw [rowS_snoc, rowS_snoc, ← rowS_length]
  simp [List.set_append]
theorem rowS_get (l : List Sp) : ∀ i, (h : i < l.length) → (rowS l)[i * 2]? = some (.int .u8 (l[i].lo.toNat : Int)) ∧ (rowS l)[i * 2 + 1]? = some (.int .u8 (l[i].hi.toNat : Int)) := by
  induction l with
  | nil => intro i h; simp at h
  | cons s l ih =>
    intro i h
    cases i with
    | zero => exact ⟨rfl, rfl⟩
    | succ i =>
      have := ih i (by simpa using h)
      rw [show (i + 1) * 2 = i * 2 + 1 + 1 from by omega]
      simpa [rowS] using this

theorem info_span : (Try.prog.info? 52).map (fun i => (i.zero, i.size, i.bytes)) = some (some (.agg #[.int .u8 0, .int .u8 0]), 2, 2) := by kernel_rfl

/-- A span is put onto a row of spans. -/
theorem run_pushS (w : World) (ty : TypeId) {base n cap : Nat} {a : Option Addr} {row : List Value} (v v' : Value) (hv : v.oneCell' = true) (hv' : v'.oneCell' = true) (hown : w.ownsRow base 52 2 (.slice a n cap) n row) (hn : n + 1 ≤ 1099511627780) (hbase : base ≤ w.heap.size) :
    ∃ a' cap' w', (Builtin.append_ #[22, 22] ty #[.slice a n cap, .slice (some ⟨w.heap.size, 0, none⟩) 1 1]).run Try.prog (w.alloc (.cells #[v, v'] 52)) = .ok (.slice a' (n + 1) cap') w' ∧
      w'.ownsRow base 52 2 (.slice a' (n + 1) cap') (n + 1) (row ++ [v, v']) ∧ w.grownBy w' (Value.slice a n cap).ownBlock := by
  obtain ⟨i0, hi, hz0, hz1, hz2⟩ := info_parts info_span
  have hnew : ∀ j u, [v, v'][j]? = some u → (w.alloc (.cells #[v, v'] 52)).cell? ((⟨w.heap.size, 0, none⟩ : Addr).add j) = some u := cell_two_new w v v' 52
  obtain ⟨x, w', hrun, ho, hg, _⟩ := run_append_own (P := Try.prog) (w.alloc (.cells #[v, v'] 52)) base 22 ty 52 i0 (.agg #[.int .u8 0, .int .u8 0]) 2 2 Try.underlying22 hi hz0 hz1 hz2 rfl (by decide) _ n _ (hown.alloc _) ⟨w.heap.size, 0, none⟩ 1 1 [v, v'] rfl hnew (by simp [hv, hv']) (by unfold maxLen; omega) (by omega) (by simp; omega)
  obtain ⟨a', cap', rfl⟩ := slice_of_own ho
  exact ⟨a', cap', w', hrun, ho, grownBy_trans (World.grownBy_alloc w _ _) hg (fun i e => .inl e)⟩

theorem own_ge {w : World} {base e size n : Nat} {v : Value} {xs : List Value} (h : w.ownsRow base e size v n xs) {k : Nat} (hk : v.ownBlock = some k) : base ≤ k := by
  rcases h.2 with ⟨rfl, _⟩ | ⟨g, cap, cur, rfl, hb, _⟩
  · simp [Value.ownBlock] at hk
  · simp [Value.ownBlock] at hk; omega

/-- An own row of spans reads as them. -/
theorem Sps.of_own {w : World} {base cap n : Nat} {a : Option Addr} {l : List Sp} (h : w.ownsRow base 52 2 (.slice a n cap) n (rowS l)) (hn : n = l.length) : Sps w a cap l := by
  have hcell : ∀ g, a = some ⟨g, 0, none⟩ → ∀ j, j < l.length * 2 → w.cell? ⟨g, j, none⟩ = (rowS l)[j]? := by
    intro g e j hj
    subst e
    exact h.cellAt j (by rw [hn]; exact hj)
  rcases h.2 with ⟨e, hx⟩ | ⟨g, cap', cur, e, hb, hg, hnc, hcm, hcs, htake⟩
  · injection e with e1 e2 e3
    subst e1 e3
    have hl0 : l = [] := List.length_eq_zero_iff.1 (by omega)
    subst hl0
    exact Sps.nil w
  · injection e with e1 e2 e3
    subst e1 e3
    refine ⟨by omega, by unfold maxLen at hcm; omega, fun e => (by cases e), fun i hi => ⟨g, 0, rfl⟩, fun b off e i hi => ?_⟩
    cases e
    obtain ⟨r1, r2⟩ := rowS_get l i hi
    rw [Nat.zero_add]
    exact ⟨(hcell g rfl (i * 2) (by omega)).trans r1, (hcell g rfl (i * 2 + 1) (by omega)).trans r2⟩

set_option maxRecDepth 100000 in
set_option maxHeartbeats 2000000 in
theorem spans_any (w : World) (f : Nat → BitVec 64) :
    Calls Try.prog 39 #[.agg (wds f).toArray] w fun e w' => (∃ a cap, e = .returned (.slice a (spK f 256).length cap) ∧ Sps w' a cap (spK f 256) ∧ ∀ b off, a = some ⟨b, off, none⟩ → w.heap.size < b) ∧ Below w.heap.size w w' := by
  have hz0 := (Blk.new w 55 (wds f).toArray)
  rw [show (wds f).toArray.toList = wds f from rfl] at hz0
  unfold wds at hz0 ⊢
  go_enter Try.func39, Try.ntmps39
  go_wp2_with (fail)
  go_loopw [3, 4, 5] (fun o _ iv wr => ∃ (k : Nat) (a : Option Addr) (cap : Nat), k ≤ 256 ∧ iv = .int .i64 (k : Int) ∧ o = .slice a (spK f k).length cap ∧ wr.ownsRow (w.heap.size + 1) 52 2 (.slice a (spK f k).length cap) (spK f k).length (rowS (spK f k)) ∧ Blk wr w.heap.size 55 (wds f) ∧ Below w.heap.size w wr) (fun _ _ i _ => 256 - (intOf i).toNat)
  case atStart =>
    exact ⟨0, none, 0, by omega, rfl, rfl, World.ownsRow_nil _ _ _ _, hz0, (Below.refl _ w).alloc (Nat.le_refl _) _⟩
  case round =>
    obtain ⟨k, a, cap, hk, rfl, rfl, hown, hB, hbr⟩ := hrel
    by_cases hlt : k < 256
    · have hW : Wds wr w.heap.size 0 f := fun i hi => by rw [Nat.zero_add, hB.cell i, wds_get f i hi]
      have hh1 := has_any wr w.heap.size 0 f k hlt hW
      have hln := spK_length f k
      have hlo : Hid (w.heap.size + 1 ≤ wr.heap.size) := Lib.hid hB.lt
      have hblt := hB.lt
      have Hnext : Hid (spK f (k + 1) = stepS f k (spK f k)) := Lib.hid rfl
      have hne : Hid (∀ j, k = j + 1 → hasW f j = true → ∃ l p, spK f k = l ++ [p]) := Lib.hid (fun j e h => by subst e; exact spK_ne h)
      obtain ⟨S, HS⟩ : ∃ S, S = spK f k := ⟨_, rfl⟩
      rw [← HS] at hown hln ⊢
      have Hnext2 : Hid (spK f (k + 1) = stepS f k S) := Lib.hid (by rw [Hnext.out, HS])
      have hne2 : Hid (∀ j, k = j + 1 → hasW f j = true → ∃ l p, S = l ++ [p]) := Lib.hid (by rw [HS]; exact hne.out)
      clear Hnext hne HS
      have Hown := Lib.hid hown
      clear hown
      by_cases hs1 : hasW f k = true
      · rw [hs1] at hh1
        have hu : (UInt8.ofNat k).toNat = k := by simp; omega
        cases k with
        | zero =>
          rw [show ((0 : Nat) : Int) = 0 from rfl] at hh1 ⊢
          have hst : Hid (spK f 1 = S ++ [⟨0, 0⟩]) := Lib.hid (by rw [Hnext2.out, stepS, hs1]; rfl)
          go_wp2_with (first
            | (go_at_call 55; (with_reducible refine hh1.mono ?_); rintro e w8 ⟨rfl, hb8⟩;
               obtain ⟨a6, c6, w6, hrun6, hown6, hg6⟩ := run_pushS w8 22 (.int .u8 0) (.int .u8 0) (by simp [Value.oneCell']) (by simp [Value.oneCell']) (Hown.out.kept (below_grownBy hb8 none) (by cases a <;> simp [Value.ownBlock])) (by omega) (Nat.le_trans hlo.out hb8.size);
               have Hrun6 := Lib.hid hrun6; clear hrun6)
            | (at_builtin; (refine wpList_append_run rfl _ _ 22 22 rfl _ _ _ _ rfl rfl Hrun6.out ?_)))
          have ho8 := Hown.out.kept (below_grownBy hb8 none) (by cases a <;> simp [Value.ownBlock])
          have hb08 := hbr.trans (hb8.mono hbr.size)
          refine ⟨⟨1, a6, c6, by omega, rfl, by rw [hst.out]; simp, ?_, (hB.below hb8 hblt).kept hg6 (fun e => by have := own_ge ho8 e.symm; omega), hb08.grown hg6 hb08.size (fun k e => by have := own_ge ho8 e; omega)⟩, by simp [intOf]⟩
          rw [hst.out, rowS_snoc, List.length_append]
          exact hown6
        | succ j =>
          rw [show ((j + 1 : Nat) : Int) = (j : Int) + 1 from by omega] at hh1 ⊢
          by_cases hs2 : hasW f j = true
          · obtain ⟨l, p, hl⟩ := hne2.out j rfl hs2
            subst hl
            have hst : Hid (spK f (j + 1 + 1) = l ++ [⟨p.lo, UInt8.ofNat (j + 1)⟩]) := Lib.hid (by rw [Hnext2.out, stepS, hs1]; simp [hs2, lastTo])
            obtain ⟨g, rfl⟩ : ∃ g, a = some ⟨g, 0, none⟩ := by
              rcases Hown.out.2 with ⟨_, e⟩ | ⟨g, cap', cur, e, _⟩
              · rw [List.length_append, List.length_singleton] at e; omega
              · injection e with e1 _ _; exact ⟨g, e1⟩
            have hgb : w.heap.size + 1 ≤ g := own_ge Hown.out rfl
            rw [List.length_append, List.length_singleton] at Hown hln ⊢
            have hgc : wr.cell? ⟨g, l.length * 2 + 1, none⟩ = some (.int .u8 (p.hi.toNat : Int)) := by
              rw [Hown.out.cellAt (l.length * 2 + 1) (by omega)]
              have := (rowS_get (l ++ [p]) l.length (by simp)).2
              simpa using this
            have hgf := Hown.out.frozenAt (l.length * 2 + 1)
            have hgl : g < wr.heap.size := World.block_lt_of_cell? wr _ hgc
            go_wp2_with (first
              | (go_at_call 55; (with_reducible refine hh1.mono ?_); rintro e w8 ⟨rfl, hb8⟩;
                 have hh2 := has_any w8 w.heap.size 0 f j (by omega) (hW.below hb8 hblt); rw [hs2] at hh2)
              | (go_at_call 55; (with_reducible refine hh2.mono ?_); rintro e w9 ⟨rfl, hb9⟩;
                 have hb89 : Below wr.heap.size wr w9 := hb8.trans (hb9.mono hb8.size);
                 have hgc9 := (hb89.cell (p := ⟨g, l.length * 2 + 1, none⟩) hgl).trans hgc;
                 have hgf9 := (hb89.frozen (p := ⟨g, l.length * 2 + 1, none⟩) hgl).trans hgf;
                 have hgl9 : g < w9.heap.size := Nat.lt_of_lt_of_le hgl hb89.size))
            have ho9 := Hown.out.kept (below_grownBy hb89 none) (by simp [Value.ownBlock])
            have hb09 := hbr.trans (hb89.mono hbr.size)
            have hset := (ho9.stored (l.length * 2 + 1) (.int .u8 ((UInt8.ofNat (j + 1)).toNat : Int))).1
            rw [rowS_set, hu] at hset
            refine ⟨⟨j + 2, some ⟨g, 0, none⟩, cap, by omega, by simp; omega, by rw [hst.out]; simp, ?_, (hB.below hb89 hblt).setOther (by omega) _, hb09.setCell (p := ⟨g, l.length * 2 + 1, none⟩) (by simp; omega) _⟩, by simp [intOf]; omega⟩
            rw [hst.out, List.length_append]
            simpa using hset
          · rw [Bool.not_eq_true] at hs2
            have hst : Hid (spK f (j + 1 + 1) = S ++ [⟨UInt8.ofNat (j + 1), UInt8.ofNat (j + 1)⟩]) := Lib.hid (by rw [Hnext2.out, stepS, hs1]; simp [hs2])
            go_wp2_with (first
              | (go_at_call 55; (with_reducible refine hh1.mono ?_); rintro e w8 ⟨rfl, hb8⟩;
                 have hh2 := has_any w8 w.heap.size 0 f j (by omega) (hW.below hb8 hblt); rw [hs2] at hh2)
              | (go_at_call 55; (with_reducible refine hh2.mono ?_); rintro e w9 ⟨rfl, hb9⟩;
                 have hb89 : Below wr.heap.size wr w9 := hb8.trans (hb9.mono hb8.size);
                 obtain ⟨a6, c6, w6, hrun6, hown6, hg6⟩ := run_pushS w9 22 (.int .u8 ((j : Int) + 1)) (.int .u8 ((j : Int) + 1)) (by simp [Value.oneCell']) (by simp [Value.oneCell']) (Hown.out.kept (below_grownBy hb89 none) (by cases a <;> simp [Value.ownBlock])) (by omega) (Nat.le_trans hlo.out hb89.size);
                 have Hrun6 := Lib.hid hrun6; clear hrun6)
              | (at_builtin; (refine wpList_append_run rfl _ _ 22 22 rfl _ _ _ _ rfl rfl Hrun6.out ?_)))
            have ho9 := Hown.out.kept (below_grownBy hb89 none) (by cases a <;> simp [Value.ownBlock])
            have hb09 := hbr.trans (hb89.mono hbr.size)
            refine ⟨⟨j + 2, a6, c6, by omega, by simp; omega, by rw [hst.out]; simp, ?_, (hB.below hb89 hblt).kept hg6 (fun e => by have := own_ge ho9 e.symm; omega), hb09.grown hg6 hb09.size (fun k e => by have := own_ge ho9 e; omega)⟩, by simp [intOf]; omega⟩
            rw [hst.out, rowS_snoc, List.length_append, hu]
            simpa using hown6
      · rw [Bool.not_eq_true] at hs1
        rw [hs1] at hh1
        have hsp : spK f (k + 1) = S := by rw [Hnext2.out, stepS, hs1]; rfl
        go_wp2_with (first | (go_at_call 55; (with_reducible refine hh1.mono ?_); rintro e w8 ⟨rfl, hb8⟩))
        refine ⟨⟨k + 1, a, cap, by omega, by simp, by rw [hsp], ?_, hB.below hb8 hblt, hbr.trans (hb8.mono hbr.size)⟩, by simp [intOf]; omega⟩
        rw [hsp]
        exact Hown.out.kept (below_grownBy hb8 none) (by cases a <;> simp [Value.ownBlock])
    · obtain rfl : k = 256 := by omega
      go_wp2_with (fail)
      refine bodyPost_ret (v := .slice a (spK f 256).length cap) (by simp [results, Try.results39, go_sem]; try rfl) rfl ⟨⟨a, cap, rfl, Sps.of_own hown rfl, fun b off e => own_ge hown (by rw [e]; rfl)⟩, hbr⟩
end Go.Proofs.Ytkdfobnkebkpfaa

/- regex.Spans; what its spans have. -/
namespace Go.Proofs.Ytkdfobnkebkpfaa
open Go.RowKit

theorem hasW_ext {f g : Nat → BitVec 64} (h : ∀ c, c < 256 → hasW f c = hasW g c) : ∀ k, k ≤ 256 → spK f k = spK g k := by
  intro k
  induction k with
  | zero => intro _; rfl
  | succ k ih =>
    intro hk
    rw [spK, spK, ih (by omega), stepS, stepS, h k (by omega), h (k - 1) (by omega)]

/-- The first k spans that a set of bytes comes to, by the set alone. -/
def stepP (p : Nat → Bool) (c : Nat) (out : List Sp) : List Sp :=
  if p c then (if decide (0 < c) && p (c - 1) then lastTo out c else out ++ [⟨UInt8.ofNat c, UInt8.ofNat c⟩]) else out
def spP (p : Nat → Bool) : Nat → List Sp
  | 0 => []
  | k + 1 => stepP p k (spP p k)
theorem spK_P {f : Nat → BitVec 64} {p : Nat → Bool} (h : ∀ c, hasW f c = p c) : ∀ k, spK f k = spP p k := by
  intro k
  induction k with
  | zero => rfl
  | succ k ih => rw [spK, spP, ih, stepS, stepP, h k, h (k - 1)]

set_option maxRecDepth 100000 in
set_option maxHeartbeats 400000 in
theorem Spans_any (a : Option Addr) (L cap : Nat) (l : List Sp) (w : World) (hs : Sps w a cap l) (hL : L = l.length) :
    Calls Try.prog 19 #[.slice a L cap] w fun e w' => (∃ a' cap', e = .returned (.slice a' (spP (inSp l) 256).length cap') ∧ Sps w' a' cap' (spP (inSp l) 256)) ∧ Below w.heap.size w w' := by
  have h1 := setOf_any a L cap l w hs hL
  clear hL hs
  go_enter Try.func19, Try.ntmps19
  go_wp2_with (first
    | (go_at_call 38; (with_reducible refine h1.mono ?_); rintro e w1 ⟨⟨f, rfl, hf⟩, hb1⟩)
    | (go_at_call 39; (with_reducible refine (spans_any _ f).mono ?_); rintro e w2 ⟨⟨a2, c2, rfl, hs2, -⟩, hb2⟩))
  go_ret
  rw [spK_P hf] at hs2
  have hl : (spK f 256).length = (spP (inSp l) 256).length := by rw [spK_P hf]
  exact ⟨⟨a2, c2, by rw [hl]; rfl, hs2⟩, hb1.trans (hb2.mono hb1.size)⟩

/-- What holds of the spans of the bytes below k. -/
structure SpOk (p : Nat → Bool) (k : Nat) (l : List Sp) : Prop where
  mem : ∀ c, inSp l c = (decide (c < k) && p c)
  ord : ordB l = true
  last : ∀ m s, l = m ++ [s] → s.hi.toNat < k ∧ (0 < k → p (k - 1) = true → s.hi.toNat = k - 1) ∧ (0 < k → p (k - 1) = false → s.hi.toNat + 1 < k)

theorem inSp_append (l : List Sp) (s : Sp) (c : Nat) : inSp (l ++ [s]) c = (inSp l c || decide (s.lo.toNat ≤ c ∧ c ≤ s.hi.toNat)) := by simp [inSp]

def afterOk (l : List Sp) (s : Sp) : Bool := match l.getLast? with
  | none => true
  | some p => decide (p.hi.toNat + 2 ≤ s.lo.toNat)

theorem okAt_left {l : List Sp} {s : Sp} {i : Nat} (h : i < l.length) : okAt (l ++ [s]) i = okAt l i := by
  unfold okAt
  rw [List.getElem?_append_left h]
  cases i with
  | zero => rfl
  | succ j => simp only [List.getElem?_append_left (show j < l.length from by omega)]

theorem okAt_last (l : List Sp) (s : Sp) : okAt (l ++ [s]) l.length = (decide (s.lo.toNat ≤ s.hi.toNat) && afterOk l s) := by
  unfold okAt
  rw [List.getElem?_append_right (Nat.le_refl _), Nat.sub_self]
  simp only [List.getElem?_cons_zero]
  congr 1
  unfold afterOk
  rw [List.getLast?_eq_getElem?]
  generalize hn : l.length = n
  cases n with
  | zero =>
    rw [List.length_eq_zero_iff] at hn
    subst hn
    rfl
  | succ j =>
    simp only [Nat.add_sub_cancel]
    rw [List.getElem?_append_left (by omega)]
    cases l[j]? <;> rfl

theorem ordB_snoc (l : List Sp) (s : Sp) : ordB (l ++ [s]) = (ordB l && (decide (s.lo.toNat ≤ s.hi.toNat) && afterOk l s)) := by
  unfold ordB
  rw [List.length_append, List.length_singleton, ordK_succ, okAt_last]
  congr 1
  unfold ordK
  rw [Bool.eq_iff_iff, List.all_eq_true, List.all_eq_true]
  constructor
  · intro h i hi
    have := h i hi
    rwa [okAt_left (List.mem_range.1 hi)] at this
  · intro h i hi
    rw [okAt_left (List.mem_range.1 hi)]
    exact h i hi

theorem spP_ok (p : Nat → Bool) : ∀ k, k ≤ 256 → SpOk p k (spP p k) := by
  intro k
  induction k with
  | zero => exact fun _ => ⟨fun c => by simp [spP, inSp], rfl, fun m s e => by simp [spP] at e⟩
  | succ k ih =>
    intro hk
    obtain ⟨hm, ho, hl⟩ := ih (by omega)
    have hu : (UInt8.ofNat k).toNat = k := by simp; omega
    rw [spP, stepP]
    by_cases hp : p k = true
    · rw [if_pos hp]
      by_cases hq : (decide (0 < k) && p (k - 1)) = true
      · rw [if_pos hq]
        simp only [Bool.and_eq_true, decide_eq_true_eq] at hq
        obtain ⟨m, s, e⟩ : ∃ m s, spP p k = m ++ [s] := by
          rcases List.eq_nil_or_concat (spP p k) with e | ⟨m, s, e⟩
          · exfalso
            have := hm (k - 1)
            rw [e] at this
            simp [inSp, hq.2] at this
            omega
          · exact ⟨m, s, by simpa using e⟩
        rw [e] at hm ho hl ⊢
        obtain ⟨_, h2, _⟩ := hl m s rfl
        have h3 := h2 hq.1 hq.2
        rw [ordB_snoc] at ho
        simp only [Bool.and_eq_true, decide_eq_true_eq] at ho
        have e2 : lastTo (m ++ [s]) k = m ++ [⟨s.lo, UInt8.ofNat k⟩] := by simp [lastTo]
        rw [e2]
        refine ⟨fun c => ?_, ?_, fun m' s' e' => ?_⟩
        · have := hm c
          rw [inSp_append] at this ⊢
          by_cases hc : c = k
          · subst hc
            simp [hp, hu]; right; omega
          · rw [show decide (c < k + 1) = decide (c < k) from decide_eq_decide.2 (by omega), ← this]
            congr 1
            exact decide_eq_decide.2 (by simp only [hu]; omega)
        · rw [ordB_snoc]
          simp only [Bool.and_eq_true, decide_eq_true_eq]
          exact ⟨ho.1, by rw [hu]; omega, ho.2.2⟩
        · obtain ⟨_, rfl⟩ := List.append_inj' e' rfl |>.imp id (fun h => (List.cons.inj h).1)
          simp only [hu]
          exact ⟨by omega, fun _ _ => by omega, fun _ h => by rw [Nat.add_sub_cancel] at h; rw [hp] at h; cases h⟩
      · rw [if_neg hq]
        have hpl : ∀ m s, spP p k = m ++ [s] → s.hi.toNat + 1 < k := by
          intro m s e
          obtain ⟨h1, _, h3⟩ := hl m s e
          refine h3 (by omega) ?_
          simp only [Bool.and_eq_true, decide_eq_true_eq, not_and, Bool.not_eq_true] at hq
          exact hq (by omega)
        refine ⟨fun c => ?_, ?_, fun m' s' e' => ?_⟩
        · rw [inSp_append, hm c]
          simp only [hu]
          by_cases hc : c = k
          · subst hc; simp [hp]
          · rw [decide_eq_false (p := k ≤ c ∧ c ≤ k) (by omega), Bool.or_false, show decide (c < k + 1) = decide (c < k) from decide_eq_decide.2 (by omega)]
        · rw [ordB_snoc]
          simp only [Bool.and_eq_true, decide_eq_true_eq]
          refine ⟨ho, Nat.le_refl _, ?_⟩
          unfold afterOk
          rcases List.eq_nil_or_concat (spP p k) with e | ⟨m, s, e⟩
          · rw [e]; rfl
          · have := hpl m s (by simpa using e)
            rw [e]
            simp [hu]; omega
        · obtain ⟨_, rfl⟩ := List.append_inj' e' rfl |>.imp id (fun h => (List.cons.inj h).1)
          simp only [hu]
          exact ⟨by omega, fun _ _ => by omega, fun _ h => by rw [Nat.add_sub_cancel] at h; rw [hp] at h; cases h⟩
    · rw [if_neg hp]
      rw [Bool.not_eq_true] at hp
      refine ⟨fun c => ?_, ho, fun m s e => ?_⟩
      · rw [hm c]
        by_cases hc : c = k
        · subst hc; simp [hp]
        · rw [show decide (c < k + 1) = decide (c < k) from decide_eq_decide.2 (by omega)]
      · obtain ⟨h1, _, _⟩ := hl m s e
        exact ⟨by omega, fun _ h => (by rw [Nat.add_sub_cancel] at h; rw [hp] at h; cases h), fun _ _ => by omega⟩

/-- The spans of a list have just its bytes. -/
theorem spP_mem (l : List Sp) (c : Nat) (hc : c < 256) : inSp (spP (inSp l) 256) c = inSp l c := by
  rw [(spP_ok (inSp l) 256 (Nat.le_refl _)).mem c, decide_eq_true hc, Bool.true_and]
theorem inSp_big (l : List Sp) (c : Nat) (hc : 256 ≤ c) : inSp l c = false := by
  unfold inSp
  rw [List.any_eq_false]
  intro s _
  have := s.hi.toNat_lt
  simp; omega
theorem spP_mem' (l : List Sp) (c : Nat) : inSp (spP (inSp l) 256) c = inSp l c := by
  by_cases hc : c < 256
  · exact spP_mem l c hc
  · rw [inSp_big _ c (by omega), inSp_big _ c (by omega)]
/-- Put in order again they are the same. -/
theorem spP_idem (l : List Sp) : spP (inSp (spP (inSp l) 256)) 256 = spP (inSp l) 256 := by
  rw [show inSp (spP (inSp l) 256) = inSp l from funext (spP_mem' l)]
theorem spP_ord (l : List Sp) : ordB (spP (inSp l) 256) = true := (spP_ok (inSp l) 256 (Nat.le_refl _)).ord
end Go.Proofs.Ytkdfobnkebkpfaa

/- slices.Equal over spans; regex.alike. -/
namespace Go.Proofs.Ytkdfobnkebkpfaa
open Go.RowKit

attribute [local go_sem] Oper.semAt_some

theorem take_eq_succ {l m : List Sp} {k : Nat} {s : Sp} (h : l.take k = m.take k) (h1 : l[k]? = some s) (h2 : m[k]? = some s) : l.take (k + 1) = m.take (k + 1) := by
  rw [List.take_add_one, List.take_add_one, h, h1, h2]

set_option maxRecDepth 100000 in
set_option maxHeartbeats 2000000 in
theorem equal_any (a b : Option Addr) (L M ca cb : Nat) (l m : List Sp) (w : World) (hs : Sps w a ca l) (ht : Sps w b cb m) (hL : L = l.length) (hM : M = m.length) :
    Calls Try.prog 54 #[.slice a L ca, .slice b M cb] w fun e w' => e = .returned (.bool (decide (l = m))) ∧ Below w.heap.size w w' := by
  have hle := hs.le
  have hmx := hs.max
  have hle2 := ht.le
  have hmx2 := ht.max
  rw [← hL] at hle
  rw [← hM] at hle2
  have HL := Lib.hid hL
  have HM := Lib.hid hM
  clear hL hM
  obtain ⟨R, HR⟩ : ∃ R, Hid (decide (l = m) = R) := ⟨_, Lib.hid rfl⟩
  rw [HR.out]
  by_cases hLM : L = M
  · subst hLM
    go_enter Try.func54, Try.ntmps54
    go_wp2_with (fail)
    go_loopw [5, 13] (fun _ iv wr => ∃ k : Nat, k ≤ L ∧ iv = .int .i64 (k : Int) ∧ l.take k = m.take k ∧ Below w.heap.size w wr) (fun _ i _ => L - (intOf i).toNat)
    case atStart => exact ⟨0, by omega, rfl, rfl, Below.refl _ w⟩
    case round =>
      obtain ⟨k, hk, rfl, heq, hbr⟩ := hrel
      have HE := Lib.hid heq
      clear heq
      by_cases hlt : k < L
      · have hl1 : k < l.length := by rw [← HL.out]; exact hlt
        have hl2 : k < m.length := by rw [← HM.out]; exact hlt
        obtain ⟨b1, o1, rfl⟩ := hs.at_ k hl1
        obtain ⟨b2, o2, rfl⟩ := ht.at_ k hl2
        obtain ⟨p0, p1⟩ := (hs.grown hbr).cell b1 o1 rfl k hl1
        obtain ⟨q0, q1⟩ := (ht.grown hbr).cell b2 o2 rfl k hl2
        obtain ⟨s, HS⟩ : ∃ s, Hid (l[k] = s) := ⟨_, Lib.hid rfl⟩
        obtain ⟨t, HT⟩ : ∃ t, Hid (m[k] = t) := ⟨_, Lib.hid rfl⟩
        rw [HS.out] at p0 p1
        rw [HT.out] at q0 q1
        have hg1 : Hid (l[k]? = some s) := Lib.hid (by rw [List.getElem?_eq_getElem hl1, HS.out])
        have hg2 : Hid (m[k]? = some t) := Lib.hid (by rw [List.getElem?_eq_getElem hl2, HT.out])
        clear hs ht
        have hend : ∀ (_ : s ≠ t), R = false := fun hne => by
          rw [← HR.out]
          refine decide_eq_false (fun e => hne ?_)
          have h1 := hg1.out
          rw [e, hg2.out] at h1
          exact (Option.some.inj h1).symm
        have Hend := Lib.hid hend
        clear hend
        by_cases h1 : (s.lo.toNat : Int) = (t.lo.toNat : Int)
        · by_cases h2 : (s.hi.toNat : Int) = (t.hi.toNat : Int)
          · have hst : Hid (s = t) := Lib.hid (by
              have e1 : s.lo = t.lo := UInt8.toNat_inj.1 (by omega)
              have e2 : s.hi = t.hi := UInt8.toNat_inj.1 (by omega)
              cases s; cases t; simp_all)
            go_wp2_with (fail)
            go_region
            go_wp2_with (fail)
            refine ⟨⟨k + 1, by omega, by simp, take_eq_succ HE.out hg1.out (by rw [hst.out]; exact hg2.out), hbr.drew⟩, by simp [intOf]; omega⟩
          · have hR : Hid (R = false) := Lib.hid (Hend.out (fun e => h2 (by rw [e])))
            go_wp2_with (fail)
            go_region
            go_wp2_with (fail)
            exact bodyPost_ret (v := .bool false) (by simp [results, Try.results54, go_sem]; try rfl) rfl ⟨ret_bool hR.out.symm, hbr.drew⟩
        · have hR : Hid (R = false) := Lib.hid (Hend.out (fun e => h1 (by rw [e])))
          go_wp2_with (fail)
          go_region
          go_wp2_with (fail)
          exact bodyPost_ret (v := .bool false) (by simp [results, Try.results54, go_sem]; try rfl) rfl ⟨ret_bool hR.out.symm, hbr.drew⟩
      · obtain rfl : k = L := by omega
        have hR : Hid (R = true) := Lib.hid (by
          rw [← HR.out]
          have := HE.out
          rw [List.take_of_length_le (by rw [← HL.out]; omega), List.take_of_length_le (by rw [← HM.out]; omega)] at this
          exact decide_eq_true this)
        go_wp2_with (fail)
        exact bodyPost_ret (v := .bool true) (by simp [results, Try.results54, go_sem]; try rfl) rfl ⟨ret_bool hR.out.symm, hbr⟩
  · have hne : ¬ ((L : Int) = (M : Int)) := by omega
    have hR : Hid (R = false) := Lib.hid (by rw [← HR.out]; exact decide_eq_false (fun e => hLM (by rw [HL.out, HM.out, e])))
    go_enter Try.func54, Try.ntmps54
    go_wp2_with (fail)
    exact bodyPost_ret (v := .bool false) (by simp [results, Try.results54, go_sem]; try rfl) rfl ⟨ret_bool hR.out.symm, Below.refl _ w⟩
end Go.Proofs.Ytkdfobnkebkpfaa

/- regex.alike; when expressions are the same. -/
namespace Go.Proofs.Ytkdfobnkebkpfaa
open Go.RowKit

attribute [local go_sem] Oper.semAt_some

/-- Two expressions are alike, but for their lists. -/
def hd3 (h g : Hd) : Bool := (h.k == g.k) && decide (h.set = g.set)
def hdB (h g : Hd) (n m : Nat) : Bool := hd3 h g && decide (n = m)
theorem hdB_eq (h g : Hd) (n m : Nat) : hdB h g n m = (hd3 h g && decide (n = m)) := rfl
/-- The same expressions, one by one. -/
def sameB : Fo → Fo → Bool
  | .nil, .nil => true
  | .cons h k r, .cons h' k' r' => hdB h h' k.len k'.len && sameB k k' && sameB r r'
  | _, _ => false

set_option maxRecDepth 100000 in
set_option maxHeartbeats 1000000 in
theorem alike_any (h g : Hd) (sa ta : Option Addr) (sc tc : Nat) (a b : Option Addr) (n m c d : Nat) (w : World) (hs : Sps w sa sc h.set) (ht : Sps w ta tc g.set) :
    Calls Try.prog 37 #[itemV h sa sc a n c, itemV g ta tc b m d] w fun e w' => e = .returned (.bool (hd3 h g)) ∧ Below w.heap.size w w' := by
  obtain ⟨hk, hset⟩ := h
  obtain ⟨gk, gset⟩ := g
  dsimp only [itemV] at hs ht ⊢
  obtain ⟨L, hL⟩ : ∃ L, L = hset.length := ⟨_, rfl⟩
  obtain ⟨M, hM⟩ : ∃ L, L = gset.length := ⟨_, rfl⟩
  have hb0 : Below w.heap.size w ((w.alloc (.cells #[.int .i64 hk, .slice sa L sc, .slice a n c] 25)).alloc (.cells #[.int .i64 gk, .slice ta M tc, .slice b m d] 25)) := ((Below.refl w.heap.size w).alloc (Nat.le_refl _) _).alloc (by simp) _
  have heq := equal_any sa ta L M sc tc hset gset _ (hs.grown hb0) (ht.grown hb0) hL hM
  rw [← hL, ← hM]
  obtain ⟨R, HR⟩ : ∃ R, Hid (hd3 ⟨hk, hset⟩ ⟨gk, gset⟩ = R) := ⟨_, Lib.hid rfl⟩
  rw [HR.out]
  clear hs ht hL hM
  by_cases hkk : hk = gk
  · subst hkk
    have hR : Hid (R = decide (hset = gset)) := Lib.hid (by rw [← HR.out]; simp [hd3])
    generalize decide (hset = gset) = D at heq hR
    go_enter Try.func37, Try.ntmps37
    go_wp2_with (first | (go_at_call 54; (with_reducible refine heq.mono ?_); rintro e w8 ⟨rfl, hb8⟩))
    exact bodyPost_ret (v := .bool D) (by simp [results, Try.results37, go_sem]; try rfl) rfl ⟨ret_bool hR.out.symm, hb0.trans (hb8.mono hb0.size)⟩
  · have hR : Hid (R = false) := Lib.hid (by rw [← HR.out]; simp [hd3, hkk])
    go_enter Try.func37, Try.ntmps37
    go_wp2_with (fail)
    exact bodyPost_ret (v := .bool false) (by simp [results, Try.results37, go_sem]; try rfl) rfl ⟨ret_bool hR.out.symm, hb0⟩
end Go.Proofs.Ytkdfobnkebkpfaa
