/- Texts joined: Set SetOf Spans SpansF Byte Hex Others Equal Alike. -/
import Derived.Test.YtngbfjimmdkfeaaPBB
import Derived.BigRegion
import Derived.Test.YtngbfjimmdkfeaaPBA
set_option linter.unusedVariables false
set_option linter.unusedSimpArgs false
namespace Go.Proofs.Ytngbfjimmdkfeaa
open Go.RowKit

/-- Whether a byte is in the set that four words hold. -/
def hasW (f : Nat → BitVec 64) (c : Nat) : Bool := (f (c / 64)).getLsbD (c % 64)

theorem bit_at (x : BitVec 64) (r : Nat) : (bits .and .u64 ((x.toNat : Int) / 2 ^ r) 1 == 1) = x.getLsbD r := by
  have h := x.isLt
  have e : ((x.toNat : Int) / 2 ^ r) = ((x.toNat / 2 ^ r : Nat) : Int) := by simp
  have h2 : x.toNat / 2 ^ r < 18446744073709551616 := Nat.lt_of_le_of_lt (Nat.div_le_self _ _) (by omega)
  have := bits_mask .u64 64 (by decide) (fun n h0 h1 => by rw [IntKind.wrap_u64]; omega) 1 (by decide) ((x.toNat / 2 ^ r : Nat) : Int) (Int.natCast_nonneg _) (by omega)
  rw [e]
  rw [show ((1 : Int)) = ((2 ^ 1 - 1 : Nat) : Int) from rfl]
  rw [show bits .and .u64 ((x.toNat / 2 ^ r : Nat) : Int) ((2 ^ 1 - 1 : Nat) : Int) = ((x.toNat / 2 ^ r : Nat) : Int) % 2 from by simpa using this]
  rw [BitVec.getLsbD, Nat.testBit_eq_decide_div_mod_eq]
  by_cases h1 : x.toNat / 2 ^ r % 2 = 1
  · rw [decide_eq_true h1]; simp; omega
  · rw [decide_eq_false h1]; simp; omega

end Go.Proofs.Ytngbfjimmdkfeaa

namespace Go.Proofs.Ytngbfjimmdkfeaa
open Go.RowKit

attribute [local go_sem] Oper.semAt_some

/-- The set with a byte more. -/
def addW (f : Nat → BitVec 64) (c : Nat) : Nat → BitVec 64 := fun i => if i = c / 64 then f i ||| (1#64 <<< (c % 64)) else f i
theorem hasW_add (f : Nat → BitVec 64) (c d : Nat) : hasW (addW f c) d = (hasW f d || decide (d = c)) := by
  unfold hasW addW
  by_cases h : d / 64 = c / 64
  · rw [if_pos h]
    have h2 : d % 64 < 64 := by omega
    have h3 : c % 64 < 64 := by omega
    rw [BitVec.getLsbD_or, BitVec.getLsbD_shiftLeft]
    congr 1
    by_cases e : d % 64 = c % 64
    · have : d = c := by omega
      subst this
      simp [h2]
    · have : ¬ d = c := by omega
      rw [decide_eq_false this]
      by_cases lt : d % 64 < c % 64
      · simp [lt]
      · have : d % 64 - c % 64 ≠ 0 := by omega
        simp [this]
  · rw [if_neg h, decide_eq_false (by intro e; subst e; exact h rfl), Bool.or_false]

theorem or_bit (x : BitVec 64) (r : Nat) (hr : r < 64) : bits .or .u64 (x.toNat : Int) (2 ^ r % 18446744073709551616) = ((x ||| (1#64 <<< r)).toNat : Int) := by
  have hp : (2 ^ r : Nat) < 18446744073709551616 := Nat.lt_of_lt_of_le (Nat.pow_lt_pow_right (by omega) hr) (by omega)
  have e : ((2 : Int) ^ r % 18446744073709551616) = ((1#64 <<< r).toNat : Int) := by
    rw [BitVec.toNat_shiftLeft]
    simp [Nat.shiftLeft_eq]
  rw [e]
  have h := (x ||| (1#64 <<< r)).isLt
  show IntKind.u64.wrap ((BitVec.ofInt 64 (x.toNat : Int) ||| BitVec.ofInt 64 ((1#64 <<< r).toNat : Int)).toNat : Int) = _
  rw [BitVec.ofInt_natCast, BitVec.ofInt_natCast, IntKind.wrap_u64]
  simp only [BitVec.ofNat_toNat, BitVec.setWidth_eq]
  omega

/-- Whether a byte is in one of the spans. -/
def inSp (l : List Sp) (c : Nat) : Bool := l.any fun s => decide (s.lo.toNat ≤ c ∧ c ≤ s.hi.toNat)

theorem inSp_snoc (l : List Sp) (k : Nat) (s : Sp) (h : l[k]? = some s) (c : Nat) : inSp (l.take (k + 1)) c = (inSp (l.take k) c || decide (s.lo.toNat ≤ c ∧ c ≤ s.hi.toNat)) := by
  obtain ⟨hk, e⟩ := List.getElem?_eq_some_iff.1 h
  rw [List.take_add_one, h]
  simp [inSp, e]

end Go.Proofs.Ytngbfjimmdkfeaa

namespace Go.Proofs.Ytngbfjimmdkfeaa
open Go.RowKit

attribute [local go_sem] Oper.semAt_some

/-- The last span ends with this byte. -/
def lastTo (out : List Sp) (c : Nat) : List Sp := out.dropLast ++ [⟨(out.getLast?.getD ⟨0, 0⟩).lo, UInt8.ofNat c⟩]
def rowS (l : List Sp) : List Value := l.flatMap fun s => [.int .u8 (s.lo.toNat : Int), .int .u8 (s.hi.toNat : Int)]
theorem rowS_length (l : List Sp) : (rowS l).length = l.length * 2 := by
  induction l with
  | nil => rfl
  | cons s l ih => simp [rowS] at ih ⊢; omega
theorem rowS_snoc (l : List Sp) (s : Sp) : rowS (l ++ [s]) = rowS l ++ [.int .u8 (s.lo.toNat : Int), .int .u8 (s.hi.toNat : Int)] := by simp [rowS]
theorem rowS_set (l : List Sp) (s : Sp) (c : UInt8) : (rowS (l ++ [s])).set (l.length * 2 + 1) (.int .u8 (c.toNat : Int)) = rowS (l ++ [⟨s.lo, c⟩]) := by
  rw [rowS_snoc, rowS_snoc, ← rowS_length]
  simp [List.set_append]
theorem rowS_get (l : List Sp) : ∀ i, (h : i < l.length) → (rowS l)[i * 2]? = some (.int .u8 (l[i].lo.toNat : Int)) ∧ (rowS l)[i * 2 + 1]? = some (.int .u8 (l[i].hi.toNat : Int)) := by
  induction l with
  | nil => intro i h; simp at h
  | cons s l ih =>
    intro i h
    cases i with
    | zero => exact ⟨rfl, rfl⟩
    | succ i =>
      have := ih i (by simpa using h)
      rw [show (i + 1) * 2 = i * 2 + 1 + 1 from by omega]
      simpa [rowS] using this

theorem info_span : (Try.prog.info? 55).map (fun i => (i.zero, i.size, i.bytes)) = some (some (.agg #[.int .u8 0, .int .u8 0]), 2, 2) := by kernel_rfl

/-- A span is put onto a row of spans. -/
theorem run_pushS (w : World) (ty : TypeId) {base n cap : Nat} {a : Option Addr} {row : List Value} (v v' : Value) (hv : v.oneCell' = true) (hv' : v'.oneCell' = true) (hown : w.ownsRow base 55 2 (.slice a n cap) n row) (hn : n + 1 ≤ 1099511627780) (hbase : base ≤ w.heap.size) :
    ∃ a' cap' w', (Builtin.append_ #[43, 43] ty #[.slice a n cap, .slice (some ⟨w.heap.size, 0, none⟩) 1 1]).run Try.prog (w.alloc (.cells #[v, v'] 55)) = .ok (.slice a' (n + 1) cap') w' ∧
      w'.ownsRow base 55 2 (.slice a' (n + 1) cap') (n + 1) (row ++ [v, v']) ∧ w.grownBy w' (Value.slice a n cap).ownBlock := by
  obtain ⟨i0, hi, hz0, hz1, hz2⟩ := info_parts info_span
  have hnew : ∀ j u, [v, v'][j]? = some u → (w.alloc (.cells #[v, v'] 55)).cell? ((⟨w.heap.size, 0, none⟩ : Addr).add j) = some u := cell_two_new w v v' 55
  obtain ⟨x, w', hrun, ho, hg, _⟩ := run_append_own (P := Try.prog) (w.alloc (.cells #[v, v'] 55)) base 43 ty 55 i0 (.agg #[.int .u8 0, .int .u8 0]) 2 2 Try.underlying43 hi hz0 hz1 hz2 rfl (by decide) _ n _ (hown.alloc _) ⟨w.heap.size, 0, none⟩ 1 1 [v, v'] rfl hnew (by simp [hv, hv']) (by unfold maxLen; omega) (by omega) (by simp; omega)
  obtain ⟨a', cap', rfl⟩ := slice_of_own ho
  exact ⟨a', cap', w', hrun, ho, grownBy_trans (World.grownBy_alloc w _ _) hg (fun i e => .inl e)⟩

theorem own_ge {w : World} {base e size n : Nat} {v : Value} {xs : List Value} (h : w.ownsRow base e size v n xs) {k : Nat} (hk : v.ownBlock = some k) : base ≤ k := by
  rcases h.2 with ⟨rfl, _⟩ | ⟨g, cap, cur, rfl, hb, _⟩
  · simp [Value.ownBlock] at hk
  · simp [Value.ownBlock] at hk; omega

/-- An own row of spans reads as them. -/
theorem Sps.of_own {w : World} {base cap n : Nat} {a : Option Addr} {l : List Sp} (h : w.ownsRow base 55 2 (.slice a n cap) n (rowS l)) (hn : n = l.length) : Sps w a cap l := by
  have hcell : ∀ g, a = some ⟨g, 0, none⟩ → ∀ j, j < l.length * 2 → w.cell? ⟨g, j, none⟩ = (rowS l)[j]? := by
    intro g e j hj
    subst e
    exact h.cellAt j (by rw [hn]; exact hj)
  rcases h.2 with ⟨e, hx⟩ | ⟨g, cap', cur, e, hb, hg, hnc, hcm, hcs, htake⟩
  · injection e with e1 e2 e3
    subst e1 e3
    have hl0 : l = [] := List.length_eq_zero_iff.1 (by omega)
    subst hl0
    exact Sps.nil w
  · injection e with e1 e2 e3
    subst e1 e3
    refine ⟨by omega, by unfold maxLen at hcm; omega, fun e => (by cases e), fun i hi => ⟨g, 0, rfl⟩, fun b off e i hi => ?_⟩
    cases e
    obtain ⟨r1, r2⟩ := rowS_get l i hi
    rw [Nat.zero_add]
    exact ⟨(hcell g rfl (i * 2) (by omega)).trans r1, (hcell g rfl (i * 2 + 1) (by omega)).trans r2⟩

end Go.Proofs.Ytngbfjimmdkfeaa

namespace Go.Proofs.Ytngbfjimmdkfeaa
open Go.RowKit

/-- The first k spans that a set of bytes comes to, by the set alone. -/
def stepP (p : Nat → Bool) (c : Nat) (out : List Sp) : List Sp :=
  if p c then (if decide (0 < c) && p (c - 1) then lastTo out c else out ++ [⟨UInt8.ofNat c, UInt8.ofNat c⟩]) else out
def spP (p : Nat → Bool) : Nat → List Sp
  | 0 => []
  | k + 1 => stepP p k (spP p k)
/-- What holds of the spans of the bytes below k. -/
structure SpOk (p : Nat → Bool) (k : Nat) (l : List Sp) : Prop where
  mem : ∀ c, inSp l c = (decide (c < k) && p c)
  ord : ordB l = true
  last : ∀ m s, l = m ++ [s] → s.hi.toNat < k ∧ (0 < k → p (k - 1) = true → s.hi.toNat = k - 1) ∧ (0 < k → p (k - 1) = false → s.hi.toNat + 1 < k)

theorem inSp_append (l : List Sp) (s : Sp) (c : Nat) : inSp (l ++ [s]) c = (inSp l c || decide (s.lo.toNat ≤ c ∧ c ≤ s.hi.toNat)) := by simp [inSp]

def afterOk (l : List Sp) (s : Sp) : Bool := match l.getLast? with
  | none => true
  | some p => decide (p.hi.toNat + 2 ≤ s.lo.toNat)

theorem okAt_left {l : List Sp} {s : Sp} {i : Nat} (h : i < l.length) : okAt (l ++ [s]) i = okAt l i := by
  unfold okAt
  rw [List.getElem?_append_left h]
  cases i with
  | zero => rfl
  | succ j => simp only [List.getElem?_append_left (show j < l.length from by omega)]

theorem okAt_last (l : List Sp) (s : Sp) : okAt (l ++ [s]) l.length = (decide (s.lo.toNat ≤ s.hi.toNat) && afterOk l s) := by
  unfold okAt
  rw [List.getElem?_append_right (Nat.le_refl _), Nat.sub_self]
  simp only [List.getElem?_cons_zero]
  congr 1
  unfold afterOk
  rw [List.getLast?_eq_getElem?]
  generalize hn : l.length = n
  cases n with
  | zero =>
    rw [List.length_eq_zero_iff] at hn
    subst hn
    rfl
  | succ j =>
    simp only [Nat.add_sub_cancel]
    rw [List.getElem?_append_left (by omega)]
    cases l[j]? <;> rfl

theorem ordB_snoc (l : List Sp) (s : Sp) : ordB (l ++ [s]) = (ordB l && (decide (s.lo.toNat ≤ s.hi.toNat) && afterOk l s)) := by
  unfold ordB
  rw [List.length_append, List.length_singleton, ordK_succ, okAt_last]
  congr 1
  unfold ordK
  rw [Bool.eq_iff_iff, List.all_eq_true, List.all_eq_true]
  constructor
  · intro h i hi
    have := h i hi
    rwa [okAt_left (List.mem_range.1 hi)] at this
  · intro h i hi
    rw [okAt_left (List.mem_range.1 hi)]
    exact h i hi

theorem spP_ok (p : Nat → Bool) : ∀ k, k ≤ 256 → SpOk p k (spP p k) := by
  intro k
  induction k with
  | zero => exact fun _ => ⟨fun c => by simp [spP, inSp], rfl, fun m s e => by simp [spP] at e⟩
  | succ k ih =>
    intro hk
    obtain ⟨hm, ho, hl⟩ := ih (by omega)
    have hu : (UInt8.ofNat k).toNat = k := by simp; omega
    rw [spP, stepP]
    by_cases hp : p k = true
    · rw [if_pos hp]
      by_cases hq : (decide (0 < k) && p (k - 1)) = true
      · rw [if_pos hq]
        simp only [Bool.and_eq_true, decide_eq_true_eq] at hq
        obtain ⟨m, s, e⟩ : ∃ m s, spP p k = m ++ [s] := by
          rcases List.eq_nil_or_concat (spP p k) with e | ⟨m, s, e⟩
          · exfalso
            have := hm (k - 1)
            rw [e] at this
            simp [inSp, hq.2] at this
            omega
          · exact ⟨m, s, by simpa using e⟩
        rw [e] at hm ho hl ⊢
        obtain ⟨_, h2, _⟩ := hl m s rfl
        have h3 := h2 hq.1 hq.2
        rw [ordB_snoc] at ho
        simp only [Bool.and_eq_true, decide_eq_true_eq] at ho
        have e2 : lastTo (m ++ [s]) k = m ++ [⟨s.lo, UInt8.ofNat k⟩] := by simp [lastTo]
        rw [e2]
        refine ⟨fun c => ?_, ?_, fun m' s' e' => ?_⟩
        · have := hm c
          rw [inSp_append] at this ⊢
          by_cases hc : c = k
          · subst hc
            simp [hp, hu]; right; omega
          · rw [show decide (c < k + 1) = decide (c < k) from decide_eq_decide.2 (by omega), ← this]
            congr 1
            exact decide_eq_decide.2 (by simp only [hu]; omega)
        · rw [ordB_snoc]
          simp only [Bool.and_eq_true, decide_eq_true_eq]
          exact ⟨ho.1, by rw [hu]; omega, ho.2.2⟩
        · obtain ⟨_, rfl⟩ := List.append_inj' e' rfl |>.imp id (fun h => (List.cons.inj h).1)
          simp only [hu]
          exact ⟨by omega, fun _ _ => by omega, fun _ h => by rw [Nat.add_sub_cancel] at h; rw [hp] at h; cases h⟩
      · rw [if_neg hq]
        have hpl : ∀ m s, spP p k = m ++ [s] → s.hi.toNat + 1 < k := by
          intro m s e
          obtain ⟨h1, _, h3⟩ := hl m s e
          refine h3 (by omega) ?_
          simp only [Bool.and_eq_true, decide_eq_true_eq, not_and, Bool.not_eq_true] at hq
          exact hq (by omega)
        refine ⟨fun c => ?_, ?_, fun m' s' e' => ?_⟩
        · rw [inSp_append, hm c]
          simp only [hu]
          by_cases hc : c = k
          · subst hc; simp [hp]
          · rw [decide_eq_false (p := k ≤ c ∧ c ≤ k) (by omega), Bool.or_false, show decide (c < k + 1) = decide (c < k) from decide_eq_decide.2 (by omega)]
        · rw [ordB_snoc]
          simp only [Bool.and_eq_true, decide_eq_true_eq]
          refine ⟨ho, Nat.le_refl _, ?_⟩
          unfold afterOk
          rcases List.eq_nil_or_concat (spP p k) with e | ⟨m, s, e⟩
          · rw [e]; rfl
          · have := hpl m s (by simpa using e)
            rw [e]
            simp [hu]; omega
        · obtain ⟨_, rfl⟩ := List.append_inj' e' rfl |>.imp id (fun h => (List.cons.inj h).1)
          simp only [hu]
          exact ⟨by omega, fun _ _ => by omega, fun _ h => by rw [Nat.add_sub_cancel] at h; rw [hp] at h; cases h⟩
    · rw [if_neg hp]
      rw [Bool.not_eq_true] at hp
      refine ⟨fun c => ?_, ho, fun m s e => ?_⟩
      · rw [hm c]
        by_cases hc : c = k
        · subst hc; simp [hp]
        · rw [show decide (c < k + 1) = decide (c < k) from decide_eq_decide.2 (by omega)]
      · obtain ⟨h1, _, _⟩ := hl m s e
        exact ⟨by omega, fun _ h => (by rw [Nat.add_sub_cancel] at h; rw [hp] at h; cases h), fun _ _ => by omega⟩

/-- The spans of a list have just its bytes. -/
theorem spP_mem (l : List Sp) (c : Nat) (hc : c < 256) : inSp (spP (inSp l) 256) c = inSp l c := by
  rw [(spP_ok (inSp l) 256 (Nat.le_refl _)).mem c, decide_eq_true hc, Bool.true_and]
theorem inSp_big (l : List Sp) (c : Nat) (hc : 256 ≤ c) : inSp l c = false := by
  unfold inSp
  rw [List.any_eq_false]
  intro s _
  have := s.hi.toNat_lt
  simp; omega
theorem spP_mem' (l : List Sp) (c : Nat) : inSp (spP (inSp l) 256) c = inSp l c := by
  by_cases hc : c < 256
  · exact spP_mem l c hc
  · rw [inSp_big _ c (by omega), inSp_big _ c (by omega)]
theorem spP_ord (l : List Sp) : ordB (spP (inSp l) 256) = true := (spP_ok (inSp l) 256 (Nat.le_refl _)).ord
end Go.Proofs.Ytngbfjimmdkfeaa

namespace Go.Proofs.Ytngbfjimmdkfeaa
open Go.RowKit Go.Shelf

attribute [local go_sem] Oper.semAt_some

end Go.Proofs.Ytngbfjimmdkfeaa

namespace Go.Proofs.Ytngbfjimmdkfeaa
open Go.RowKit Go.Shelf

attribute [local go_sem] Oper.semAt_some

end Go.Proofs.Ytngbfjimmdkfeaa

namespace Go.Proofs.Ytngbfjimmdkfeaa
open Go.RowKit

attribute [local go_sem] Oper.semAt_some

end Go.Proofs.Ytngbfjimmdkfeaa

namespace Go.Proofs.Ytngbfjimmdkfeaa
open Go.RowKit

attribute [local go_sem] Oper.semAt_some

end Go.Proofs.Ytngbfjimmdkfeaa

namespace Go.Proofs.Ytngbfjimmdkfeaa
open Go.RowKit

attribute [local go_sem] Oper.semAt_some

/-- Two expressions are alike, but for their lists. -/
def hd3 (h g : Hd) : Bool := (h.k == g.k) && decide (h.set = g.set)
def hdB (h g : Hd) (n m : Nat) : Bool := hd3 h g && decide (n = m)
/-- The same expressions, one by one. -/
def sameB : Fo → Fo → Bool
  | .nil, .nil => true
  | .cons h k r, .cons h' k' r' => hdB h h' k.len k'.len && sameB k k' && sameB r r'
  | _, _ => false

end Go.Proofs.Ytngbfjimmdkfeaa

