/- Texts joined: Dg Dh Di Dj. -/
import Derived.Test.YtngbfjimmdkfeaaPBD3
import Derived.Test.YtngbfjimmdkfeaaPBC
import Derived.BigRegion
import Derived.Test.YtngbfjimmdkfeaaPBH1
import Derived.WideKeyArr
import Derived.Maps.OwnSet
import Derived.Test.YtngbfjimmdkfeaaPBZ3
set_option linter.unusedVariables false
set_option linter.unusedSimpArgs false
namespace Go.Proofs.Ytngbfjimmdkfeaa
open Go.RowKit Go.Shelf

attribute [local go_sem] Oper.semAt_some

abbrev wv (x : BitVec 64) : Value := .int .u64 (x.toNat : Int)
/-- A block of one's own whose cells a function tells. -/
def BlkA (w : World) (b : Nat) (t : TypeId) (n : Nat) (g : Nat → Value) : Prop := ∃ cs : Array Value, w.heap[b]? = some (.cells cs t (0, 0)) ∧ cs.size = n ∧ ∀ i, i < n → cs[i]? = some (g i)
section
variable {w w' : World} {b n : Nat} {t : TypeId} {g g' : Nat → Value}
theorem BlkA.lt (h : BlkA w b t n g) : b < w.heap.size := by obtain ⟨cs, h1, _⟩ := h; exact (Array.getElem?_eq_some_iff.1 h1).1
theorem BlkA.cell (h : BlkA w b t n g) {j : Nat} (hj : j < n) : w.cell? ⟨b, j, none⟩ = some (g j) := by
  obtain ⟨cs, h1, _, h3⟩ := h
  simp [World.cell?, h1, h3 j hj]
theorem BlkA.frozen (h : BlkA w b t n g) (j : Nat) : w.frozen? ⟨b, j, none⟩ = false := by
  obtain ⟨cs, h1, _⟩ := h
  simp [World.frozen?, h1]
theorem BlkA.kept {row : Option Nat} (h : BlkA w b t n g) (hg : w.grownBy w' row) (hne : some b ≠ row) : BlkA w' b t n g := by
  have hl := h.lt
  obtain ⟨cs, h1, h2⟩ := h
  exact ⟨cs, (hg.block b hl hne).trans h1, h2⟩
theorem BlkA.below {B : Nat} (h : BlkA w b t n g) (hb : Below B w w') (hlt : b < B) : BlkA w' b t n g := by
  obtain ⟨cs, h1, h2⟩ := h
  exact ⟨cs, (hb.block b hlt).trans h1, h2⟩
theorem BlkA.congr (h : BlkA w b t n g) (he : ∀ i, i < n → g i = g' i) : BlkA w b t n g' := by
  obtain ⟨cs, h1, h2, h3⟩ := h
  exact ⟨cs, h1, h2, fun i hi => by rw [h3 i hi, he i hi]⟩
theorem BlkA.ty (h : BlkA w b t n g) : ∃ cur, w.heap[b]? = some (.cells cur t (0, 0)) := by obtain ⟨cs, h1, _⟩ := h; exact ⟨cs, h1⟩
theorem BlkA.set (h : BlkA w b t n g) {j : Nat} (hj : j < n) (v : Value) : BlkA (w.setCell ⟨b, j, none⟩ v) b t n (fun i => if i = j then v else g i) := by
  obtain ⟨cs, h1, h2, h3⟩ := h
  obtain ⟨hlt, hk⟩ := Array.getElem?_eq_some_iff.1 h1
  refine ⟨cs.setIfInBounds j v, ?_, by simp [h2], fun i hi => ?_⟩
  · show (w.heap.modify b _)[b]? = _
    rw [Array.getElem?_eq_getElem (by rw [Array.size_modify]; exact hlt), Array.getElem_modify_self, hk]
    simp
  · by_cases e : i = j
    · subst e
      show _ = some (if i = i then v else g i)
      rw [if_pos rfl, Array.getElem?_setIfInBounds]
      simp [h2, hi]
    · show _ = some (if i = j then v else g i)
      rw [if_neg e, Array.getElem?_setIfInBounds]
      rw [if_neg (fun h => e h.symm)]
      exact h3 i hi
end
/-- The words of a set, from a place on. -/
def ovr (g : Nat → Value) (off : Nat) (f : Nat → BitVec 64) : Nat → Value := fun j => if off ≤ j ∧ j < off + 32 then wv (f (j - off)) else g j
def IsW (g : Nat → Value) (off : Nat) (f : Nat → BitVec 64) : Prop := ∀ i, i < 32 → g (off + i) = wv (f i)
theorem isW_ovr (g : Nat → Value) (off : Nat) (f : Nat → BitVec 64) : IsW (ovr g off f) off f := fun i hi => by unfold ovr; rw [if_pos ⟨by omega, by omega⟩]; congr; omega
theorem isW_set {g : Nat → Value} {off j : Nat} {f : Nat → BitVec 64} (h : IsW g off f) (hj : j < 32) (x : BitVec 64) (i : Nat) : (if i = off + j then wv x else g i) = ovr g off (fun k => if k = j then x else f k) i := by
  unfold ovr
  by_cases e : i = off + j
  · subst e
    rw [if_pos rfl, if_pos ⟨by omega, by omega⟩]
    dsimp only
    rw [if_pos (by omega)]
  · rw [if_neg e]
    by_cases hi : off ≤ i ∧ i < off + 32
    · rw [if_pos hi]
      dsimp only
      rw [if_neg (by omega)]
      have := h (i - off) (by omega)
      rw [show off + (i - off) = i by omega] at this
      exact this
    · rw [if_neg hi]
theorem ovr_ovr (g : Nat → Value) (off : Nat) (f h : Nat → BitVec 64) (i : Nat) : ovr (ovr g off f) off h i = ovr g off h i := by
  unfold ovr; split <;> rfl
/-- 32 words lie there. -/
def Wd32 (w : World) (b off : Nat) (f : Nat → BitVec 64) : Prop := ∀ i, i < 32 → w.cell? ⟨b, off + i, none⟩ = some (wv (f i))
theorem BlkA.wd {w : World} {b n : Nat} {t : TypeId} {g : Nat → Value} {off : Nat} {f : Nat → BitVec 64} (h : BlkA w b t n g) (hi : IsW g off f) (ho : off + 32 ≤ n) : Wd32 w b off f := fun i h1 => by rw [h.cell (by omega), hi i h1]
theorem Wd32.grown {w w' : World} {b off : Nat} {f : Nat → BitVec 64} {row : Option Nat} (h : Wd32 w b off f) (hg : w.grownBy w' row) (hne : some b ≠ row) : Wd32 w' b off f := fun i hi => by
  have hc := h i hi
  have hl := World.block_lt_of_cell? w _ hc
  exact (World.cell?_of_block (a := ⟨b, off + i, none⟩) (hg.block b hl hne)).trans hc

theorem grown_dN (w : World) (n : Nat) : w.grownBy (w.drewN n) none := ⟨rfl, rfl, rfl, Nat.le_refl _, fun _ _ _ => rfl⟩
theorem or_bv64 (x y : BitVec 64) : bits .or .u64 (x.toNat : Int) (y.toNat : Int) = ((x ||| y).toNat : Int) := by
  have h := (x ||| y).isLt
  show IntKind.u64.wrap ((BitVec.ofInt 64 (x.toNat : Int) ||| BitVec.ofInt 64 (y.toNat : Int)).toNat : Int) = _
  rw [BitVec.ofInt_natCast, BitVec.ofInt_natCast, IntKind.wrap_u64]
  simp only [BitVec.ofNat_toNat, BitVec.setWidth_eq]
  omega
set_option maxRecDepth 100000 in
set_option maxHeartbeats 1000000 in
theorem has32_any (w : World) (b off : Nat) (f : Nat → BitVec 64) (c : Nat) (hc : c < 2048) (h : Wd32 w b off f) :
    Calls Try.prog 53 #[.pointer (some ⟨b, off, none⟩), .int .i64 (c : Int)] w fun e w' => e = .returned (.bool (hasW f c)) ∧ w' = w := by
  have c0 := h (c / 64) (by omega)
  have hb : b < w.heap.size := World.block_lt_of_cell? w _ c0
  have e1 : ((c : Int).tdiv 64) = ((c / 64 : Nat) : Int) := by rw [Int.tdiv_eq_ediv_of_nonneg (by omega)]; omega
  have e2 : ((c : Int).tmod 64) = ((c % 64 : Nat) : Int) := by rw [Int.tmod_eq_emod_of_nonneg (by omega)]; omega
  have l1 : c / 64 < 32 := by omega
  have l2 : c % 64 < 64 := by omega
  obtain ⟨R, HR⟩ : ∃ R, Hid (hasW f c = R) := ⟨_, Lib.hid rfl⟩
  rw [HR.out]
  generalize hq : c / 64 = q at *
  generalize hr : c % 64 = r at *
  obtain ⟨x, hx⟩ : ∃ x, x = f q := ⟨_, rfl⟩
  rw [← hx] at c0
  go_enter Try.func53, Try.ntmps53
  go_wp2_with (fail)
  go_ret
  refine ⟨ret_bool ?_, rfl⟩
  rw [bit_at, ← HR.out]
  simp [hasW, hq, hr]

/-- The set with a state more, whichever words it had. -/
theorem addW_at (f : Nat → BitVec 64) (c : Nat) : (fun k => if k = c / 64 then (f (c / 64) ||| (1#64 <<< (c % 64))) else f k) = addW f c := by
  funext k
  unfold addW
  by_cases e : k = c / 64
  · rw [if_pos e, if_pos e, e]
  · rw [if_neg e, if_neg e]

set_option maxRecDepth 100000 in
set_option maxHeartbeats 1000000 in
theorem put32_any (w : World) (b n : Nat) (t : TypeId) (g : Nat → Value) (off : Nat) (f : Nat → BitVec 64) (c : Nat) (hc : c < 2048) (h : BlkA w b t n g) (hi : IsW g off f) (ho : off + 32 ≤ n) :
    Calls Try.prog 55 #[.pointer (some ⟨b, off, none⟩), .int .i64 (c : Int)] w fun e w' => e = .returned (.tuple #[]) ∧ BlkA w' b t n (ovr g off (addW f c)) ∧ w.grownBy w' (some b) := by
  have l1 : c / 64 < 32 := by omega
  have l2 : c % 64 < 64 := by omega
  have c0 := h.wd hi ho (c / 64) l1
  have hb : b < w.heap.size := World.block_lt_of_cell? w _ c0
  have hf := h.frozen (off + c / 64)
  have hor := or_bit (f (c / 64)) (c % 64) l2
  have HB := Lib.hid (h.set (j := off + c / 64) (by omega) (wv (f (c / 64) ||| (1#64 <<< (c % 64)))))
  have HG := Lib.hid (grownBy_set w b (off + c / 64) (wv (f (c / 64) ||| (1#64 <<< (c % 64)))))
  have HE : Hid (∀ i, i < n → (if i = off + c / 64 then wv (f (c / 64) ||| (1#64 <<< (c % 64))) else g i) = ovr g off (addW f c) i) := Lib.hid (fun i _ => by rw [isW_set hi l1, addW_at])
  have e1 : ((c : Int).tdiv 64) = ((c / 64 : Nat) : Int) := by rw [Int.tdiv_eq_ediv_of_nonneg (by omega)]; omega
  have e2 : ((c : Int).tmod 64) = ((c % 64 : Nat) : Int) := by rw [Int.tmod_eq_emod_of_nonneg (by omega)]; omega
  clear h hi
  generalize hx : f (c / 64) = x at *
  generalize hy : x ||| (1#64 <<< (c % 64)) = y at *
  have HP := Lib.hid hor
  clear hor
  generalize hq : c / 64 = q at *
  generalize hr : c % 64 = r at *
  go_enter Try.func55, Try.ntmps55
  go_wp2_with (fail)
  go_region
  go_wp2_with (fail)
  have hv : bits .or .u64 (x.toNat : Int) (IntKind.u64.wrap (2 ^ r)) = (y.toNat : Int) := by rw [IntKind.wrap_u64]; exact HP.out
  rw [hv]
  exact bodyPost_end (v := .tuple #[]) (by simp [results, Try.results55, go_sem]; try rfl) rfl ⟨rfl, (HB.out.congr HE.out).kept (grownBy_drew _ none) (by simp), grownBy_trans HG.out (grownBy_drew _ none) (fun i e => by cases e)⟩

set_option maxRecDepth 100000 in
set_option maxHeartbeats 2000000 in
theorem join_any (w : World) (b n : Nat) (t : TypeId) (g : Nat → Value) (off : Nat) (f : Nat → BitVec 64) (b2 off2 : Nat) (h2 : Nat → BitVec 64) (h : BlkA w b t n g) (hi : IsW g off f) (ho : off + 32 ≤ n) (hw : Wd32 w b2 off2 h2) (hne : b2 ≠ b) :
    Calls Try.prog 85 #[.pointer (some ⟨b, off, none⟩), .pointer (some ⟨b2, off2, none⟩)] w fun e w' => e = .returned (.tuple #[]) ∧ BlkA w' b t n (ovr g off (fun i => f i ||| h2 i)) ∧ w.grownBy w' (some b) := by
  have HW := Lib.hid hw
  have HB0 : Hid (BlkA w b t n (ovr g off (fun i => if i < 0 then f i ||| h2 i else f i))) := Lib.hid (h.congr (fun i _ => by
    unfold ovr
    split
    · have := hi (i - off) (by omega)
      rw [show off + (i - off) = i by omega] at this
      rw [this]
      dsimp only
      rw [if_neg (by omega)]
    · rfl))
  clear h hi hw
  go_enter Try.func85, Try.ntmps85
  go_wp2_with (fail)
  go_loopw [7] (fun iv wr => ∃ k : Nat, k ≤ 32 ∧ iv = .int .i64 (k : Int) ∧ Hid (BlkA wr b t n (ovr g off (fun i => if i < k then f i ||| h2 i else f i))) ∧ w.grownBy wr (some b)) (fun iv _ => 32 - (intOf iv).toNat)
  case atStart => exact ⟨0, by omega, rfl, HB0, ⟨rfl, rfl, rfl, Nat.le_refl _, fun _ _ _ => rfl⟩⟩
  case round =>
    obtain ⟨k, hk, rfl, HB, hg⟩ := hrel
    by_cases hlt : k < 32
    · have hkI : (k : Int) < 32 := by omega
      have hkI0 : (0 : Int) ≤ (k : Int) := by omega
      have c0 := (HW.out.grown hg (fun e => hne (by injection e))) k hlt
      have bl0 := World.block_lt_of_cell? _ _ c0
      go_wp2_with (fail)
      go_quiet (fail)
      have HBd : Hid (BlkA (wr.drewN nq) b t n (ovr g off (fun i => if i < k then f i ||| h2 i else f i))) := Lib.hid (HB.out.kept (grown_dN wr nq) (by simp))
      have Hgd := Lib.hid (grownBy_trans hg (grown_dN wr nq) (fun i e => by cases e))
      clear hg HB c0 bl0
      generalize wr.drewN nq = V at HBd Hgd ⊢
      have c1 := HBd.out.wd (isW_ovr _ _ _) ho k hlt
      have bl1 := HBd.out.lt
      have fz := HBd.out.frozen (off + k)
      dsimp only at c1
      rw [if_neg (Nat.lt_irrefl k)] at c1
      obtain ⟨x, hx⟩ : ∃ x, Hid (f k = x) := ⟨_, Lib.hid rfl⟩
      obtain ⟨y, hy⟩ : ∃ y, Hid (h2 k = y) := ⟨_, Lib.hid rfl⟩
      rw [hx.out] at c1
      rw [hy.out]
      have hor : Hid (bits .or .u64 (x.toNat : Int) (y.toNat : Int) = ((x ||| y).toNat : Int)) := Lib.hid (or_bv64 x y)
      have HB2 : Hid (BlkA (V.setCell ⟨b, off + k, none⟩ (wv (x ||| y))) b t n (ovr g off (fun i => if i < k + 1 then f i ||| h2 i else f i))) := Lib.hid ((HBd.out.set (j := off + k) (by omega) (wv (x ||| y))).congr (fun i hi => by
        rw [isW_set (isW_ovr _ _ _) hlt, ovr_ovr]
        unfold ovr
        split
        · dsimp only
          by_cases e : i - off = k
          · rw [if_pos e, if_pos (by omega), e, hx.out, hy.out]
          · rw [if_neg e]
            by_cases e2 : i - off < k
            · rw [if_pos e2, if_pos (by omega)]
            · rw [if_neg e2, if_neg (by omega)]
        · rfl))
      have HG2 := Lib.hid (grownBy_trans Hgd.out (grownBy_set V b (off + k) (wv (x ||| y))) (fun i e => .inl e))
      go_wp2_with (fail)
      go_region
      rw [hor.out]
      go_wp2_with (fail)
      exact ⟨⟨k + 1, by omega, by simp, Lib.hid (HB2.out.kept (grownBy_drew _ none) (by simp)), grownBy_trans HG2.out (grownBy_drew _ none) (fun i e => by cases e)⟩, by simp [intOf]; omega⟩
    · obtain rfl : k = 32 := by omega
      have HF : Hid (BlkA wr b t n (ovr g off (fun i => f i ||| h2 i))) := Lib.hid (HB.out.congr (fun i _ => by
        unfold ovr
        split
        · dsimp only
          rw [if_pos (by omega)]
        · rfl))
      go_wp2_with (fail)
      exact bodyPost_end (v := .tuple #[]) (by simp [results, Try.results85, go_sem]; try rfl) rfl ⟨rfl, HF.out, hg⟩
end Go.Proofs.Ytngbfjimmdkfeaa

namespace Go.Proofs.Ytngbfjimmdkfeaa
open Go.RowKit Go.Shelf Go.Maps

abbrev WSet := Nat → BitVec 64
def eqW (f g : WSet) : Prop := ∀ i, i < 32 → f i = g i
instance (f g : WSet) : Decidable (eqW f g) := inferInstanceAs (Decidable (∀ i, i < 32 → f i = g i))
def wordsL (f : WSet) : List Value := (List.range 32).map (fun i => wv (f i))
def litsW (f : WSet) : List Go.Lit := (List.range 32).map (fun i => Go.Lit.int .u64 ((f i).toNat : Int))
theorem wordsL_len (f : WSet) : (wordsL f).length = 32 := by simp [wordsL]
theorem wordsL_at (f : WSet) {i : Nat} (h : i < 32) : (wordsL f)[i]? = some (wv (f i)) := by simp [wordsL, h]
theorem wordsL_eq {f g : WSet} : wordsL f = wordsL g ↔ eqW f g := by
  constructor
  · intro h i hi
    have h1 := wordsL_at f hi
    rw [h, wordsL_at g hi] at h1
    injection h1 with h1
    injection h1 with _ h1
    exact (BitVec.eq_of_toNat_eq (by omega)).symm
  · intro h
    unfold wordsL
    exact List.map_congr_left (fun i hi => by rw [h i (List.mem_range.1 hi)])
theorem lits_eq {f g : WSet} : litsW f = litsW g ↔ eqW f g := by
  constructor
  · intro h i hi
    have h1 : (litsW f)[i]? = some (Go.Lit.int .u64 ((f i).toNat : Int)) := by simp [litsW, hi]
    have h2 : (litsW g)[i]? = some (Go.Lit.int .u64 ((g i).toNat : Int)) := by simp [litsW, hi]
    rw [h, h2] at h1
    injection h1 with h1
    injection h1 with _ h1
    exact (BitVec.eq_of_toNat_eq (by omega)).symm
  · intro h
    unfold litsW
    exact List.map_congr_left (fun i hi => by rw [h i (List.mem_range.1 hi)])
theorem arrK : WideMaps.ArrKey Try.prog 74 72 32 := ⟨Try.underlying74, by kernel_rfl, by kernel_rfl, by kernel_rfl⟩
theorem set_law : Keyed Try.prog 74 := Keyed.of_law arrK.law
theorem types_pos : ∃ m, Try.prog.types.size = m + 1 := ⟨Try.prog.types.size - 1, by kernel_rfl⟩
theorem word_wf (x : BitVec 64) : (Go.Lit.int .u64 (x.toNat : Int)).wf = true := by
  have := x.isLt
  simp [Go.Lit.wf, IntKind.min, IntKind.max, IntKind.signed, IntKind.bits]
  omega
theorem lits_step (m : Nat) (f : WSet) : ∀ is : List Nat, (∀ i ∈ is, i < 32) → is.mapM (fun i => Try.prog.keyLits (m + 1) 72 (((wordsL f).drop (i * 1)).take 1)) = some (is.map (fun i => [Go.Lit.int .u64 ((f i).toNat : Int)]))
  | [], _ => rfl
  | i :: is, h => by
    have hi := h i List.mem_cons_self
    have hd : ((wordsL f).drop (i * 1)).take 1 = [wv (f i)] := by
      rw [Nat.mul_one, List.drop_eq_getElem_cons (by rw [wordsL_len]; exact hi)]
      have : (wordsL f)[i]'(by rw [wordsL_len]; exact hi) = wv (f i) := by simp [wordsL]
      rw [this]; rfl
    have hk : Try.prog.keyLits (m + 1) 72 [wv (f i)] = some [Go.Lit.int .u64 ((f i).toNat : Int)] := by
      unfold Program.keyLits
      rw [Try.underlying72]
      simp [word_wf]
    rw [List.mapM_cons, lits_step m f is (fun j hj => h j (List.mem_cons_of_mem _ hj))]
    simp only [hd, hk]
    rfl
theorem fm_single {α β : Type} (g : α → β) : ∀ l : List α, l.flatMap (fun i => [g i]) = l.map g
  | [] => rfl
  | x :: l => by rw [List.flatMap_cons, fm_single g l]; rfl
theorem lits_all (m : Nat) (f : WSet) : Try.prog.keyLits (m + 2) 74 (wordsL f) = some (litsW f) := by
  unfold Program.keyLits
  rw [Try.underlying74]
  dsimp only
  rw [arrK.one, if_pos (by rw [arrK.size, wordsL_len]), lits_step m f (List.range 32) (fun i hi => List.mem_range.1 hi)]
  simp [litsW, List.flatten_eq_flatMap, List.flatMap_map]
  exact fm_single _ _
theorem formed_set (f : WSet) : (Value.agg (wordsL f).toArray).formed Try.prog 74 = true := by
  simp [Value.formed, arrK.hu, arrK.size, wordsL_len]
theorem keyOf_set (f : WSet) : keyOf Try.prog 74 (.agg (wordsL f).toArray) = some (.string (keyBytes (litsW f))) := by
  have hkt := arrK.keyType types_pos
  obtain ⟨m, hm⟩ := types_pos
  unfold keyOf
  simp only [arrK.hu]
  rw [if_pos (by simp [hkt, formed_set]), hm]
  simp only [Value.cells]
  rw [lits_all m f]
  rfl
theorem key_eq {f g : WSet} (h : keyBytes (litsW f) = keyBytes (litsW g)) : eqW f g := by
  have h1 := keyOf_set f
  have h2 := keyOf_set g
  rw [← h] at h2
  have := set_law.inj h1 h2
  injection this with this
  exact wordsL_eq.1 (by simpa using this)
/-- Where a set stands among some. -/
def idxW (all : List WSet) (f : WSet) : Option Nat := all.findIdx? (fun g => decide (eqW g f))
theorem eqW_symm {f g : WSet} (h : eqW f g) : eqW g f := fun i hi => (h i hi).symm
theorem eqW_trans {f g k : WSet} (h : eqW f g) (h2 : eqW g k) : eqW f k := fun i hi => (h i hi).trans (h2 i hi)
theorem idxW_congr {all : List WSet} {f g : WSet} (h : eqW f g) : idxW all f = idxW all g := by
  unfold idxW
  congr 1
  funext k
  exact decide_eq_decide.2 ⟨fun e => eqW_trans e h, fun e => eqW_trans e (eqW_symm h)⟩
theorem idxW_snoc {all : List WSet} {f : WSet} (h : idxW all f = none) (g : WSet) : idxW (all ++ [f]) g = if eqW g f then some all.length else idxW all g := by
  by_cases e : eqW g f
  · rw [if_pos e]
    have h1 := idxW_congr (all := all) e
    rw [h] at h1
    unfold idxW at h1 ⊢
    rw [List.findIdx?_append, h1]
    simp [eqW_symm e]
  · rw [if_neg e]
    unfold idxW
    rw [List.findIdx?_append]
    have : ¬ eqW f g := fun h => e (eqW_symm h)
    simp [this]
def kS (f : WSet) : Go.Lit := .string (keyBytes (litsW f))
theorem kS_eq {f g : WSet} : kS f = kS g ↔ eqW f g := by
  constructor
  · intro h
    injection h with h
    exact key_eq h
  · intro h
    unfold kS
    rw [lits_eq.2 h]
/-- A map from sets to numbers. -/
def MapS (W : World) (b n : Nat) (m : WSet → Option Nat) : Prop :=
  ∃ D : DataW Unit, W.ownsMap Try.prog 74 (plainElem Try.prog 3) b n D ∧ IsMap D ∧ ∀ f : WSet, has D (kS f) = (m f).isSome ∧ ∀ i : Nat, m f = some i → D.atKey (kS f) (.lit (.int .i64 0)) = .lit (.int .i64 (i : Int))
theorem MapS.kept {W W' : World} {row : Option Nat} {b n : Nat} {m : WSet → Option Nat} (h : MapS W b n m) (hg : W.grownBy W' row) (hne : some b ≠ row) : MapS W' b n m := by
  obtain ⟨D, h1, h2, h3⟩ := h
  exact ⟨D, h1.kept hg hne, h2, h3⟩
theorem MapS.obj {W : World} {b n : Nat} {m : WSet → Option Nat} (h : MapS W b n m) : ∃ es k, W.heap[b]? = some (.map es k) := by
  obtain ⟨D, ⟨es, k, hb, _⟩, _⟩ := h
  exact ⟨es, k, hb⟩
theorem MapS.new (W : World) : MapS (W.alloc (.map #[] 0)) W.heap.size 0 (fun _ => none) :=
  ⟨.map [], World.ownsMap_made _ _ _ _, isMap_empty, fun _ => ⟨rfl, fun i h => by cases h⟩⟩
set_option maxRecDepth 100000 in
theorem MapS.look {W : World} {b n : Nat} {m : WSet → Option Nat} (h : MapS W b n m) (f : WSet) :
    ∃ c : Int, (Instr.lookup 70 (.map (some b)) (.agg (wordsL f).toArray) true).run Try.prog W = .ok (.tuple #[.int .i64 c, .bool (m f).isSome]) W ∧ ∀ i : Nat, m f = some i → c = (i : Int) := by
  obtain ⟨D, h1, h2, h3⟩ := h
  obtain ⟨v, ps, hrun, hv⟩ := h1.look_ok set_law Try.underlying70 (zero_int W) (plainElem_int (H := Unit) Try.underlying3 (by decide)) (keyOf_set f)
  obtain ⟨c, rfl, hc, hwc⟩ := plainElem_int_inv Try.underlying3 hv
  have hh := (h3 f).1
  unfold kS at hh
  rw [hh] at hrun
  refine ⟨c, hrun, fun i hi => ?_⟩
  have h4 := (h3 f).2 i hi
  simp only [Prod.mk.injEq] at hc
  have h5 := hc.1
  unfold kS at h4
  rw [h4] at h5
  injection h5 with h5
  injection h5 with _ h5
  exact h5.symm
set_option maxRecDepth 100000 in
theorem MapS.store {W : World} {b n : Nat} {m : WSet → Option Nat} (h : MapS W b n m) (f : WSet) (v : Nat) (hv : v ≤ 1000000) (hn : n < maxLen) :
    ∃ W', (Instr.mapUpdate 70 (.map (some b)) (.agg (wordsL f).toArray) (.int .i64 (v : Int))).run Try.prog W = .ok () W' ∧ MapS W' b (n + 1) (fun g => if eqW g f then some v else m g) ∧ W.grownBy W' (some b) := by
  obtain ⟨D, h1, h2, h3⟩ := h
  have hw : (Go.Lit.int .i64 (v : Int)).wf = true := by
    simp [Go.Lit.wf, IntKind.min, IntKind.max, IntKind.signed, IntKind.bits]
    omega
  obtain ⟨W', hrun, ho, hg⟩ := h1.update set_law Try.underlying70 hn (keyOf_set f) (plainElem_int Try.underlying3 hw)
  refine ⟨W', hrun, ⟨_, ho, h2.put _ _, fun g => ?_⟩, hg⟩
  by_cases e : eqW g f
  · have hk : kS g = .string (keyBytes (litsW f)) := kS_eq.2 e
    dsimp only
    rw [if_pos e, hk]
    exact ⟨has_put_same h2 (by simp [WideAt.IsKeyLit]) _, fun i hi => by cases hi; exact atKey_put_same h2 (by simp [WideAt.IsKeyLit]) _ _⟩
  · have hk : kS g ≠ .string (keyBytes (litsW f)) := fun h => e (kS_eq.1 h)
    dsimp only
    rw [if_neg e, has_put_other hk]
    exact ⟨(h3 g).1, fun i hi => by rw [atKey_put_other hk]; exact (h3 g).2 i hi⟩
end Go.Proofs.Ytngbfjimmdkfeaa

namespace Go.Proofs.Ytngbfjimmdkfeaa
open Go.RowKit Go.Shelf Go.Maps

section
variable {w w' : World} {base e size n cap : Nat} {v : Value} {a : Option Addr} {xs : List Value}
theorem own_typD (h : w.ownsRow base e size (.slice a n cap) n xs) : ∀ g, (Value.slice a n cap).ownBlock = some g → base ≤ g ∧ ∃ cur, w.heap[g]? = some (.cells cur e (0, 0)) := by
  intro g hg
  rcases h.2 with ⟨e, _⟩ | ⟨g', cap', cur, e, hb, hk, _⟩
  · rw [e] at hg; cases hg
  · rw [e] at hg
    simp only [Value.ownBlock, Option.some.injEq] at hg
    subst hg
    exact ⟨hb, cur, hk⟩
theorem own_keptD {row : Option Nat} (h : w.ownsRow base e size (.slice a n cap) n xs) (hg : w.grownBy w' row) (hrow : ∀ g, row = some g → (Value.slice a n cap).ownBlock ≠ some g) : w'.ownsRow base e size (.slice a n cap) n xs := by
  rcases h0 : (Value.slice a n cap).ownBlock with _ | k
  · exact h.kept hg (.inl h0)
  · refine h.kept hg (.inr (fun e0 => ?_))
    rw [h0] at e0
    exact hrow k e0.symm h0
end
/-- What stays of the maker. -/
structure MkL where
  mb : Nat
  lb : Nat
  cb : Nat
  fb : Nat
  M1 : Nat
  n : Nat
  s : Int
  ea : Option Addr
  ec : Nat
  es : List Eg
  lds : List MvD
/-- The automaton without its edges by bytes. -/
abbrev MkL.y (L : MkL) : Nf := ⟨(L.n : Int), L.s, [], L.es⟩
abbrev MkL.p (L : MkL) : NfL := ⟨none, 0, L.ea, L.ec⟩
def mkG (L : MkL) (sl : Nat) (sa : Option Addr) (sc : Nat) (cu : Nat → Bool) (bh : Nat → WSet) : Nat → Value := fun j =>
  if j < 8 then [Value.int .i64 (L.n : Int), .int .i64 L.s, .slice none 0 0, .slice L.ea L.es.length L.ec, .slice (some ⟨L.lb, 0, none⟩) L.n L.n, .slice (some ⟨L.cb, 0, none⟩) L.n L.n, .slice sa sl sc, .map (some L.fb)].getD j undef
  else if j < 265 then .bool (cu (j - 8)) else wv (bh ((j - 265) / 32) ((j - 265) % 32))
def clG (cl : Nat → WSet) : Nat → Value := fun j => wv (cl (j / 32) (j % 32))
def ldG (lds : List MvD) : Nat → Value := fun j => (lds.getD j ⟨[], none, 0⟩).v
/-- Edges by none, in a row of one's own. -/
def EgO (w : World) (base : Nat) (a : Option Addr) (cap : Nat) (es : List Eg) : Prop :=
  ∃ vs : List Value, w.ownsRow base 61 3 (.slice a es.length cap) es.length vs ∧ ∀ i (h : i < es.length), es[i].q = [] ∧ ∃ sa sc, vs[i * 3]? = some (.int .i64 es[i].f) ∧ vs[i * 3 + 1]? = some (.int .i64 es[i].t) ∧ vs[i * 3 + 2]? = some (.slice sa 0 sc) ∧ sc ≤ 9223372036854775807 ∧ (sa = none → sc = 0)
theorem EgO.egs {w : World} {base : Nat} {a : Option Addr} {cap : Nat} {es : List Eg} (h : EgO w base a cap es) : Egs w a cap es := by
  obtain ⟨vs, ho, hv⟩ := h
  rcases ho.2 with ⟨e1, e0⟩ | ⟨g, cp, cur, e1, hb, hk, hnc, hcm, _⟩
  · injection e1 with e1 e2 e3
    exact ⟨by omega, by omega, fun _ => e3, fun i hi => by omega, fun b off e => (by rw [e1] at e; cases e)⟩
  · injection e1 with e1 e2 e3
    refine ⟨by omega, by unfold maxLen at hcm; omega, fun e => (by rw [e1] at e; cases e), fun i hi => ⟨g, 0, e1⟩, fun b off e i hi => ?_⟩
    rw [e1] at e
    cases e
    subst e1
    obtain ⟨hq, sa, sc, v0, v1, v2, h3, h4⟩ := hv i hi
    have c0 := World.ownsRow.cellAt ho (i * 3) (by omega)
    have c1 := World.ownsRow.cellAt ho (i * 3 + 1) (by omega)
    have c2 := World.ownsRow.cellAt ho (i * 3 + 2) (by omega)
    rw [Nat.zero_add]
    refine ⟨c0.trans v0, c1.trans v1, sa, sc, ?_, ?_⟩
    · rw [hq]; exact c2.trans v2
    · rw [hq]; exact ⟨by simp, h3, h4, fun i h => by simp at h, fun b off e i h => by simp at h⟩
abbrev OwnMv (w : World) (base : Nat) (d : MvD) : Prop := w.ownsRow base 57 3 (.slice d.a d.l.length d.c) d.l.length (d.l.flatMap Mv.cells)
structure MkrAt (w0 w : World) (L : MkL) (cl : Nat → WSet) (cu : Nat → Bool) (bh : Nat → WSet) (all : List WSet) (sa : Option Addr) (sc : Nat) : Prop where
  bel : Below w0.heap.size w0 w
  m1 : L.M1 ≤ w.heap.size
  mkr : BlkA w L.mb 77 8457 (mkG L all.length sa sc cu bh)
  cb : BlkA w L.cb 74 (L.n * 32) (clG cl)
  lb : BlkA w L.lb 58 L.n (ldG L.lds)
  ld : ∀ d ∈ L.lds, OwnMv w w0.heap.size d ∧ ∀ g, (Value.slice d.a d.l.length d.c).ownBlock = some g → g < L.M1
  eg : EgO w w0.heap.size L.ea L.ec L.es ∧ ∀ g, (Value.slice L.ea L.es.length L.ec).ownBlock = some g → g < L.M1
  sets : w.ownsRow L.M1 74 32 (.slice sa all.length sc) all.length (all.flatMap wordsL)
  fnd : MapS w L.fb all.length (idxW all)
  lo : w0.heap.size ≤ L.mb ∧ w0.heap.size ≤ L.lb ∧ w0.heap.size ≤ L.cb ∧ w0.heap.size ≤ L.fb
  hi : L.mb < L.M1 ∧ L.lb < L.M1 ∧ L.cb < L.M1 ∧ L.fb < L.M1
section
variable {w0 w w' : World} {L : MkL} {cl cl' : Nat → WSet} {cu cu' : Nat → Bool} {bh bh' : Nat → WSet} {all : List WSet} {sa : Option Addr} {sc : Nat}
theorem MkrAt.nfat (h : MkrAt w0 w L cl cu bh all sa sc) : NfAt w L.y L.p :=
  ⟨⟨by simp, by show (0 : Nat) ≤ 9223372036854775807; omega, fun _ => rfl, fun i h => by simp at h, fun b off e => by cases e⟩, h.eg.1.egs⟩
/-- Writes that touch none of its parts. -/
theorem MkrAt.keep {row : Option Nat} (h : MkrAt w0 w L cl cu bh all sa sc) (hg : w.grownBy w' row) (hr : ∀ g, row = some g → L.M1 ≤ g ∧ (Value.slice sa all.length sc).ownBlock ≠ some g) : MkrAt w0 w' L cl cu bh all sa sc := by
  have hlo := h.lo
  have hhi := h.hi
  have hm1 := h.m1
  refine ⟨h.bel.grown hg h.bel.size (fun k e => by have := (hr k e).1; omega), Nat.le_trans hm1 hg.size, h.mkr.kept hg (fun e => by have := (hr _ e.symm).1; omega), h.cb.kept hg (fun e => by have := (hr _ e.symm).1; omega), h.lb.kept hg (fun e => by have := (hr _ e.symm).1; omega),
    fun d hd => ⟨own_keptD (h.ld d hd).1 hg (fun g e e0 => by have := (h.ld d hd).2 g e0; have := (hr g e).1; omega), (h.ld d hd).2⟩, ⟨?_, h.eg.2⟩, own_keptD h.sets hg (fun g e => (hr g e).2), h.fnd.kept hg (fun e => by have := (hr _ e.symm).1; omega), hlo, hhi⟩
  obtain ⟨vs, ho, hv⟩ := h.eg.1
  exact ⟨vs, own_keptD ho hg (fun g e e0 => by have := h.eg.2 g e0; have := (hr g e).1; omega), hv⟩
theorem MkrAt.below (h : MkrAt w0 w L cl cu bh all sa sc) (hb : Below w.heap.size w w') : MkrAt w0 w' L cl cu bh all sa sc := h.keep (below_grownBy hb none) (fun g e => by cases e)
/-- The closures are others. -/
theorem MkrAt.cls (h : MkrAt w0 w L cl cu bh all sa sc) (hg : w.grownBy w' (some L.cb)) (hc : BlkA w' L.cb 74 (L.n * 32) (clG cl')) : MkrAt w0 w' L cl' cu bh all sa sc := by
  have hlo := h.lo
  have hhi := h.hi
  have hm1 := h.m1
  obtain ⟨cur, hk⟩ := h.cb.ty
  have ht : ∀ {b n t : Nat} {g : Nat → Value}, BlkA w b t n g → t ≠ 74 → BlkA w' b t n g := fun hb hne => hb.kept hg (fun e => by
    cases e
    obtain ⟨c2, h2⟩ := hb.ty
    rw [hk] at h2
    cases h2
    exact hne rfl)
  have ho : ∀ {base e size n cap : Nat} {a : Option Addr} {xs : List Value}, w.ownsRow base e size (.slice a n cap) n xs → (e ≠ 74 ∨ L.cb < base) → w'.ownsRow base e size (.slice a n cap) n xs := fun ho hne => own_keptD ho hg (fun g e e0 => by
    cases e
    obtain ⟨hb, c2, h2⟩ := own_typD ho _ e0
    rcases hne with hne | hne
    · rw [hk] at h2
      cases h2
      exact hne rfl
    · omega)
  obtain ⟨vs, he, hv⟩ := h.eg.1
  exact ⟨h.bel.grown hg h.bel.size (fun k e => by cases e; omega), Nat.le_trans hm1 hg.size, ht h.mkr (by decide), hc, ht h.lb (by decide), fun d hd => ⟨ho (h.ld d hd).1 (.inl (by decide)), (h.ld d hd).2⟩, ⟨⟨vs, ho he (.inl (by decide)), hv⟩, h.eg.2⟩, ho h.sets (.inr (by omega)),
    h.fnd.kept hg (fun e => by
      injection e with e
      obtain ⟨es, k, h2⟩ := h.fnd.obj
      rw [e, hk] at h2
      cases h2), hlo, hhi⟩
end
/-- Steps that write only some blocks, and new ones. -/
inductive KpM (S : Nat → Prop) : World → World → Prop
  | refl (w : World) : KpM S w w
  | step {a b c : World} {row : Option Nat} (h : KpM S a b) (hg : b.grownBy c row) (hr : ∀ g, row = some g → S g ∨ a.heap.size ≤ g) : KpM S a c
theorem KpM.size {S : Nat → Prop} {a b : World} (h : KpM S a b) : a.heap.size ≤ b.heap.size := by
  induction h with
  | refl => exact Nat.le_refl _
  | step h hg hr ih => exact Nat.le_trans ih hg.size
theorem KpM.mono {S T : Nat → Prop} {a b : World} (h : KpM S a b) (hs : ∀ g, S g → T g) : KpM T a b := by
  induction h with
  | refl => exact .refl _
  | step h hg hr ih => exact .step ih hg (fun g e => (hr g e).imp (hs g) id)
theorem KpM.trans {S : Nat → Prop} {a b c : World} (h : KpM S a b) (k : KpM S b c) : KpM S a c := by
  induction k with
  | refl => exact h
  | step k hg hr ih => exact .step ih hg (fun g e => (hr g e).imp id (fun e => Nat.le_trans h.size e))
theorem KpM.one {S : Nat → Prop} {a b : World} {row : Option Nat} (hg : a.grownBy b row) (hr : ∀ g, row = some g → S g ∨ a.heap.size ≤ g) : KpM S a b := .step (.refl a) hg hr
theorem KpM.ofB {S : Nat → Prop} {a b : World} (hb : Below a.heap.size a b) : KpM S a b := KpM.one (below_grownBy hb none) (fun g e => by cases e)
/-- What each such step keeps is kept. -/
theorem KpM.ind {S : Nat → Prop} {a b : World} (h : KpM S a b) {P : World → Prop} (hP : ∀ w w' row, P w → w.grownBy w' row → (∀ g, row = some g → S g ∨ a.heap.size ≤ g) → P w') : P a → P b := by
  intro ha
  induction h with
  | refl => exact ha
  | step h hg hr ih => exact hP _ _ _ ih hg hr
theorem KpM.cell {S : Nat → Prop} {a b : World} (h : KpM S a b) {g j : Nat} {v : Value} (hc : a.cell? ⟨g, j, none⟩ = some v) (hS : ¬ S g) : b.cell? ⟨g, j, none⟩ = some v := by
  have hl := World.block_lt_of_cell? a _ hc
  refine h.ind (P := fun w => w.cell? ⟨g, j, none⟩ = some v) (fun w w' row h hg hr => ?_) hc
  refine (World.cell?_of_block (a := ⟨g, j, none⟩) (hg.block g (World.block_lt_of_cell? w _ h) (fun e => ?_))).trans h
  rcases hr g e.symm with h1 | h1
  · exact hS h1
  · have : g < a.heap.size := hl
    omega
theorem KpM.wd {S : Nat → Prop} {a b : World} (h : KpM S a b) {g j : Nat} {f : WSet} (hc : Wd32 a g j f) (hS : ¬ S g) : Wd32 b g j f := fun i hi => h.cell (hc i hi) hS
theorem KpM.own {S : Nat → Prop} {a b : World} (h : KpM S a b) {base e size n cap : Nat} {v : Option Addr} {xs : List Value} (ho : a.ownsRow base e size (.slice v n cap) n xs) (hS : ∀ g, (Value.slice v n cap).ownBlock = some g → ¬ S g) : b.ownsRow base e size (.slice v n cap) n xs := by
  have hl : ∀ g, (Value.slice v n cap).ownBlock = some g → g < a.heap.size := fun g e => by
    obtain ⟨_, cur, h2⟩ := own_typD ho g e
    exact (Array.getElem?_eq_some_iff.1 h2).1
  refine h.ind (P := fun w => w.ownsRow base e size (.slice v n cap) n xs) (fun w w' row h hg hr => own_keptD h hg (fun g e e0 => ?_)) ho
  rcases hr g e with h1 | h1
  · exact hS g e0 h1
  · have := hl g e0
    omega
/-- What the maker writes: what lies below its first own row of sets, and that row. -/
def MkQ (L : MkL) (v : Value) : Nat → Prop := fun g => g < L.M1 ∨ v.ownBlock = some g
end Go.Proofs.Ytngbfjimmdkfeaa

namespace Go.Proofs.Ytngbfjimmdkfeaa
open Go.RowKit Go.Shelf Go.Maps

attribute [local go_sem] Oper.semAt_some

theorem isW_cl (cl : Nat → WSet) (v : Nat) : IsW (clG cl) (v * 32) (cl v) := fun i hi => by
  unfold clG
  rw [show (v * 32 + i) / 32 = v by omega, show (v * 32 + i) % 32 = i by omega]
theorem ovr_cl (cl : Nat → WSet) (v : Nat) (f : WSet) (j : Nat) : ovr (clG cl) (v * 32) f j = clG (fun u => if u = v then f else cl u) j := by
  unfold ovr clG
  by_cases h : v * 32 ≤ j ∧ j < v * 32 + 32
  · rw [if_pos h]
    dsimp only
    rw [if_pos (by omega), show j - v * 32 = j % 32 by omega]
  · rw [if_neg h]
    dsimp only
    rw [if_neg (by omega)]
/-- What is known of the closures: each is there, or empty. -/
def ClN (y : Nf) (n : Nat) (cl : Nat → WSet) : Prop := ∀ v, v < n → (∀ c, c < 2048 → (hasW (cl v) c = true ↔ Rn y (· = v) c)) ∨ (∀ c, c < 2048 → hasW (cl v) c = false)
/-- A set has just what a predicate says. -/
def Msk (f : WSet) (S : Nat → Prop) : Prop := ∀ c, c < 2048 → (hasW f c = true ↔ S c)
theorem msk_add {f : WSet} {l : List Nat} {c : Nat} (h : Msk f (· ∈ l)) : Msk (addW f c) (· ∈ l ++ [c]) := fun d hd => by
  rw [hasW_add, Bool.or_eq_true, h d hd, decide_eq_true_iff]
  show d ∈ l ∨ d = c ↔ d ∈ l ++ [c]
  rw [List.mem_append, List.mem_singleton]

theorem BlkA.inv {w : World} {b n j : Nat} {t : TypeId} {g : Nat → Value} {v : Value} (h : BlkA w b t n g) (hc : w.cell? ⟨b, j, none⟩ = some v) : g j = v := by
  obtain ⟨cs, h1, h2, h3⟩ := h
  have hj : j < n := by
    rcases Nat.lt_or_ge j n with h | h
    · exact h
    · simp [World.cell?, h1, Array.getElem?_eq_none (by omega : cs.size ≤ j)] at hc
  simp [World.cell?, h1, h3 j hj] at hc
  exact hc
theorem cell_kept {w w' : World} {row : Option Nat} {b j : Nat} {v : Value} (hg : w.grownBy w' row) (hc : w.cell? ⟨b, j, none⟩ = some v) (hne : some b ≠ row) : w'.cell? ⟨b, j, none⟩ = some v :=
  (World.cell?_of_block (a := ⟨b, j, none⟩) (hg.block b (World.block_lt_of_cell? w _ hc) hne)).trans hc
set_option maxRecDepth 100000 in
set_option maxHeartbeats 4000000 in
theorem closure_any (w0 w : World) (L : MkL) (cl : Nat → WSet) (cu : Nat → Bool) (bh : Nat → WSet) (all : List WSet) (sa : Option Addr) (sc v : Nat) (h : MkrAt w0 w L cl cu bh all sa sc) (hy : linkB L.y = true) (he : L.es.length ≤ 500000) (hv : v < L.n) (hi : ClN L.y L.n cl) :
    Calls Try.prog 32 #[.pointer (some ⟨L.mb, 0, none⟩), .int .i64 (v : Int)] w fun e w' => e = .returned (.pointer (some ⟨L.cb, v * 32, none⟩)) ∧ ∃ f, Msk f (Rn L.y (· = v)) ∧ MkrAt w0 w' L (fun u => if u = v then f else cl u) cu bh all sa sc ∧ KpM (· = L.cb) w w' := by
  obtain ⟨ln1, ln2, ln3⟩ := link_n hy
  have hn : L.n ≤ 2000 := by simpa using ln2
  clear ln1 ln2 ln3
  have hvI : (v : Int) < (L.n : Int) := by omega
  have hvI0 : (0 : Int) ≤ (v : Int) := by omega
  have x0 := h.mkr.cell (j := 0) (by omega)
  have x1 := h.mkr.cell (j := 1) (by omega)
  have x2 := h.mkr.cell (j := 2) (by omega)
  have x3 := h.mkr.cell (j := 3) (by omega)
  have x5 := h.mkr.cell (j := 5) (by omega)
  have xl := h.mkr.lt
  simp only [mkG, Nat.reduceLT, if_true, List.getD_cons_zero, List.getD_cons_succ] at x0 x1 x2 x3 x5
  have hW := h.cb.wd (isW_cl cl v) (by omega)
  have Hh := Lib.hid (has32_any w L.cb (v * 32) (cl v) v (by omega) hW)
  have HM := Lib.hid h
  have hes : L.es.length ≤ L.ec ∧ L.ec ≤ 9223372036854775807 := ⟨h.nfat.es.le, h.nfat.es.max⟩
  obtain ⟨q, hq⟩ : ∃ q, Hid (hasW (cl v) v = q) := ⟨_, Lib.hid rfl⟩
  rw [hq.out] at Hh
  cases q
  case true =>
    have HR : Hid (Msk (cl v) (Rn L.y (· = v))) := Lib.hid (by
      rcases hi v hv with h1 | h1
      · exact h1
      · have := h1 v (by omega)
        rw [hq.out] at this; cases this)
    have HE : Hid (MkrAt w0 w L (fun u => if u = v then cl v else cl u) cu bh all sa sc) := Lib.hid (by
      have : (fun u => if u = v then cl v else cl u) = cl := by
        funext u
        by_cases e : u = v
        · rw [if_pos e, e]
        · rw [if_neg e]
      rw [this]; exact HM.out)
    clear h hW hi
    go_enter Try.func32, Try.ntmps32
    go_wp2_with (fail)
    refine Hh.out.mono ?_
    rintro e w1 ⟨rfl, hw1⟩
    subst w1
    go_wp2_with (fail)
    exact bodyPost_ret (v := .pointer (some ⟨L.cb, v * 32, none⟩)) (by simp [results, Try.results32, go_sem]; try first | rfl | assumption | omega) rfl ⟨rfl, cl v, HR.out, HE.out, KpM.refl _⟩
  case false =>
    have HZ : Hid (Msk (cl v) (· ∈ ([] : List Nat))) := Lib.hid (by
      rcases hi v hv with h1 | h1
      · have := (h1 v (by omega)).2 (Rn.base rfl)
        rw [hq.out] at this; cases this
      · intro c hc
        rw [h1 c hc]; simp)
    have hb1 : Below w.heap.size w (w.alloc (.cells #[.int .i64 (v : Int)] 3)) := (Below.refl _ w).alloc (Nat.le_refl _) _
    have hM1 := HM.out.below hb1
    have hI1 : IntsN (w.alloc (.cells #[.int .i64 (v : Int)] 3)) (some ⟨w.heap.size, 0, none⟩) 1 [v] := ⟨by simp, by omega, fun e => (by cases e), fun i _ => ⟨_, _, rfl⟩, fun b off e i hi => by
      cases e
      simp only [List.map_cons, List.map_nil, List.length_cons, List.length_nil] at hi ⊢
      obtain rfl : i = 0 := by omega
      exact (Blk.new w 3 #[.int .i64 (v : Int)]).cell 0⟩
    have Hc := Lib.hid (nclose_is (x := L.y) (p := L.p) (set := [v]) (a := some ⟨w.heap.size, 0, none⟩) (cap := 1) (w := w.alloc (.cells #[.int .i64 (v : Int)] 3)) hM1.nfat hy hI1 (fun u hu => by rw [List.mem_singleton.1 hu]; simpa using hv) he)
    have HM1 := Lib.hid hM1
    have HC : Hid (∀ c, c ∈ cloP L.y (· ∈ [v]) ↔ Rn L.y (· = v) c) := Lib.hid (fun c => by
      rw [cloP_mem hy (fun a ha => by rw [List.mem_singleton.1 ha]; simpa using hv)]
      exact ⟨fun h => rn_mono (fun a ha => List.mem_singleton.1 ha) h, fun h => rn_mono (fun a ha => List.mem_singleton.2 ha) h⟩)
    have HL : Hid (∀ c ∈ cloP L.y (· ∈ [v]), c < L.n) := Lib.hid (fun c hc => by
      have := rn_lt hy (S := (· = v)) (fun a ha => by rw [ha]; simpa using hv) ((HC.out c).1 hc)
      simpa using this)
    have HLen : Hid ((cloP L.y (· ∈ [v])).length ≤ 2000) := Lib.hid (by
      unfold cloP
      refine Nat.le_trans (List.length_filter_le _ _) ?_
      rw [List.length_range]
      simpa using hn)
    obtain ⟨C, hC⟩ : ∃ C, Hid (cloP L.y (· ∈ [v]) = C) := ⟨_, Lib.hid rfl⟩
    rw [hC.out] at Hc HC HL HLen
    clear h hW hi hb1 hM1 hI1
    go_enter Try.func32, Try.ntmps32
    go_wp2_with (fail)
    refine Hh.out.mono ?_
    rintro e w1 ⟨rfl, hw1⟩
    subst w1
    go_wp2_with (fail)
    refine Hc.out.mono ?_
    rintro e w2 ⟨oa, oc, rfl, hI2, hb2⟩
    have HM2 := Lib.hid (HM1.out.below hb2)
    have HKp : Hid (KpM (· = L.cb) w w2) := Lib.hid (KpM.trans (KpM.ofB ((Below.refl _ w).alloc (Nat.le_refl _) _)) (KpM.ofB hb2))
    have HI2 := Lib.hid hI2
    have hol : C.length ≤ oc ∧ oc ≤ 9223372036854775807 := ⟨by have := hI2.le; rw [List.length_map] at this; exact this, hI2.max⟩
    obtain ⟨CL, hCL⟩ : ∃ q, Hid (C.length = q) := ⟨_, Lib.hid rfl⟩
    rw [hCL.out] at hol HLen ⊢
    clear hI2 hb2 HM1 Hh Hc x0 x1 x2 x3 x5 xl
    go_wp2_with (fail)
    go_loopw [26] (fun iv wr => ∃ (k : Nat) (f : WSet), k ≤ CL ∧ iv = .int .i64 (k : Int) ∧ Hid (Msk f (· ∈ C.take k)) ∧ Hid (MkrAt w0 wr L (fun u => if u = v then f else cl u) cu bh all sa sc) ∧ w2.grownBy wr (some L.cb)) (fun iv _ => CL - (intOf iv).toNat)
    case atStart =>
      refine ⟨0, cl v, Nat.zero_le _, rfl, HZ, ?_, ⟨rfl, rfl, rfl, Nat.le_refl _, fun _ _ _ => rfl⟩⟩
      have : (fun u => if u = v then cl v else cl u) = cl := by
        funext u
        by_cases e : u = v
        · rw [if_pos e, e]
        · rw [if_neg e]
      rw [this]; exact HM2
    case round =>
      obtain ⟨k, f, hk, rfl, HK, HMr, hgr⟩ := hrel
      by_cases hlt : k < CL
      · have hkI : (k : Int) < (CL : Int) := by omega
        have hkI0 : (0 : Int) ≤ (k : Int) := by omega
        have hkl : k < C.length := by rw [hCL.out]; exact hlt
        obtain ⟨b, off, hoa⟩ := HI2.out.at_ k (by rw [List.length_map]; exact hkl)
        have c0 := HI2.out.cell b off hoa k (by rw [List.length_map]; exact hkl)
        rw [List.getElem_map] at c0
        have hcb : b ≠ L.cb := fun e => by
          subst e
          have := HM2.out.cb.inv c0
          unfold clG at this
          injection this with this
          cases this
        have c1 := cell_kept hgr c0 (fun e => hcb (by injection e))
        have hcn : C[k] < L.n := HL.out _ (List.getElem_mem hkl)
        have HP := Lib.hid (put32_any wr L.cb (L.n * 32) 74 (clG (fun u => if u = v then f else cl u)) (v * 32) f C[k] (by omega) HMr.out.cb (by have := isW_cl (fun u => if u = v then f else cl u) v; rw [if_pos rfl] at this; exact this) (by omega))
        have HK1 : Hid (Msk (addW f C[k]) (· ∈ C.take (k + 1))) := Lib.hid (by
          rw [List.take_add_one, List.getElem?_eq_getElem hkl]
          exact msk_add HK.out)
        have bl1 := World.block_lt_of_cell? _ _ c1
        generalize C[k] = c at c1 hcn HP HK1
        subst hoa
        clear c0 hcn
        go_wp2_with (fail)
        refine HP.out.mono ?_
        rintro e w3 ⟨rfl, hB, hg3⟩
        have HM3 := Lib.hid (HMr.out.cls (cl' := fun u => if u = v then addW f c else cl u) hg3 (hB.congr (fun j _ => (ovr_cl _ v _ j).trans (by
          refine congrArg (fun q => clG q j) (funext (fun u => ?_))
          by_cases e : u = v
          · rw [if_pos e, if_pos e]
          · rw [if_neg e, if_neg e, if_neg e]))))
        have HG3 := Lib.hid (grownBy_trans hgr hg3 (fun i e => .inl e))
        clear hB hg3 HMr hgr c1 HP
        go_wp2_with (fail)
        exact ⟨⟨k + 1, addW f c, by omega, by simp, HK1, HM3, HG3.out⟩, by simp [intOf]; omega⟩
      · obtain rfl : k = CL := by omega
        have HF : Hid (Msk f (Rn L.y (· = v))) := Lib.hid (fun c hc => by
          rw [HK.out c hc, ← HC.out c, List.take_of_length_le (by rw [hCL.out]; omega)])
        go_wp2_with (fail)
        exact bodyPost_ret (v := .pointer (some ⟨L.cb, v * 32, none⟩)) (by simp [results, Try.results32, go_sem]; try first | rfl | assumption | omega) rfl ⟨rfl, f, HF.out, HMr.out, HKp.out.step hgr (fun g e => by cases e; exact .inl rfl)⟩
end Go.Proofs.Ytngbfjimmdkfeaa

