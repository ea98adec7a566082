/- Texts joined: Jo Ju Jp. -/
import Derived.Test.YtldmgifphkpdlaaRVAm
import Derived.OrdersHeld
import Derived.Deep.RegionHeld
set_option linter.unusedVariables false
set_option linter.unusedSimpArgs false
namespace Go.Proofs.Ytldmgifphkpdlaa
open Go.RowKit Go.Maps
attribute [local go_sem] Oper.semAt_some
theorem map_ne_row {W : World} {b n : Nat} {m : Int → Bool} (h : SetZ W b n m) {base e size k c : Nat} {a : Option Addr} {xs : List Value} (ho : W.ownsRow base e size (.slice a k c) k xs) : ∀ g, (Value.slice a k c).ownBlock = some g → g ≠ b := by
 intro g hg e2
 obtain ⟨_, cur, h1⟩ := own_typ ho g hg
 obtain ⟨es, c, h2⟩ := h.obj
 rw [e2, h2] at h1
 cases h1
theorem mapZ_ne_blk {W : World} {b n : Nat} {m : Int → Bool} (h : SetZ W b n m) {g t : Nat} {cs : List Value} (ho : Blk W g t cs) : g ≠ b := by
 intro e2
 obtain ⟨es, c, h2⟩ := h.obj
 unfold Blk at ho
 rw [e2, h2] at ho
 cases ho
abbrev RowM (W : World) (B : Nat) (a : Option Addr) (c N : Nat) (p : Nat → Nat) : Prop := W.ownsRow B 79 1 (.slice a N c) N ((List.range N).map (fun r => Value.map (some (p r))))
/-- What stands behind each rule, and where it stands last: sets in two rows, each in a variable. -/
structure NbAt (W : World) (B hb lb N n : Nat) (ba : Option Addr) (bc : Nat) (la : Option Addr) (lc : Nat) (p q : Nat → Nat) (MB ML : Nat → Int → Bool) : Prop where
 hbx : Blk W hb 75 [.slice ba N bc]
 lbx : Blk W lb 75 [.slice la N lc]
 r1 : RowM W B ba bc N p
 r2 : RowM W B la lc N q
 s1 : ∀ r, r < N → SetZ W (p r) n (MB r)
 s2 : ∀ r, r < N → SetZ W (q r) n (ML r)
 inj1 : ∀ r s, r < N → s < N → p r = p s → r = s
 inj2 : ∀ r s, r < N → s < N → q r = q s → r = s
 ne : ∀ r s, r < N → s < N → p r ≠ q s
 lo : B ≤ hb ∧ B ≤ lb ∧ hb ≠ lb ∧ ∀ r, r < N → B ≤ p r ∧ B ≤ q r
 ap : ∀ g, (Value.slice ba N bc).ownBlock = some g → (Value.slice la N lc).ownBlock ≠ some g
section
variable {W W' : World} {B hb lb N n bc lc : Nat} {ba la : Option Addr} {p q : Nat → Nat} {MB ML : Nat → Int → Bool}
theorem NbAt.below (h : NbAt W B hb lb N n ba bc la lc p q MB ML) (hb2 : Below W.heap.size W W') : NbAt W' B hb lb N n ba bc la lc p q MB ML where
 hbx := h.hbx.below hb2 h.hbx.lt
 lbx := h.lbx.below hb2 h.lbx.lt
 r1 := World.ownsRow.kept h.r1 (below_grownBy hb2 none) (by cases e : (Value.slice ba N bc).ownBlock <;> simp)
 r2 := World.ownsRow.kept h.r2 (below_grownBy hb2 none) (by cases e : (Value.slice la N lc).ownBlock <;> simp)
 s1 := fun r hr => (h.s1 r hr).kept (below_grownBy hb2 none) (by simp)
 s2 := fun r hr => (h.s2 r hr).kept (below_grownBy hb2 none) (by simp)
 inj1 := h.inj1
 inj2 := h.inj2
 ne := h.ne
 lo := h.lo
 ap := h.ap
/-- A set of the first row is turned. -/
theorem NbAt.turn1 (h : NbAt W B hb lb N n ba bc la lc p q MB ML) {r : Nat} (hr : r < N) {M : Int → Bool} (hs : SetZ W' (p r) (n + 1) M) (hg : W.grownBy W' (some (p r))) : NbAt W' B hb lb N (n + 1) ba bc la lc p q (fun s => if s = r then M else MB s) ML where
 hbx := h.hbx.kept hg (fun e => mapZ_ne_blk (h.s1 r hr) h.hbx (by injection e))
 lbx := h.lbx.kept hg (fun e => mapZ_ne_blk (h.s1 r hr) h.lbx (by injection e))
 r1 := World.ownsRow.kept h.r1 hg (.inr (fun e => map_ne_row (h.s1 r hr) h.r1 _ e rfl))
 r2 := World.ownsRow.kept h.r2 hg (.inr (fun e => map_ne_row (h.s1 r hr) h.r2 _ e rfl))
 s1 := fun s hs2 => by
  by_cases e : s = r
  ·subst e; rw [if_pos rfl]; exact hs
  ·rw [if_neg e]; exact ((h.s1 s hs2).kept hg (fun e2 => e (h.inj1 s r hs2 hr (by injection e2)))).mono (Nat.le_succ n)
 s2 := fun s hs2 => ((h.s2 s hs2).kept hg (fun e2 => h.ne r s hr hs2 (by injection e2 with e2; exact e2.symm))).mono (Nat.le_succ n)
 inj1 := h.inj1
 inj2 := h.inj2
 ne := h.ne
 lo := h.lo
 ap := h.ap
theorem NbAt.turn2 (h : NbAt W B hb lb N n ba bc la lc p q MB ML) {r : Nat} (hr : r < N) {M : Int → Bool} (hs : SetZ W' (q r) (n + 1) M) (hg : W.grownBy W' (some (q r))) : NbAt W' B hb lb N (n + 1) ba bc la lc p q MB (fun s => if s = r then M else ML s) where
 hbx := h.hbx.kept hg (fun e => mapZ_ne_blk (h.s2 r hr) h.hbx (by injection e))
 lbx := h.lbx.kept hg (fun e => mapZ_ne_blk (h.s2 r hr) h.lbx (by injection e))
 r1 := World.ownsRow.kept h.r1 hg (.inr (fun e => map_ne_row (h.s2 r hr) h.r1 _ e rfl))
 r2 := World.ownsRow.kept h.r2 hg (.inr (fun e => map_ne_row (h.s2 r hr) h.r2 _ e rfl))
 s1 := fun s hs2 => ((h.s1 s hs2).kept hg (fun e2 => h.ne s r hs2 hr (by injection e2))).mono (Nat.le_succ n)
 s2 := fun s hs2 => by
  by_cases e : s = r
  ·subst e; rw [if_pos rfl]; exact hs
  ·rw [if_neg e]; exact ((h.s2 s hs2).kept hg (fun e2 => e (h.inj2 s r hs2 hr (by injection e2)))).mono (Nat.le_succ n)
 inj1 := h.inj1
 inj2 := h.inj2
 ne := h.ne
 lo := h.lo
 ap := h.ap
theorem NbAt.congr {MB' ML' : Nat → Int → Bool} (h : NbAt W B hb lb N n ba bc la lc p q MB ML) (h1 : ∀ r x, MB r x = MB' r x) (h2 : ∀ r x, ML r x = ML' r x) : NbAt W B hb lb N n ba bc la lc p q MB' ML' := by
 obtain rfl : MB = MB' := funext fun r => funext (h1 r)
 obtain rfl : ML = ML' := funext fun r => funext (h2 r)
 exact h
theorem NbAt.mono (h : NbAt W B hb lb N n ba bc la lc p q MB ML) {n' : Nat} (hn : n ≤ n') : NbAt W B hb lb N n' ba bc la lc p q MB ML := { h with s1 := fun r hr => (h.s1 r hr).mono hn, s2 := fun r hr => (h.s2 r hr).mono hn }
end
theorem row_at {W : World} {B N c : Nat} {a : Option Addr} {p : Nat → Nat} (h : RowM W B a c N p) {r : Nat} (hr : r < N) : ∃ g, a = some ⟨g, 0, none⟩ ∧ W.cell? ⟨g, r, none⟩ = some (.map (some (p r))) := by
 rcases h.2 with ⟨e1, e0⟩ | ⟨g, cp, cur, e1, hb, hk, hnc, hcm, _⟩
 ·omega
 ·injection e1 with e1 e2 e3
  subst e1
  refine ⟨g, rfl, ?_⟩
  rw [World.ownsRow.cellAt h r (by rw [Nat.mul_one]; exact hr)]
  exact rng_cell _ _ hr
theorem row_le {W : World} {B N c : Nat} {a : Option Addr} {p : Nat → Nat} (h : RowM W B a c N p) : N ≤ c ∧ c ≤ 9223372036854775807 := by
 have := (own_vals h (by simp))
 exact ⟨by have := this.le; simpa using this, this.max⟩
/-- What growing leaves. -/
def GrwQ (W : World) (B hb lb N n : Nat) (ba : Option Addr) (bc : Nat) (la : Option Addr) (lc : Nat) (p q : Nat → Nat) (MB ML : Nat → Int → Bool) (f : Nat → Bool) (r i : Nat) (s : List Int) (e : Ending) (W' : World) : Prop :=
 e = .returned (.tuple #[]) ∧ NbAt W' B hb lb N (n + 1000) ba bc la lc p q (fun t y => MB t y || (decide (t = r) && decide (y ∈ ahd f s))) (fun t y => ML t y || (decide (t = r) && (emp f s && decide (y = (i : Int))))) ∧ Below B W W'
set_option maxRecDepth 100000 in
set_option maxHeartbeats 16000000 in
theorem grows_any (W0 W : World) (bb : Nat) (d : CfD) (na : Option Addr) (nc : Nat) (f : Nat → Bool) (hb lb n : Nat) (ba : Option Addr) (bc : Nat) (la : Option Addr) (lc : Nat) (p q : Nat → Nat) (MB ML : Nat → Int → Bool) (r i : Nat) (s : List Int) (sa : Option Addr) (sc : Nat)
 (hB : BgAt W0 bb d na nc f) (hf : FitC d) (hbl : Below W0.heap.size W0 W) (hN : NbAt W W0.heap.size hb lb d.alts.length n ba bc la lc p q MB ML) (hr : r < d.alts.length) (hi : i < d.alts.length) (hs : Ints W0 sa sc s) (hok : OkL d.toks.length d.alts.length s) (hsl : s.length ≤ 500) (hn : n ≤ 1000000000000) :
 Calls Try.prog 93 #[.int .i64 (r : Int), .int .i64 (i : Int), .slice sa s.length sc, .pointer (some ⟨bb, 0, none⟩), .pointer (some ⟨hb, 0, none⟩), .pointer (some ⟨lb, 0, none⟩)] W (GrwQ W W0.heap.size hb lb d.alts.length n ba bc la lc p q MB ML f r i s) := by
 have hBw := hB.below hbl
 have hr60 := hf.r
 have ht60 := hf.t
 have Hah := Lib.hid (ahead_any d.aa d.alts.length d.ac na d.alts.length nc f s sa sc W (hB.nul.grown hbl) (hs.grown hbl) (fun y hy => (hok y hy).1) (by omega))
 have hb1 := hBw.box
 have hbbs := hB.box.lt
 have Hint := Lib.hid (ints_ahd hs f)
 have hal := ahd_len (f := f) s
 have hall : (ahd f s).length ≤ sc ∧ sc ≤ 9223372036854775807 := ⟨by have := Hint.out.le; rwa [List.length_map] at this, hs.max⟩
 have Hfit : Hid (∀ y ∈ ahd f s, (Go.Lit.int .i64 y).wf = true) := Lib.hid (fun y hy => wf9 (by have := hok y (ahd_sub hy); omega))
 have Hfi : Hid ((Go.Lit.int .i64 (i : Int)).wf = true) := Lib.hid (wf9 (by omega))
 obtain ⟨Q, hQ⟩ : ∃ Q, Hid (GrwQ W W0.heap.size hb lb d.alts.length n ba bc la lc p q MB ML f r i s = Q) := ⟨_, Lib.hid rfl⟩
 rw [hQ.out]
 obtain ⟨AH, hAH⟩ : ∃ q, Hid (ahd f s = q) := ⟨_, Lib.hid rfl⟩
 obtain ⟨E, hE⟩ : ∃ q, Hid (emp f s = q) := ⟨_, Lib.hid rfl⟩
 have HQ : Hid (∀ e W', (e = .returned (.tuple #[]) ∧ NbAt W' W0.heap.size hb lb d.alts.length (n + 1000) ba bc la lc p q (fun t y => MB t y || (decide (t = r) && decide (y ∈ AH))) (fun t y => ML t y || (decide (t = r) && (E && decide (y = (i : Int))))) ∧ Below W0.heap.size W W') → Q e W') := Lib.hid (fun e W' h => by rw [← hQ.out]; unfold GrwQ; rw [hAH.out, hE.out]; exact h)
 rw [hAH.out] at Hint hal hall Hfit
 rw [hAH.out, hE.out] at Hah
 have HW0 := Lib.hid hbl
 have hbW := hbl.size
 have HN0 := Lib.hid hN
 obtain ⟨L, HL⟩ : ∃ q, Hid (d.alts.length = q) := ⟨_, Lib.hid rfl⟩
 obtain ⟨SL, HSL⟩ : ∃ q, Hid (s.length = q) := ⟨_, Lib.hid rfl⟩
 obtain ⟨AL, HAL⟩ : ∃ q, Hid (AH.length = q) := ⟨_, Lib.hid rfl⟩
 obtain ⟨daa, hdaa⟩ : ∃ q, Hid (d.aa = q) := ⟨_, Lib.hid rfl⟩
 obtain ⟨dac, hdac⟩ : ∃ q, Hid (d.ac = q) := ⟨_, Lib.hid rfl⟩
 obtain ⟨base, hbase⟩ : ∃ q, Hid (W0.heap.size = q) := ⟨_, Lib.hid rfl⟩
 rw [HL.out, hdaa.out, hdac.out] at hb1 Hah
 rw [HL.out] at hr hi hr60 HN0 HQ
 rw [HSL.out, HAL.out] at Hah
 rw [HAL.out] at hal hall
 rw [HSL.out] at hal hsl ⊢
 rw [hbase.out] at HN0 HQ hbbs HW0 hbW
 have x0 := hb1.cell 0
 have x1 := hb1.cell 1
 have xl := hb1.lt
 simp only [List.getElem?_cons_zero, List.getElem?_cons_succ] at x0 x1
 have hrI : (r : Int) < (L : Int) := by omega
 have hrI0 : (0 : Int) ≤ (r : Int) := by omega
 clear hB hBw hb1 hs hok hf hN hbl hQ
 go_enter Try.func93, Try.ntmps93
 go_wp2_with (fail)
 refine Hah.out.mono ?_
 rintro e w2 ⟨rfl, hb2⟩
 have HN2 := Lib.hid (HN0.out.below hb2)
 have Hb2 : Hid (Below base W w2) := Lib.hid (hb2.mono hbW)
 clear hb2 x0 x1 xl HN0 Hah
 go_wp2_with (fail)
 go_loopw [21] (fun iv wr => ∃ k : Nat, k ≤ AL ∧ iv = .int .i64 (k : Int) ∧ Hid (NbAt wr base hb lb L (n + k) ba bc la lc p q (fun t y => MB t y || (decide (t = r) && decide (y ∈ AH.take k))) ML) ∧ Below base W wr) (fun iv _ => AL - (RowKit.intOf iv).toNat)
 case atStart => exact ⟨0, Nat.zero_le _, rfl, Lib.hid (HN2.out.congr (fun t y => by simp) (fun t y => rfl)), Hb2.out⟩
 case round =>
  clear HN2 Hb2
  obtain ⟨k, hk, rfl, HN, hbr⟩ := hrel
  obtain ⟨U, rfl⟩ : ∃ U, U = wr := ⟨_, rfl⟩
  by_cases hlt : k < AL
  ·have hkI : (k : Int) < (AL : Int) := by omega
   have hkI0 : (0 : Int) ≤ (k : Int) := by omega
   have hkl : k < AH.length := by rw [HAL.out]; exact hlt
   have hb0 : Below base W0 U := HW0.out.trans hbr
   have hrow := Hint.out.grown (by rw [hbase.out]; exact hb0)
   have htk : Hid (AH.take (k + 1) = AH.take k ++ [AH[k]]) := Lib.hid (by rw [List.take_add_one, List.getElem?_eq_getElem hkl]; rfl)
   have hwf := Hfit.out _ (List.getElem_mem hkl)
   obtain ⟨b, bo, hb⟩ := hrow.at_ k (by rw [List.length_map]; exact hkl)
   have cb := hrow.cell b bo hb k (by rw [List.length_map]; exact hkl)
   rw [List.getElem_map] at cb
   obtain ⟨y, hy⟩ : ∃ v, Hid (AH[k] = v) := ⟨_, Lib.hid rfl⟩
   rw [hy.out] at cb htk hwf
   have hblb := World.block_lt_of_cell? _ _ cb
   have h0 := HN.out.hbx.cell 0
   have h0l := HN.out.hbx.lt
   simp only [List.getElem?_cons_zero] at h0
   obtain ⟨g1, hg1, hc1⟩ := row_at HN.out.r1 hr
   have hc1l := World.block_lt_of_cell? _ _ hc1
   have hle := row_le HN.out.r1
   have Hadd := Lib.hid (zAdd_any U (p r) (n + k) _ y (HN.out.s1 r hr) hwf (by unfold maxLen; omega))
   have hplo := (HN.out.lo.2.2.2 r hr).1
   obtain ⟨pr, hpr⟩ : ∃ q, Hid (p r = q) := ⟨_, Lib.hid rfl⟩
   rw [hpr.out] at hc1 Hadd
   have Hplo := Lib.hid hplo
   have Hbr := Lib.hid hbr
   subst hg1
   subst hb
   clear hrow hb0 hplo hbr
   obtain ⟨Z, hZ⟩ : ∃ q, Hid ((!(MB r y || (decide (r = r) && decide (y ∈ AH.take k)))) = q) := ⟨_, Lib.hid rfl⟩
   have Hadd2 : Hid (Calls Try.prog 61 #[.map (some pr), .int .i64 y] U fun e W' => e = .returned (.bool Z) ∧ SetZ W' pr (n + k + 1) (fun t => decide (t = y) || (MB r t || (decide (r = r) && decide (t ∈ AH.take k)))) ∧ U.grownBy W' (some pr)) := Lib.hid (by rw [← hZ.out]; exact Hadd.out)
   clear Hadd
   go_wp2_with (fail)
   refine Hadd2.out.mono ?_
   rintro e w5 ⟨rfl, hs5, hg5⟩
   have HN5 : Hid (NbAt w5 base hb lb L (n + (k + 1)) (some ⟨g1, 0, none⟩) bc la lc p q (fun t y => MB t y || (decide (t = r) && decide (y ∈ AH.take (k + 1)))) ML) := Lib.hid ((HN.out.turn1 hr (by rw [hpr.out]; exact hs5) (by rw [hpr.out]; exact hg5)).congr (fun t z => by
    rw [htk.out]
    by_cases e : t = r
    ·subst e
     rw [if_pos rfl]
     by_cases e2 : z = y
     ·subst e2; simp
     ·simp [e2]
    ·rw [if_neg e]; simp [e]) (fun t z => rfl))
   have Hb5 := Lib.hid (Hbr.out.trans (belowAt hg5 (B := base) (fun i e => by injection e with e; have := Hplo.out; rw [hpr.out] at this; omega) (Nat.le_trans hbW Hbr.out.size)))
   clear hs5 hg5 h0 h0l hc1 hc1l cb hblb
   go_wp2_with (fail)
   exact ⟨⟨k + 1, by omega, by go_num, HN5, Hb5.out⟩, by simp [RowKit.intOf]; omega⟩
  ·have hke : k = AL := by omega
   have hkI : ¬ (k : Int) < (AL : Int) := by omega
   rw [hke, List.take_of_length_le (by rw [HAL.out]; exact Nat.le_refl _)] at HN
   clear hke
   cases E
   case false =>
    have Hfin : Hid (Q (.returned (.tuple #[])) U) := Lib.hid (HQ.out _ _ ⟨rfl, (HN.out.mono (by omega)).congr (fun t y => rfl) (fun t y => by simp), hbr⟩)
    clear hbr
    go_wp2_with (fail)
    first | exact Hfin.out | exact bodyPost_end (v := .tuple #[]) (by simp [results, Try.results93, go_sem]; try rfl) rfl Hfin.out
   case true =>
    have h0 := HN.out.lbx.cell 0
    have h0l := HN.out.lbx.lt
    simp only [List.getElem?_cons_zero] at h0
    obtain ⟨g1, hg1, hc1⟩ := row_at HN.out.r2 hr
    have hc1l := World.block_lt_of_cell? _ _ hc1
    have hle := row_le HN.out.r2
    have Hadd := Lib.hid (zAdd_any U (q r) (n + AL) _ (i : Int) (HN.out.s2 r hr) Hfi.out (by unfold maxLen; omega))
    have hplo := (HN.out.lo.2.2.2 r hr).2
    obtain ⟨pr, hpr⟩ : ∃ x, Hid (q r = x) := ⟨_, Lib.hid rfl⟩
    rw [hpr.out] at hc1 Hadd
    obtain ⟨Z, hZ⟩ : ∃ x, Hid ((!(ML r (i : Int))) = x) := ⟨_, Lib.hid rfl⟩
    rw [hZ.out] at Hadd
    have Hplo := Lib.hid hplo
    have Hbr := Lib.hid hbr
    subst hg1
    clear hplo hbr
    go_wp2_with (fail)
    refine Hadd.out.mono ?_
    rintro e w5 ⟨rfl, hs5, hg5⟩
    have HN5 : Hid (NbAt w5 base hb lb L (n + 1000) ba bc (some ⟨g1, 0, none⟩) lc p q (fun t y => MB t y || (decide (t = r) && decide (y ∈ AH))) (fun t y => ML t y || (decide (t = r) && (true && decide (y = (i : Int)))))) := Lib.hid (((HN.out.turn2 hr (by rw [hpr.out]; exact hs5) (by rw [hpr.out]; exact hg5)).mono (by omega)).congr (fun t z => rfl) (fun t z => by
     by_cases e : t = r
     ·subst e
      rw [if_pos rfl]
      cases ML t z <;> simp
     ·rw [if_neg e]; simp [e]))
    have Hb5 := Lib.hid (Hbr.out.trans (belowAt hg5 (B := base) (fun i e => by injection e with e; have := Hplo.out; rw [hpr.out] at this; omega) (Nat.le_trans hbW Hbr.out.size)))
    have Hfin : Hid (Q (.returned (.tuple #[])) w5) := Lib.hid (HQ.out _ _ ⟨rfl, HN5.out, Hb5.out⟩)
    clear hs5 hg5 h0 h0l hc1 hc1l
    go_wp2_with (fail)
    first | exact Hfin.out | exact bodyPost_end (v := .tuple #[]) (by simp [results, Try.results93, go_sem]; try rfl) rfl Hfin.out
end Go.Proofs.Ytldmgifphkpdlaa
namespace Go.Proofs.Ytldmgifphkpdlaa
open Go.RowKit Go.Maps
section
variable {P : Program} {ops : Array Oper} {Q : Exit → Act → World → Prop} {md : Region.Mode} {S : World → Prop} {z : Nat}
/-- In whatever order; S holds till operation z is on the list. -/
def wpTill (P : Program) (md : Region.Mode) (ops : Array Oper) (Q : Exit → Act → World → Prop) (z : Nat) (S : World → Prop) : Nat → Array Bool → Act → World → Prop
 | 0, L, a, w => Region.ready md ops L = [] ∧ Q .normal a w
 | n + 1, L, a, w => (Region.ready md ops L = [] → Q .normal a w) ∧ ∀ i ∈ Region.ready md ops L, wpOp P ops Q i (fun b u => ((L.setIfInBounds i true).getD z true = false → S u) ∧ wpTill P md ops Q z S n (L.setIfInBounds i true) b u) a w
theorem any_of_till : ∀ (n : Nat) (L : Array Bool) (a : Act) (w : World), wpTill P md ops Q z S n L a w → wpAny P md ops Q n L a w
 | 0, _, _, _, h => h
 | n + 1, _, _, _, h => ⟨h.1, fun i hi => wpOp_mono (fun b u k => any_of_till n _ b u k.2) (h.2 i hi)⟩
/-- A load that z waits for is taken ahead of all that is apart from it. -/
theorem till_first {i y : Nat} {oi : Oper} {v : Value} (hi : ops[i]? = some oi) (hs : Region.noSelect ops = true) (hQ : ∀ c a w, Q (.panic c) (a.put oi.dst v) w → Q (.panic c) a w)
 (hiz : i ≠ z) (hy0 : ∀ oy, ops[y]? = some oy → ∃ e ∈ oy.after, Region.binds md e = true ∧ e.on = i) (hzy : y = z ∨ ∀ oz, ops[z]? = some oz → ∃ e ∈ oz.after, Region.binds md e = true ∧ e.on = y) (hysz : y < ops.size) :
 ∀ (n : Nat) (L : Array Bool) (a : Act) (w : World), (∀ j oj, ops[j]? = some oj → j ≠ i → L.getD j true = false → (∀ e ∈ oj.after, Region.binds md e = true → e.on ≠ i) → oi.apart ops oj = true) →
  i ∈ Region.ready md ops L → L.getD z true = false → L.getD y true = false → YieldsIf P ops S oi v a → S w → wpTill P md ops Q z S n (L.setIfInBounds i true) (a.put oi.dst v) w → wpTill P md ops Q z S (n + 1) L a w := by
 intro n
 induction n with
 | zero =>
  intro L a w _ hr _ _ hy hS hH
  refine ⟨fun h0 => absurd hr (by rw [h0]; exact List.not_mem_nil), fun j hj => ?_⟩
  by_cases e : j = i
  ·rw [e]
   exact hy.wpOp hi hS ⟨fun _ => hS, hH⟩
  ·have k := ready_mono hj e
   rw [hH.1] at k
   exact absurd k List.not_mem_nil
 | succ n ih =>
  intro L a w hfr hr hzL hyL hy hS hH
  refine ⟨fun h0 => absurd hr (by rw [h0]; exact List.not_mem_nil), fun j hj => ?_⟩
  by_cases e : j = i
  ·rw [e]
   exact hy.wpOp hi hS ⟨fun _ => hS, hH⟩
  have hun := (mem_ready.1 hr).1
  obtain ⟨hju, oj, hoj, hal⟩ := mem_ready.1 hj
  have hset : ∀ {m : Nat}, L.getD m true = false → ∀ q ∈ oj.after, Region.binds md q = true → q.on ≠ m := by
   intro m hm q hq hb hqi
   have k := hal q hq hb
   rw [hqi] at k
   by_cases hlt : m < L.size
   ·simp [hlt] at k hm
    rw [k] at hm
    cases hm
   ·simp [hlt] at k
  have hwait := hset hun
  have hjy : j ≠ y := by
   intro hjy
   obtain ⟨q, hq, hb, hqi⟩ := hy0 oj (by rw [← hjy]; exact hoj)
   exact hwait q hq hb hqi
  have hjz : j ≠ z := by
   intro hjz
   rcases hzy with e2 | hzy
   ·exact hjy (hjz.trans e2.symm)
   ·obtain ⟨q, hq, hb, hqi⟩ := hzy oj (by rw [← hjz]; exact hoj)
    exact hset hyL q hq hb hqi
  have step := wpOp_putIf hoj (hfr j oj hoj e hju hwait) (fun cs b => Region.noSelect_spec hs i oi cs b hi) (fun cs b => Region.noSelect_spec hs j oj cs b hoj) hQ hy (hH.2 j (ready_mono hj e))
  refine wpOp_mono (fun b u k => ?_) step
  obtain ⟨k1, k2, k3⟩ := k
  have hu : S u := k2 (by rw [getD_set_ne true hjz, getD_set_ne true hiz]; exact hzL)
  refine ⟨fun _ => hu, ih _ b u (fun q oq hoq hqi hqu hqw => ?_) (ready_mono hr (Ne.symm e)) (by rw [getD_set_ne true hjz]; exact hzL) (by rw [getD_set_ne true hjy]; exact hyL) k1 hu (by rw [Array.setIfInBounds_comm _ _ e]; exact k3)⟩
  refine hfr q oq hoq hqi ?_ hqw
  by_cases hjq : j = q
  ·rw [← hjq]; exact hju
  ·rwa [getD_set_ne true hjq] at hqu
/-- Whether one operation waits for another. -/
def waitsFor (md : Region.Mode) (ops : Array Oper) (z i : Nat) : Bool := (ops[z]?).any (fun o => o.after.any (fun e => Region.binds md e && e.on == i))
theorem waits_spec {z i : Nat} (h : waitsFor md ops z i = true) : ∀ oz, ops[z]? = some oz → ∃ e ∈ oz.after, Region.binds md e = true ∧ e.on = i := by
 intro oz hoz
 unfold waitsFor at h
 rw [hoz] at h
 obtain ⟨k, hk, h2⟩ := Array.any_eq_true.1 (show oz.after.any (fun e => Region.binds md e && e.on == i) = true from h)
 rw [Bool.and_eq_true, beq_iff_eq] at h2
 exact ⟨_, Array.getElem_mem hk, h2⟩
theorem till_take {i : Nat} (y : Nat) {oi : Oper} {v : Value} {n : Nat} {L : Array Bool} {a : Act} {w : World} (hi : ops[i]? = some oi) (hs : Region.noSelect ops = true) (hf : Region.free md ops L i = true) (hr : (Region.ready md ops L).contains i = true)
 (hQ : ∀ c a w, Q (.panic c) (a.put oi.dst v) w → Q (.panic c) a w) (hiz : i ≠ z) (hy0 : waitsFor md ops y i = true) (hzy : (y == z || waitsFor md ops z y) = true) (hysz : y < ops.size) (hzL : L.getD z true = false) (hyL : L.getD y true = false)
 (hy : YieldsIf P ops S oi v a) (hS : S w) (h : wpTill P md ops Q z S n (L.setIfInBounds i true) (a.put oi.dst v) w) : wpTill P md ops Q z S (n + 1) L a w :=
 till_first (y := y) hi hs hQ hiz (waits_spec hy0) (by
  rw [Bool.or_eq_true, beq_iff_eq] at hzy
  exact hzy.imp id waits_spec) hysz n L a w (fun j oj hoj hji hju hno => Region.free_spec hi hf j oj hoj hji hju hno) (by simpa using hr) hzL hyL hy hS h
/-- Each of those that may come up. -/
def TillAll (P : Program) (md : Region.Mode) (ops : Array Oper) (Q : Exit → Act → World → Prop) (z : Nat) (S : World → Prop) (n : Nat) (L : Array Bool) (a : Act) (w : World) (rs : List Nat) : Prop :=
 ∀ i ∈ rs, wpOp P ops Q i (fun b u => ((L.setIfInBounds i true).getD z true = false → S u) ∧ wpTill P md ops Q z S n (L.setIfInBounds i true) b u) a w
theorem TillAll.nil {n : Nat} {L : Array Bool} {a : Act} {w : World} : TillAll P md ops Q z S n L a w [] := fun i h => absurd h List.not_mem_nil
theorem TillAll.cons {n : Nat} {L : Array Bool} {a : Act} {w : World} {i : Nat} {o : Oper} {rs : List Nat} (ho : ops[i]? = some o)
 (h : ∀ K : Act → World → Prop, Shut (∀ b u, ((L.setIfInBounds i true).getD z true = false → S u) → wpTill P md ops Q z S n (L.setIfInBounds i true) b u → K b u) → if Region.wanted o (yielded ops a.tmps) = true then Oper.wp P o a w K Q else K (a.put o.dst undef) w)
 (hs : TillAll P md ops Q z S n L a w rs) : TillAll P md ops Q z S n L a w (i :: rs) := by
 intro j hj
 rcases List.mem_cons.1 hj with e | hj
 ·rw [e]
  exact wpOp_step ho (fun K hK => h K (fun b u h1 h2 => hK b u ⟨h1, h2⟩))
 ·exact hs j hj
theorem till_ready {rs : List Nat} {n : Nat} {L : Array Bool} {a : Act} {w : World} (hr : Region.ready md ops L = rs) (hne : rs ≠ []) (h : TillAll P md ops Q z S n L a w rs) : wpTill P md ops Q z S (n + 1) L a w :=
 ⟨fun h0 => absurd (hr.symm.trans h0) hne, fun i hi => h i (hr ▸ hi)⟩
theorem till_done {L : Array Bool} {a : Act} {w : World} (hr : Region.ready md ops L = []) (h : Q .normal a w) : ∀ n, wpTill P md ops Q z S n L a w
 | 0 => ⟨hr, h⟩
 | _ + 1 => ⟨fun _ => h, fun i hi => absurd hi (by rw [hr]; exact List.not_mem_nil)⟩
theorem region_till {id : Nat} {a : Act} {w : World} (z : Nat) (S : World → Prop) (hm : P.follows .mixedOrders = true) (h : wpTill P .any ops Q z S ops.size (Array.replicate ops.size false) a w.drew) : (Code.region id ops true).wp P Q a w :=
 wp_region_any hm (any_of_till _ _ _ _ h)
end
end Go.Proofs.Ytldmgifphkpdlaa
namespace Go.Proofs.Ytldmgifphkpdlaa
open Go.RowKit Go.Maps
attribute [local go_sem] Oper.semAt_some
theorem info_gs : (Try.prog.info? 79).map (fun i => (i.zero, i.size, i.bytes)) = some (some (.map none), 1, 8) := by kernel_rfl
/-- Two variables that hold rows of sets, while both rows grow. -/
structure NbC (V W : World) (B F hb lb k : Nat) (hv lv : Value) (a1 : Option Addr) (n1 c1 : Nat) (l1 : List Value) (a2 : Option Addr) (n2 c2 : Nat) (l2 : List Value) (p q : Nat → Nat) : Prop where
 hbx : Blk W hb 75 [hv]
 lbx : Blk W lb 75 [lv]
 r1 : W.ownsRow B 79 1 (.slice a1 n1 c1) n1 l1
 r2 : W.ownsRow B 79 1 (.slice a2 n2 c2) n2 l2
 s1 : ∀ r, r < k → SetZ W (p r) 0 (fun _ => false)
 s2 : ∀ r, r < k → SetZ W (q r) 0 (fun _ => false)
 ap : ∀ g, (Value.slice a1 n1 c1).ownBlock = some g → (Value.slice a2 n2 c2).ownBlock ≠ some g
 bel : Below B V W
 hf : F ≤ W.heap.size
section
variable {V W : World} {B F hb lb k : Nat} {hv lv : Value} {a1 : Option Addr} {n1 c1 : Nat} {l1 : List Value} {a2 : Option Addr} {n2 c2 : Nat} {l2 : List Value} {p q : Nat → Nat}
theorem NbC.alloc (h : NbC V W B F hb lb k hv lv a1 n1 c1 l1 a2 n2 c2 l2 p q) (hBF : B ≤ F) (o : Obj) : NbC V (W.alloc o) B F hb lb k hv lv a1 n1 c1 l1 a2 n2 c2 l2 p q where
 hbx := h.hbx.alloc o
 lbx := h.lbx.alloc o
 r1 := World.ownsRow.alloc h.r1 o
 r2 := World.ownsRow.alloc h.r2 o
 s1 := fun r hr => (h.s1 r hr).kept (World.grownBy_alloc W o none) (by simp)
 s2 := fun r hr => (h.s2 r hr).kept (World.grownBy_alloc W o none) (by simp)
 ap := h.ap
 bel := h.bel.alloc (Nat.le_trans hBF h.hf) o
 hf := by have := h.hf; simp; omega
theorem NbC.drew (h : NbC V W B F hb lb k hv lv a1 n1 c1 l1 a2 n2 c2 l2 p q) : NbC V W.drew B F hb lb k hv lv a1 n1 c1 l1 a2 n2 c2 l2 p q := ⟨h.hbx, h.lbx, h.r1, h.r2, h.s1, h.s2, h.ap, h.bel.drew, h.hf⟩
theorem NbC.app1 (h : NbC V W B F hb lb k hv lv a1 n1 c1 l1 a2 n2 c2 l2 p q) (hBF : B ≤ F) (m s : Nat) (hs : Blk W s 79 [.map (some m)]) (hn : n1 ≤ 1000) :
 ∃ a' c' W', (Builtin.append_ #[75, 75] 75 #[.slice a1 n1 c1, .slice (some ⟨s, 0, none⟩) 1 1]).run Try.prog W = .ok (.slice a' (n1 + 1) c') W' ∧ NbC V W' B F hb lb k hv lv a' (n1 + 1) c' (l1 ++ [.map (some m)]) a2 n2 c2 l2 p q ∧ W.grownBy W' (Value.slice a1 n1 c1).ownBlock := by
 obtain ⟨i0, hi, hz0, hz1, hz2⟩ := info_parts info_gs
 have hnew : ∀ j u, [(.map (some m) : Value)][j]? = some u → W.cell? ((⟨s, 0, none⟩ : Addr).add j) = some u := by
  intro j u hj
  cases j with
  | zero =>
   have h1 := hs.cell 0
   simp at hj
   subst hj
   rw [show (⟨s, 0, none⟩ : Addr).add 0 = ⟨s, 0, none⟩ from by simp [Addr.add]]
   simpa using h1
  | succ j => simp at hj
 obtain ⟨v', w', hrun, ho, hg, _, hw⟩ := run_append_own_at (P := Try.prog) (w := W) B 75 75 79 i0 _ 1 8 Try.underlying75 hi hz0 hz1 hz2 rfl (by decide) _ _ _ h.r1 ⟨s, 0, none⟩ 1 1 [.map (some m)] rfl hnew (fun u hu => by
  simp only [List.mem_cons, List.not_mem_nil, or_false] at hu
  subst hu
  rfl) (by unfold maxLen; omega) (by omega) (Nat.le_trans hBF h.hf)
 obtain ⟨a', cap', rfl⟩ := slice_of_own ho
 refine ⟨a', cap', w', hrun, ⟨h.hbx.kept hg (fun e => own_ne_ty h.r1 h.hbx (by decide) e.symm), h.lbx.kept hg (fun e => own_ne_ty h.r1 h.lbx (by decide) e.symm), ho, World.ownsRow.kept h.r2 hg ?_, fun r hr => (h.s1 r hr).kept hg (fun e => map_ne_row (h.s1 r hr) h.r1 _ e.symm rfl), fun r hr => (h.s2 r hr).kept hg (fun e => map_ne_row (h.s2 r hr) h.r1 _ e.symm rfl), fun g e e2 => ?_, h.bel.trans (belowAt hg (fun g e => (own_typ h.r1 g e).1) (Nat.le_trans hBF h.hf)), Nat.le_trans h.hf hg.size⟩, hg⟩
 ·cases e : (Value.slice a2 n2 c2).ownBlock with
  | none => exact .inl rfl
  | some g => exact .inr (fun e2 => h.ap g e2.symm e)
 ·rcases hw with hw | hw
  ·exact h.ap g (by rw [← hw]; exact e) e2
  ·rw [hw] at e
   have h1 := (World.ownsRow.lt h.r2 g e2).2
   have := Option.some.inj e
   omega
theorem NbC.app2 (h : NbC V W B F hb lb k hv lv a1 n1 c1 l1 a2 n2 c2 l2 p q) (hBF : B ≤ F) (m s : Nat) (hs : Blk W s 79 [.map (some m)]) (hn : n2 ≤ 1000) :
 ∃ a' c' W', (Builtin.append_ #[75, 75] 75 #[.slice a2 n2 c2, .slice (some ⟨s, 0, none⟩) 1 1]).run Try.prog W = .ok (.slice a' (n2 + 1) c') W' ∧ NbC V W' B F hb lb k hv lv a1 n1 c1 l1 a' (n2 + 1) c' (l2 ++ [.map (some m)]) p q ∧ W.grownBy W' (Value.slice a2 n2 c2).ownBlock := by
 obtain ⟨i0, hi, hz0, hz1, hz2⟩ := info_parts info_gs
 have hnew : ∀ j u, [(.map (some m) : Value)][j]? = some u → W.cell? ((⟨s, 0, none⟩ : Addr).add j) = some u := by
  intro j u hj
  cases j with
  | zero =>
   have h1 := hs.cell 0
   simp at hj
   subst hj
   rw [show (⟨s, 0, none⟩ : Addr).add 0 = ⟨s, 0, none⟩ from by simp [Addr.add]]
   simpa using h1
  | succ j => simp at hj
 obtain ⟨v', w', hrun, ho, hg, _, hw⟩ := run_append_own_at (P := Try.prog) (w := W) B 75 75 79 i0 _ 1 8 Try.underlying75 hi hz0 hz1 hz2 rfl (by decide) _ _ _ h.r2 ⟨s, 0, none⟩ 1 1 [.map (some m)] rfl hnew (fun u hu => by
  simp only [List.mem_cons, List.not_mem_nil, or_false] at hu
  subst hu
  rfl) (by unfold maxLen; omega) (by omega) (Nat.le_trans hBF h.hf)
 obtain ⟨a', cap', rfl⟩ := slice_of_own ho
 refine ⟨a', cap', w', hrun, ⟨h.hbx.kept hg (fun e => own_ne_ty h.r2 h.hbx (by decide) e.symm), h.lbx.kept hg (fun e => own_ne_ty h.r2 h.lbx (by decide) e.symm), World.ownsRow.kept h.r1 hg ?_, ho, fun r hr => (h.s1 r hr).kept hg (fun e => map_ne_row (h.s1 r hr) h.r2 _ e.symm rfl), fun r hr => (h.s2 r hr).kept hg (fun e => map_ne_row (h.s2 r hr) h.r2 _ e.symm rfl), fun g e e2 => ?_, h.bel.trans (belowAt hg (fun g e => (own_typ h.r2 g e).1) (Nat.le_trans hBF h.hf)), Nat.le_trans h.hf hg.size⟩, hg⟩
 ·cases e : (Value.slice a1 n1 c1).ownBlock with
  | none => exact .inl rfl
  | some g => exact .inr (fun e2 => h.ap g e e2.symm)
 ·rcases hw with hw | hw
  ·exact h.ap g e (by rw [← hw]; exact e2)
  ·rw [hw] at e2
   have h1 := (World.ownsRow.lt h.r1 g e).2
   have := Option.some.inj e2
   omega
end
theorem rng_snoc {α : Type} (k : Nat) (f : Nat → α) (v : α) : (List.range k).map f ++ [v] = (List.range (k + 1)).map (fun r => if r = k then v else f r) := by
 rw [List.range_succ, List.map_append]
 congr 1
 ·refine List.map_congr_left (fun r hr => ?_)
  rw [List.mem_range] at hr
  rw [if_neg (by omega)]
 ·simp
theorem NbC.fin {V W : World} {B F hb lb k : Nat} {hv lv : Value} {a1 : Option Addr} {c1 : Nat} {a2 : Option Addr} {c2 : Nat} {p q : Nat → Nat} {m1 m2 : Nat}
 (h : NbC V W B F hb lb k hv lv a1 (k + 1) c1 ((List.range k).map (fun r => .map (some (p r))) ++ [.map (some m1)]) a2 (k + 1) c2 ((List.range k).map (fun r => .map (some (q r))) ++ [.map (some m2)]) p q) (h1 : SetZ W m1 0 (fun _ => false)) (h2 : SetZ W m2 0 (fun _ => false)) (hne : m1 ≠ m2) (hF1 : F ≤ m1) (hF2 : F ≤ m2)
 (hp : ∀ r, r < k → p r < F ∧ q r < F ∧ B ≤ p r ∧ B ≤ q r) (inj1 : ∀ r s, r < k → s < k → p r = p s → r = s) (inj2 : ∀ r s, r < k → s < k → q r = q s → r = s) (ne : ∀ r s, r < k → s < k → p r ≠ q s) (hlo : B ≤ hb ∧ B ≤ lb ∧ hb ≠ lb) (hBF : B ≤ F) :
 NbAt ((W.setCell ⟨hb, 0, none⟩ (.slice a1 (k + 1) c1)).setCell ⟨lb, 0, none⟩ (.slice a2 (k + 1) c2)) B hb lb (k + 1) 0 a1 c1 a2 c2 (fun r => if r = k then m1 else p r) (fun r => if r = k then m2 else q r) (fun _ _ => false) (fun _ _ => false) ∧ Below B V ((W.setCell ⟨hb, 0, none⟩ (.slice a1 (k + 1) c1)).setCell ⟨lb, 0, none⟩ (.slice a2 (k + 1) c2)) := by
 have g1 := set_grown h.hbx 0 (.slice a1 (k + 1) c1)
 have b1 := h.lbx.setOther (j := 0) (fun e => hlo.2.2 e.symm) (.slice a1 (k + 1) c1)
 have g2 := set_grown b1 0 (.slice a2 (k + 1) c2)
 have o1 := h.r1
 have o2 := h.r2
 have ko : ∀ {a : Option Addr} {n c : Nat} {l : List Value}, W.ownsRow B 79 1 (.slice a n c) n l → ((W.setCell ⟨hb, 0, none⟩ (.slice a1 (k + 1) c1)).setCell ⟨lb, 0, none⟩ (.slice a2 (k + 1) c2)).ownsRow B 79 1 (.slice a n c) n l := fun {a n c l} ho => by
  have h3 := World.ownsRow.kept ho g1 (.inr (fun e => own_ne_ty ho h.hbx (by decide) e))
  exact World.ownsRow.kept h3 g2 (.inr (fun e => own_ne_ty ho h.lbx (by decide) e))
 have km : ∀ {m : Nat}, SetZ W m 0 (fun _ => false) → SetZ ((W.setCell ⟨hb, 0, none⟩ (.slice a1 (k + 1) c1)).setCell ⟨lb, 0, none⟩ (.slice a2 (k + 1) c2)) m 0 (fun _ => false) := fun {m} hs =>
  (hs.kept g1 (fun e => mapZ_ne_blk hs h.hbx (by injection e with e; exact e.symm))).kept g2 (fun e => mapZ_ne_blk hs h.lbx (by injection e with e; exact e.symm))
 rw [rng_snoc] at o1 o2
 have e1 : (fun r => if r = k then Value.map (some m1) else Value.map (some (p r))) = fun r => Value.map (some (if r = k then m1 else p r)) := funext fun r => by split <;> rfl
 have e2 : (fun r => if r = k then Value.map (some m2) else Value.map (some (q r))) = fun r => Value.map (some (if r = k then m2 else q r)) := funext fun r => by split <;> rfl
 rw [e1] at o1
 rw [e2] at o2
 refine ⟨⟨(h.hbx.set 0 _).setOther hlo.2.2 _, b1.set 0 _, ko o1, ko o2, fun r hr => ?_, fun r hr => ?_, fun r s hr hs e => ?_, fun r s hr hs e => ?_, fun r s hr hs e => ?_, ⟨hlo.1, hlo.2.1, hlo.2.2, fun r hr => ?_⟩, h.ap⟩, (h.bel.setCell (p := ⟨hb, 0, none⟩) hlo.1 _).setCell (p := ⟨lb, 0, none⟩) hlo.2.1 _⟩
 ·split
  ·exact km h1
  ·exact km (h.s1 r (by omega))
 ·split
  ·exact km h2
  ·exact km (h.s2 r (by omega))
 ·by_cases c : r = k <;> by_cases d : s = k
  ·omega
  ·rw [if_pos c, if_neg d] at e; have := hp s (by omega); omega
  ·rw [if_neg c, if_pos d] at e; have := hp r (by omega); omega
  ·rw [if_neg c, if_neg d] at e; exact inj1 r s (by omega) (by omega) e
 ·by_cases c : r = k <;> by_cases d : s = k
  ·omega
  ·rw [if_pos c, if_neg d] at e; have := hp s (by omega); omega
  ·rw [if_neg c, if_pos d] at e; have := hp r (by omega); omega
  ·rw [if_neg c, if_neg d] at e; exact inj2 r s (by omega) (by omega) e
 ·by_cases c : r = k <;> by_cases d : s = k
  ·rw [if_pos c, if_pos d] at e; exact hne e
  ·rw [if_pos c, if_neg d] at e; have := hp s (by omega); omega
  ·rw [if_neg c, if_pos d] at e; have := hp r (by omega); omega
  ·rw [if_neg c, if_neg d] at e; exact ne r s (by omega) (by omega) e
 ·have h5 := hp r
  constructor
  ·split
   ·omega
   ·exact (h5 (by omega)).2.2.1
  ·split
   ·omega
   ·exact (h5 (by omega)).2.2.2
end Go.Proofs.Ytldmgifphkpdlaa
