/- Texts joined: Jc Jd Oz Oc Od. -/
import Derived.Test.YtldmgifphkpdlaaRVAi
import Derived.Test.YtldmgifphkpdlaaRVAf
import Derived.BigQuiet
import Derived.Test.YtldmgifphkpdlaaRVAd
import Derived.Test.YtldmgifphkpdlaaRVAa
import Derived.Maps.AppendAt
set_option linter.unusedVariables false
set_option linter.unusedSimpArgs false
namespace Go.Proofs.Ytldmgifphkpdlaa
open Go.RowKit Go.Maps
attribute [local go_sem] Oper.semAt_some
/-- A row of truths. -/
abbrev BlsF (w : World) (a : Option Addr) (cap n : Nat) (f : Nat → Bool) : Prop := Vs w a cap ((List.range n).map (fun r => Value.bool (f r)))
/-- Numbers that are of so many tokens and rules. -/
def OkL (t n : Nat) (s : List Int) : Prop := ∀ x ∈ s, -(n : Int) ≤ x ∧ x < (t : Int)
theorem below_dN9 {B : Nat} {a b : World} (h : Below B a b) (n : Nat) : Below B a (b.drewN n) := by
 exact ⟨h.os, h.tape, h.output, h.size, h.block⟩
theorem range_at {α : Type} (n : Nat) (g : Nat → α) (r : Nat) (h : r < ((List.range n).map g).length) : ((List.range n).map g)[r] = g r := by simp
set_option maxRecDepth 100000 in
theorem ruleOf_any (x : Int) (w : World) (hx : -1000000000 ≤ x ∧ x < 0) : Calls Try.prog 89 #[.int .i64 x] w fun e w' => e = .returned (.int .i64 ((ruL x : Nat) : Int)) ∧ w' = w := by
 have e4 : IntKind.i64.wrap (-1 - x) = ((ruL x : Nat) : Int) := by
  rw [show (-1 : Int) - x = ((ruL x : Nat) : Int) by unfold ruL; omega]
  exact IntWalk.i64_in _ (by unfold ruL; omega)
 obtain ⟨k, hk⟩ : ∃ k, Hid (((ruL x : Nat) : Int) = k) := ⟨_, Lib.hid rfl⟩
 rw [hk.out] at e4 ⊢
 obtain ⟨h1, h2⟩ := hx
 go_enter Try.func89, Try.ntmps89
 go_wp2_with (fail)
 exact bodyPost_ret (v := .int .i64 k) (by simp [results, Try.results89, go_sem]; try first | rfl | assumption | omega) rfl ⟨rfl, rfl⟩
set_option maxRecDepth 100000 in
theorem numberOf_any (r : Nat) (w : World) (hr : r ≤ 1000000000) : Calls Try.prog 56 #[.int .i64 (r : Int)] w fun e w' => e = .returned (.int .i64 (-1 - (r : Int))) ∧ w' = w := by
 have e4 : IntKind.i64.wrap (-1 - (r : Int)) = -1 - (r : Int) := IntWalk.i64_in _ (by omega)
 obtain ⟨k, hk⟩ : ∃ k, Hid ((-1 - (r : Int)) = k) := ⟨_, Lib.hid rfl⟩
 rw [hk.out] at e4 ⊢
 go_enter Try.func56, Try.ntmps56
 go_wp2_with (fail)
 exact bodyPost_ret (v := .int .i64 k) (by simp [results, Try.results56, go_sem]; try first | rfl | assumption | omega) rfl ⟨rfl, rfl⟩
set_option maxRecDepth 100000 in
set_option maxHeartbeats 16000000 in
theorem areNs_any (d : CfD) (s : List Int) (a : Option Addr) (cap : Nat) (w : World) (hs : Ints w a cap s) (hok : OkL d.toks.length d.alts.length s) (hl : d.toks.length ≤ 1000000 ∧ d.alts.length ≤ 1000000 ∧ 0 < d.alts.length) :
 Calls Try.prog 70 #[d.v, .slice a s.length cap] w fun e w' => e = .returned (.bool true) ∧ Below w.heap.size w w' := by
 obtain ⟨xt, xta, xtc, xn, xna, xnc, xa, xaa, xac⟩ := d
 dsimp only [CfD.v] at *
 have hb1 : Below w.heap.size w (w.alloc (.cells #[.slice xta xt.length xtc, .slice xna xn.length xnc, .slice xaa xa.length xac] 25)) := (Below.refl _ w).alloc (Nat.le_refl _) _
 have hA := Blk.new w 25 #[.slice xta xt.length xtc, .slice xna xn.length xnc, .slice xaa xa.length xac]
 have hsm : s.length ≤ cap ∧ cap ≤ 9223372036854775807 := ⟨by have := hs.le; rwa [List.length_map] at this, hs.max⟩
 have Hs := Lib.hid (hs.grown hb1)
 have Hok := Lib.hid hok
 obtain ⟨T, HT⟩ : ∃ q, Hid (xt.length = q) := ⟨_, Lib.hid rfl⟩
 obtain ⟨N, HN⟩ : ∃ q, Hid (xa.length = q) := ⟨_, Lib.hid rfl⟩
 obtain ⟨M, HM⟩ : ∃ q, Hid (xn.length = q) := ⟨_, Lib.hid rfl⟩
 obtain ⟨L, HL⟩ : ∃ q, Hid (s.length = q) := ⟨_, Lib.hid rfl⟩
 rw [HT.out, HN.out, HM.out] at hA hb1 Hs ⊢
 rw [HT.out, HN.out] at Hok hl
 rw [HL.out] at hsm ⊢
 have Hb1 := Lib.hid hb1
 have x0 := hA.cell 0
 have x2 := hA.cell 2
 have xl := hA.lt
 simp only [List.getElem?_cons_zero, List.getElem?_cons_succ] at x0 x2
 obtain ⟨hl1, hl2, hl3⟩ := hl
 have hNw : IntKind.i64.wrap ((N : Int) - 1) = ((N - 1 : Nat) : Int) := by rw [show (N : Int) - 1 = ((N - 1 : Nat) : Int) by omega]; exact IntWalk.i64_in _ (by omega)
 have Hnum := Lib.hid (fun W => numberOf_any (N - 1) W (by omega))
 have hNm : (-1 - ((N - 1 : Nat) : Int)) = -(N : Int) := by omega
 rw [hNm] at Hnum
 obtain ⟨N1, hN1⟩ : ∃ q, Hid (N - 1 = q) := ⟨_, Lib.hid rfl⟩
 rw [hN1.out] at Hnum hNw
 clear hA hb1 hs hok hNm
 go_enter Try.func70, Try.ntmps70
 go_wp2_with (fail)
 generalize hV : World.alloc w _ = V at x0 x2 xl Hs Hb1 ⊢
 clear hV
 go_loopw [9] (fun iv wr => ∃ k : Nat, k ≤ L ∧ iv = .int .i64 (k : Int) ∧ wr = V) (fun iv _ => L - (RowKit.intOf iv).toNat)
 case atStart => exact ⟨0, Nat.zero_le _, rfl, rfl⟩
 case round =>
  obtain ⟨k, hk, rfl, hwr⟩ := hrel
  subst hwr
  by_cases hlt : k < L
  ·have hkI : (k : Int) < (L : Int) := by omega
   have hkI0 : (0 : Int) ≤ (k : Int) := by omega
   have hkl : k < s.length := by rw [HL.out]; exact hlt
   obtain ⟨b, bo, hb⟩ := Hs.out.at_ k (by rw [List.length_map]; exact hkl)
   have cb := Hs.out.cell b bo hb k (by rw [List.length_map]; exact hkl)
   rw [List.getElem_map] at cb
   have hm := Hok.out _ (List.getElem_mem hkl)
   obtain ⟨n, hn⟩ : ∃ v, Hid (s[k] = v) := ⟨_, Lib.hid rfl⟩
   rw [hn.out] at cb hm
   have hblb := World.block_lt_of_cell? _ _ cb
   obtain ⟨hm1, hm2⟩ := hm
   have h1 : ¬ n < -(N : Int) := by omega
   have h2 : ¬ n ≥ (T : Int) := by omega
   subst hb
   clear hm1 hm2
   go_wp2_with (fail)
   refine (Hnum.out _).mono ?_
   rintro e w2 ⟨rfl, rfl⟩
   go_wp2_with (fail)
   exact ⟨⟨k + 1, by omega, by go_num, by first | rfl | trivial⟩, by simp [RowKit.intOf]; omega⟩
  ·obtain rfl : k = L := by omega
   have hkI : ¬ (k : Int) < (k : Int) := by omega
   go_wp2_with (fail)
   exact bodyPost_ret (v := .bool true) (by simp [results, Try.results70, go_sem]; try first | rfl | assumption | omega) rfl ⟨rfl, Hb1.out⟩
set_option maxRecDepth 100000 in
set_option maxHeartbeats 16000000 in
theorem ahead_any (aa : Option Addr) (an ac : Nat) (na : Option Addr) (n nc : Nat) (f : Nat → Bool) (s : List Int) (a : Option Addr) (cap : Nat) (w : World) (hn : BlsF w na nc n f) (hs : Ints w a cap s) (hok : ∀ x ∈ s, -(n : Int) ≤ x) (hl : n ≤ 1000000) :
 Calls Try.prog 71 #[.agg #[.slice aa an ac, .slice na n nc], .slice a s.length cap] w fun e w' => e = .returned (.tuple #[.slice a (ahd f s).length cap, .bool (emp f s)]) ∧ Below w.heap.size w w' := by
 have hb1 : Below w.heap.size w (w.alloc (.cells #[.slice aa an ac, .slice na n nc] 68)) := (Below.refl _ w).alloc (Nat.le_refl _) _
 have hA := Blk.new w 68 #[.slice aa an ac, .slice na n nc]
 have hsm : s.length ≤ cap ∧ cap ≤ 9223372036854775807 := ⟨by have := hs.le; rwa [List.length_map] at this, hs.max⟩
 have hnm : n ≤ nc ∧ nc ≤ 9223372036854775807 := ⟨by have := hn.le; simpa using this, hn.max⟩
 have Hs := Lib.hid (hs.grown hb1)
 have Hn := Lib.hid (hn.grown hb1)
 have Hok := Lib.hid hok
 have HE : Hid (∀ k, k = s.length → emp f (s.take k) = true → ahd f s = s ∧ emp f s = true) := Lib.hid (fun k e h => by
  rw [e, List.take_length] at h
  exact ⟨ahd_emp h, h⟩)
 have HS : Hid (∀ k (h : k < s.length), emp f (s.take k) = true → (decide (s[k] < 0) && f (ruL s[k])) = false → (ahd f s).length = k + 1 ∧ emp f s = false) := Lib.hid (fun k h h1 h2 => by
  have e : s = s.take k ++ s[k] :: s.drop (k + 1) := by rw [← List.drop_eq_getElem_cons h, List.take_append_drop]
  refine ⟨?_, ?_⟩
  ·rw [e, ahd_stop h2 h1, List.length_append, List.length_take]; simp; omega
  ·rw [e, emp_app, emp_cons, h2]; simp)
 have HT : Hid (∀ k (h : k < s.length), emp f (s.take k) = true → (decide (s[k] < 0) && f (ruL s[k])) = true → emp f (s.take (k + 1)) = true) := Lib.hid (fun k h h1 h2 => by
  rw [List.take_add_one, List.getElem?_eq_getElem h, emp_app, h1]
  simpa [emp] using h2)
 obtain ⟨A, hA1⟩ : ∃ q, Hid ((ahd f s).length = q) := ⟨_, Lib.hid rfl⟩
 obtain ⟨E, hE1⟩ : ∃ q, Hid (emp f s = q) := ⟨_, Lib.hid rfl⟩
 rw [hA1.out, hE1.out] at HS
 rw [hA1.out, hE1.out]
 have HE2 : Hid (∀ k, k = s.length → emp f (s.take k) = true → A = s.length ∧ E = true) := Lib.hid (fun k e h => by
  obtain ⟨h1, h2⟩ := HE.out k e h
  exact ⟨by rw [← hA1.out, h1], by rw [← hE1.out, h2]⟩)
 clear HE
 obtain ⟨L, HL⟩ : ∃ q, Hid (s.length = q) := ⟨_, Lib.hid rfl⟩
 rw [HL.out] at hsm HE2 ⊢
 have Hb1 := Lib.hid hb1
 have HA := Lib.hid hA
 obtain ⟨bx, hbx⟩ : ∃ q, Hid (w.heap.size = q) := ⟨_, Lib.hid rfl⟩
 rw [hbx.out] at HA
 clear hA hb1 hs hn hok
 go_enter Try.func71, Try.ntmps71
 go_wp2_with (fail)
 rw [hbx.out]
 generalize hV : World.alloc w _ = V at HA Hs Hn Hb1 ⊢
 clear hV
 go_loopw [10] (fun iv wr => ∃ k : Nat, k ≤ L ∧ iv = .int .i64 (k : Int) ∧ Hid (emp f (s.take k) = true) ∧ Below V.heap.size V wr) (fun iv _ => L - (RowKit.intOf iv).toNat)
 case atStart => exact ⟨0, Nat.zero_le _, rfl, Lib.hid rfl, Below.refl _ V⟩
 case round =>
  obtain ⟨k, hk, rfl, HK, hbr⟩ := hrel
  obtain ⟨U, rfl⟩ : ∃ U, U = wr := ⟨_, rfl⟩
  have HsU := Lib.hid (Hs.out.grown hbr)
  have HnU := Lib.hid (Hn.out.grown hbr)
  have HAU := HA.out.below hbr HA.out.lt
  have x1 := HAU.cell 1
  have xl := HAU.lt
  simp only [List.getElem?_cons_zero, List.getElem?_cons_succ] at x1
  have Hbr := Lib.hid hbr
  have Hbw := Lib.hid (Hb1.out.trans (hbr.mono Hb1.out.size))
  clear HAU hbr
  by_cases hlt : k < L
  ·have hkI : (k : Int) < (L : Int) := by omega
   have hkI0 : (0 : Int) ≤ (k : Int) := by omega
   have hkl : k < s.length := by rw [HL.out]; exact hlt
   have hst := HS.out k hkl HK.out
   have htr := HT.out k hkl HK.out
   obtain ⟨b, bo, hb⟩ := HsU.out.at_ k (by rw [List.length_map]; exact hkl)
   have cb := HsU.out.cell b bo hb k (by rw [List.length_map]; exact hkl)
   rw [List.getElem_map] at cb
   have hm := Hok.out _ (List.getElem_mem hkl)
   obtain ⟨x, hx⟩ : ∃ v, Hid (s[k] = v) := ⟨_, Lib.hid rfl⟩
   rw [hx.out] at cb hm hst htr
   have hblb := World.block_lt_of_cell? _ _ cb
   subst hb
   by_cases h0 : x < 0
   ·have hnx : ¬ x ≥ 0 := by omega
    have hrn : ruL x < n := by unfold ruL; omega
    have hrn2 : ruL x < ((List.range n).map (fun r => Value.bool (f r))).length := by simpa using hrn
    obtain ⟨b2, o2, ha2⟩ := HnU.out.at_ (ruL x) hrn2
    have c2 := HnU.out.cell b2 o2 ha2 (ruL x) hrn2
    rw [range_at] at c2
    have hbl2 := World.block_lt_of_cell? _ _ c2
    subst ha2
    have Hru := Lib.hid (fun W => ruleOf_any x W (by omega))
    obtain ⟨r, hr⟩ : ∃ r, Hid (ruL x = r) := ⟨_, Lib.hid rfl⟩
    rw [hr.out] at hrn c2 Hru hst htr
    have hrI : (r : Int) < (n : Int) := by omega
    have hrI0 : (0 : Int) ≤ (r : Int) := by omega
    obtain ⟨fr, hfr⟩ : ∃ q, Hid (f r = q) := ⟨_, Lib.hid rfl⟩
    rw [hfr.out] at c2 hst htr
    rw [decide_eq_true h0, Bool.true_and] at hst htr
    clear hm hrn2
    cases fr
    case true =>
     have HK2 := Lib.hid (htr rfl)
     clear hst htr
     go_wp2_with (fail)
     go_quiet ((go_at_call 89; exact Calls.quiet_of_same (Hru.out _)))
     go_wp2_with (fail)
     exact ⟨⟨k + 1, by omega, by go_num, HK2, below_dN9 Hbr.out _⟩, by simp [RowKit.intOf]; omega⟩
    case false =>
     obtain ⟨e1, e2⟩ := hst rfl
     subst e1
     subst e2
     clear htr
     go_wp2_with (fail)
     go_quiet ((go_at_call 89; exact Calls.quiet_of_same (Hru.out _)))
     go_wp2_with (fail)
     exact bodyPost_ret (v := .tuple #[.slice (some ⟨b, bo, none⟩) (k + 1) cap, .bool false]) (by simp [results, Try.results71, go_sem]; try first | rfl | assumption | omega) rfl ⟨rfl, below_dN9 Hbw.out _⟩
   ·have hnx : x ≥ 0 := by omega
    obtain ⟨e1, e2⟩ := hst (by rw [decide_eq_false h0]; rfl)
    subst e1
    subst e2
    clear htr hm
    go_wp2_with (fail)
    go_quiet (fail)
    go_wp2_with (fail)
    exact bodyPost_ret (v := .tuple #[.slice (some ⟨b, bo, none⟩) (k + 1) cap, .bool false]) (by simp [results, Try.results71, go_sem]; try first | rfl | assumption | omega) rfl ⟨rfl, below_dN9 Hbw.out _⟩
  ·have hke : k = L := by omega
   have hkI : ¬ (k : Int) < (L : Int) := by omega
   obtain ⟨e1, e2⟩ := HE2.out k hke HK.out
   subst e1
   subst e2
   clear hke
   go_wp2_with (fail)
   exact bodyPost_ret (v := .tuple #[.slice a A cap, .bool true]) (by simp [results, Try.results71, go_sem]; try first | rfl | assumption | omega) rfl ⟨rfl, Hbw.out⟩
end Go.Proofs.Ytldmgifphkpdlaa
namespace Go.Proofs.Ytldmgifphkpdlaa
open Go.RowKit Go.Maps
attribute [local go_sem] Oper.semAt_some
/-- A grammar by numbers that has nothing more often than it may be. -/
structure FitC (d : CfD) : Prop where
 r0 : 0 < d.alts.length
 r : d.alts.length ≤ 60
 t : d.toks.length ≤ 60
 a : ∀ r ∈ d.alts, r.ds.length ≤ 30
 l : ∀ r ∈ d.alts, ∀ x ∈ r.ds, x.l.length ≤ 30 ∧ OkL d.toks.length d.alts.length x.l
set_option maxRecDepth 100000 in
set_option maxHeartbeats 16000000 in
theorem fits_any (d : CfD) (w : World) (hd : CfAt w d) (hf : FitC d) :
 Calls Try.prog 51 #[d.v] w fun e w' => e = .returned (.bool true) ∧ Below w.heap.size w w' := by
 obtain ⟨xt, xta, xtc, xn, xna, xnc, xa, xaa, xac⟩ := d
 obtain ⟨hx1, hx2, hx3, hx4⟩ := hd
 obtain ⟨hf1, hf2, hf3, hf4, hf5⟩ := hf
 dsimp only [CfD.v] at *
 have hb1 : Below w.heap.size w (w.alloc (.cells #[.slice xta xt.length xtc, .slice xna xn.length xnc, .slice xaa xa.length xac] 25)) := (Below.refl _ w).alloc (Nat.le_refl _) _
 have hA := Blk.new w 25 #[.slice xta xt.length xtc, .slice xna xn.length xnc, .slice xaa xa.length xac]
 have hxm : xa.length ≤ xac ∧ xac ≤ 9223372036854775807 := ⟨by have := hx3.le; rwa [List.length_map] at this, hx3.max⟩
 have htm : xt.length ≤ xtc ∧ xtc ≤ 9223372036854775807 := ⟨by have := hx1.le; rwa [List.length_map] at this, hx1.max⟩
 have Har := Lib.hid (fun (s : List Int) (a : Option Addr) (cap : Nat) (W : World) (hs : Ints W a cap s) (hok : OkL xt.length xa.length s) => areNs_any ⟨xt, xta, xtc, xn, xna, xnc, xa, xaa, xac⟩ s a cap W hs hok ⟨by dsimp only; omega, by dsimp only; omega, hf1⟩)
 dsimp only [CfD.v] at Har
 have HX3 := Lib.hid hx3
 have HX4 := Lib.hid hx4
 have HF4 := Lib.hid hf4
 have HF5 := Lib.hid hf5
 obtain ⟨T, HT⟩ : ∃ q, Hid (xt.length = q) := ⟨_, Lib.hid rfl⟩
 obtain ⟨N, HN⟩ : ∃ q, Hid (xn.length = q) := ⟨_, Lib.hid rfl⟩
 obtain ⟨L, HL⟩ : ∃ q, Hid (xa.length = q) := ⟨_, Lib.hid rfl⟩
 rw [HT.out, HN.out, HL.out] at hA hb1 Har ⊢
 rw [HT.out, HL.out] at HF5
 rw [HL.out] at hxm hf1 hf2
 rw [HT.out] at htm hf3
 have HA := Lib.hid hA
 have Hb1 := Lib.hid hb1
 obtain ⟨bx, hbx⟩ : ∃ q, Hid (w.heap.size = q) := ⟨_, Lib.hid rfl⟩
 rw [hbx.out] at HA
 have x0 := HA.out.cell 0
 have x2 := HA.out.cell 2
 have xl := HA.out.lt
 simp only [List.getElem?_cons_zero, List.getElem?_cons_succ] at x0 x2
 have hL0 : ((L : Int) == 0) = false := by rw [beq_eq_false_iff_ne]; omega
 have hL1 : ¬ (L : Int) > 60 := by omega
 have hT1 : ¬ (T : Int) > 60 := by omega
 clear hA hb1 hx1 hx2 hx3 hx4 hf4 hf5
 go_enter Try.func51, Try.ntmps51
 go_wp2_with (fail)
 rw [hbx.out]
 generalize hV : World.alloc w _ = V at HA x0 x2 xl Hb1 ⊢
 clear hV x0 x2 xl
 go_loopw [26] (fun iv wr => ∃ k : Nat, k ≤ L ∧ iv = .int .i64 (k : Int) ∧ Below V.heap.size V wr) (fun iv _ => L - (RowKit.intOf iv).toNat)
 case atStart => exact ⟨0, Nat.zero_le _, rfl, Below.refl _ V⟩
 case round =>
  obtain ⟨k, hk, rfl, hbr⟩ := hrel
  obtain ⟨U, rfl⟩ : ∃ U, U = wr := ⟨_, rfl⟩
  by_cases hlt : k < L
  ·have hkI : (k : Int) < (L : Int) := by omega
   have hkI0 : (0 : Int) ≤ (k : Int) := by omega
   have hkl : k < xa.length := by rw [HL.out]; exact hlt
   have Hbw := Lib.hid (Hb1.out.trans (hbr.mono Hb1.out.size))
   have hrow := HX3.out.grown Hbw.out
   obtain ⟨b, bo, hb⟩ := hrow.at_ k (by rw [List.length_map]; exact hkl)
   have cb := hrow.cell b bo hb k (by rw [List.length_map]; exact hkl)
   rw [List.getElem_map] at cb
   have hm : xa[k] ∈ xa := List.getElem_mem hkl
   obtain ⟨e, he⟩ : ∃ v, Hid (xa[k] = v) := ⟨_, Lib.hid rfl⟩
   rw [he.out] at cb hm
   have hblb := World.block_lt_of_cell? _ _ cb
   obtain ⟨ed, ea, ec⟩ := e
   change _ = some (Value.slice ea ed.length ec) at cb
   have hal : AltsI w ea ec ed := HX4.out _ hm
   have hdm : ed.length ≤ ec ∧ ec ≤ 9223372036854775807 := ⟨by have := hal.row.le; rwa [List.length_map] at this, hal.row.max⟩
   have hd30 : ed.length ≤ 30 := HF4.out _ hm
   have Hd5 := Lib.hid (HF5.out _ hm)
   dsimp only at Hd5
   have Hal := Lib.hid hal
   obtain ⟨M, hM⟩ : ∃ q, Hid (ed.length = q) := ⟨_, Lib.hid rfl⟩
   rw [hM.out] at cb hdm hd30
   have hM1 : ¬ (M : Int) > 30 := by omega
   subst hb
   clear hm hal hrow hd30
   go_wp2_with (fail)
   go_loopw [35] (fun jv wv => ∃ j : Nat, j ≤ M ∧ jv = .int .i64 (j : Int) ∧ Below V.heap.size V wv) (fun jv _ => M - (RowKit.intOf jv).toNat)
   case atStart => exact ⟨0, Nat.zero_le _, rfl, hbr⟩
   case round =>
    clear cb hblb hbr Hbw
    obtain ⟨j, hj, rfl, hbr⟩ := hrel
    obtain ⟨U2, rfl⟩ : ∃ U, U = wr := ⟨_, rfl⟩
    have Hbw := Lib.hid (Hb1.out.trans (hbr.mono Hb1.out.size))
    by_cases hltj : j < M
    ·have hjI : (j : Int) < (M : Int) := by omega
     have hjI0 : (0 : Int) ≤ (j : Int) := by omega
     have hjl : j < ed.length := by rw [hM.out]; exact hltj
     have hrow := Hal.out.row.grown Hbw.out
     obtain ⟨c, co, hc⟩ := hrow.at_ j (by rw [List.length_map]; exact hjl)
     have cc := hrow.cell c co hc j (by rw [List.length_map]; exact hjl)
     rw [List.getElem_map] at cc
     have hm : ed[j] ∈ ed := List.getElem_mem hjl
     obtain ⟨e, he⟩ : ∃ v, Hid (ed[j] = v) := ⟨_, Lib.hid rfl⟩
     rw [he.out] at cc hm
     have hblc := World.block_lt_of_cell? _ _ cc
     obtain ⟨el, ela, elc⟩ := e
     change _ = some (Value.slice ela el.length elc) at cc
     have hnd : Ints w ela elc el := Hal.out.nms _ hm
     have hem : el.length ≤ elc ∧ elc ≤ 9223372036854775807 := ⟨by have := hnd.le; rwa [List.length_map] at this, hnd.max⟩
     obtain ⟨h30, hok⟩ := Hd5.out _ hm
     dsimp only at h30 hok
     have Hc := Lib.hid (Har.out el ela elc U2 (hnd.grown Hbw.out) hok)
     have HAU := HA.out.below hbr HA.out.lt
     have x0 := HAU.cell 0
     have x1 := HAU.cell 1
     have x2 := HAU.cell 2
     have xl := HAU.lt
     simp only [List.getElem?_cons_zero, List.getElem?_cons_succ] at x0 x1 x2
     obtain ⟨E, hE⟩ : ∃ q, Hid (el.length = q) := ⟨_, Lib.hid rfl⟩
     rw [hE.out] at cc hem Hc h30
     have hE1 : ¬ (E : Int) > 30 := by omega
     subst hc
     clear hm hnd hok hrow HAU h30
     go_wp2_with (fail)
     refine Hc.out.mono ?_
     rintro e w3 ⟨rfl, hb3⟩
     have hbf := hbr.trans (hb3.mono hbr.size)
     clear hb3 x0 x1 x2 xl cc hblc
     go_wp2_with (fail)
     exact ⟨⟨j + 1, by omega, by go_num, hbf⟩, by simp [RowKit.intOf]; omega⟩
    ·obtain rfl : j = M := by omega
     have hjI : ¬ (j : Int) < (j : Int) := by omega
     go_wp2_with (fail)
     exact ⟨⟨k + 1, by omega, by go_num, hbr⟩, by simp [RowKit.intOf]; omega⟩
  ·obtain rfl : k = L := by omega
   have hkI : ¬ (k : Int) < (k : Int) := by omega
   have hbw := Hb1.out.trans (hbr.mono Hb1.out.size)
   go_wp2_with (fail)
   exact bodyPost_ret (v := .bool true) (by simp [results, Try.results51, go_sem]; try first | rfl | assumption | omega) rfl ⟨rfl, hbw⟩
end Go.Proofs.Ytldmgifphkpdlaa
namespace Go.Proofs.Ytldmgifphkpdlaa
open Go.RowKit Go.Maps Go.WideMaps
/-- A set of numbers. -/
def SetZ (W : World) (b n : Nat) (m : Int → Bool) : Prop :=
 ∃ D : DataW Unit, W.ownsMap Try.prog 3 unitElem b n D ∧ IsMap D ∧ ∀ s : Int, has D (.int .i64 s) = m s
theorem int_law : Keyed Try.prog 3 := int_keyed Try.underlying3
theorem SetZ.kept {W W' : World} {row : Option Nat} {b n : Nat} {m : Int → Bool} (h : SetZ W b n m) (hg : W.grownBy W' row) (hne : some b ≠ row) : SetZ W' b n m := by
 obtain ⟨D, h1, h2, h3⟩ := h
 exact ⟨D, h1.kept hg hne, h2, h3⟩
theorem SetZ.obj {W : World} {b n : Nat} {m : Int → Bool} (h : SetZ W b n m) : ∃ es k, W.heap[b]? = some (.map es k) := by
 obtain ⟨D, ⟨es, k, hb, _⟩, _⟩ := h
 exact ⟨es, k, hb⟩
theorem SetZ.new (W : World) : SetZ (W.alloc (.map #[] 0)) W.heap.size 0 (fun _ => false) :=
 ⟨.map [], World.ownsMap_made _ _ _ _, isMap_empty, fun _ => rfl⟩
theorem int_key {s t : Int} (h : (Go.Lit.int .i64 s) = .int .i64 t) : s = t := by
 injection h
set_option maxRecDepth 100000 in
theorem SetZ.look {W : World} {b n : Nat} {m : Int → Bool} (h : SetZ W b n m) (s : Int) (hs : (Go.Lit.int .i64 s).wf = true) :
 (Instr.lookup 79 (.map (some b)) (.int .i64 s) true).run Try.prog W = .ok (.tuple #[.agg #[], .bool (m s)]) W := by
 obtain ⟨D, h1, h2, h3⟩ := h
 obtain ⟨v, ps, hrun, hv⟩ := h1.look_ok int_law Try.underlying79 (zero_unit W) unitElem_mk (keyOf_int_mk Try.underlying3 hs)
 obtain ⟨rfl, _⟩ := unitElem_inv hv
 rw [h3 s] at hrun
 exact hrun
set_option maxRecDepth 100000 in
theorem SetZ.store {W : World} {b n : Nat} {m : Int → Bool} (h : SetZ W b n m) (s : Int) (hs : (Go.Lit.int .i64 s).wf = true) (hn : n < maxLen) :
 ∃ W', (Instr.mapUpdate 79 (.map (some b)) (.int .i64 s) (.agg #[])).run Try.prog W = .ok () W' ∧ SetZ W' b (n + 1) (fun t => decide (t = s) || m t) ∧ W.grownBy W' (some b) := by
 obtain ⟨D, h1, h2, h3⟩ := h
 obtain ⟨W', hrun, ho, hg⟩ := h1.update int_law Try.underlying79 hn (keyOf_int_mk Try.underlying3 hs) unitElem_mk
 refine ⟨W', hrun, ⟨_, ho, h2.put _ _, fun t => ?_⟩, hg⟩
 by_cases e : t = s
 ·subst e
  rw [has_put_same h2 (by simp [WideAt.IsKeyLit])]
  simp
 ·rw [has_put_other (fun h => e (int_key h)), h3 t]
  simp [e]
theorem SetZ.mono {W : World} {b n n' : Nat} {m : Int → Bool} (h : SetZ W b n m) (hn : n ≤ n') : SetZ W b n' m := by
 obtain ⟨D, h1, h2⟩ := h
 exact ⟨D, h1.mono hn, h2⟩
theorem SetZ.congr {W : World} {b n : Nat} {m m' : Int → Bool} (h : SetZ W b n m) (e : ∀ s, m s = m' s) : SetZ W b n m' := by
 have : m = m' := funext e
 exact this ▸ h
set_option maxRecDepth 100000 in
theorem zHas_any (W : World) (b n : Nat) (m : Int → Bool) (s : Int) (h : SetZ W b n m) (hs : (Go.Lit.int .i64 s).wf = true) :
 Calls Try.prog 94 #[.map (some b), .int .i64 s] W fun e W' => e = .returned (.bool (m s)) ∧ W.grownBy W' none := by
 have hrun := h.look s hs
 clear h
 obtain ⟨q, hq⟩ : ∃ q, Hid (m s = q) := ⟨_, Lib.hid rfl⟩
 rw [hq.out] at hrun ⊢
 go_enter Try.func94, Try.ntmps94
 go_wp2_with (fail)
 exact bodyPost_ret (v := .bool q) (by simp [results, Try.results94, go_sem]; try rfl) rfl ⟨rfl, World.grownBy_alloc _ _ _⟩
set_option maxRecDepth 100000 in
theorem zAdd_any (W : World) (b n : Nat) (m : Int → Bool) (s : Int) (h : SetZ W b n m) (hs : (Go.Lit.int .i64 s).wf = true) (hn : n < maxLen) :
 Calls Try.prog 61 #[.map (some b), .int .i64 s] W fun e W' => e = .returned (.bool (!m s)) ∧ SetZ W' b (n + 1) (fun t => decide (t = s) || m t) ∧ W.grownBy W' (some b) := by
 have Hc := Lib.hid (zHas_any W b n m s h hs)
 have H := Lib.hid h
 clear h
 obtain ⟨q, hq⟩ : ∃ q, Hid (m s = q) := ⟨_, Lib.hid rfl⟩
 rw [hq.out] at Hc ⊢
 go_enter Try.func61, Try.ntmps61
 go_wp2_with (fail)
 refine Hc.out.mono ?_
 rintro e w1 ⟨rfl, hg⟩
 cases q
 case true =>
  go_wp2_with (fail)
  refine bodyPost_ret (v := .bool false) (by simp [results, Try.results61, go_sem]; try rfl) rfl ⟨rfl, ((H.out.kept hg (by simp)).mono (Nat.le_succ n)).congr (fun t => ?_), grownBy_none hg _⟩
  by_cases e : t = s
  ·subst e; rw [hq.out]; simp
  ·simp [e]
 case false =>
  obtain ⟨W', hrun, h1, h2⟩ := (H.out.kept hg (by simp)).store s hs hn
  have H1 := Lib.hid h1
  clear h1
  go_wp2_with (fail)
  exact bodyPost_ret (v := .bool true) (by simp [results, Try.results61, go_sem]; try rfl) rfl ⟨rfl, H1.out, grownBy_trans (grownBy_none hg _) h2 (fun i e => .inl e)⟩
end Go.Proofs.Ytldmgifphkpdlaa
namespace Go.Proofs.Ytldmgifphkpdlaa
open Go.RowKit Go.Maps Go.WideMaps
/-- The cells of a way. -/
def wyCZ (w : WyD Int) : List Value := [.int .i64 w.n, .slice w.a w.l.length w.c]
/-- An own row of ways. -/
abbrev OwnYZ (W : World) (base : Nat) (a : Option Addr) (cap : Nat) (l : List (WyD Int)) : Prop := W.ownsRow base 118 2 (.slice a l.length cap) l.length (l.flatMap wyCZ)
theorem info_wyZ : (Try.prog.info? 118).map (fun i => (i.zero, i.size, i.bytes)) = some (some (.agg #[.int .i64 0, .slice none 0 0]), 2, 32) := by kernel_rfl
theorem wyC_atZ (l : List (WyD Int)) (i : Nat) (h : i < l.length) : (l.flatMap wyCZ)[i * 2]? = some (.int .i64 l[i].n) ∧ (l.flatMap wyCZ)[i * 2 + 1]? = some (.slice l[i].a l[i].l.length l[i].c) := by
 induction l generalizing i with
 | nil => simp at h
 | cons f r ih =>
  rw [List.flatMap_cons]
  cases i with
  | zero => exact ⟨rfl, rfl⟩
  | succ j =>
   have hj : j < r.length := by simpa using h
   have := ih j hj
   rw [show (j + 1) * 2 = 2 + j * 2 by omega, show 2 + j * 2 + 1 = 2 + (j * 2 + 1) by omega]
   rw [List.getElem?_append_right (by simp [wyCZ]), List.getElem?_append_right (by simp [wyCZ])]
   simpa [wyCZ] using this
theorem wyC_lenZ (l : List (WyD Int)) : (l.flatMap wyCZ).length = l.length * 2 := by
 induction l with
 | nil => rfl
 | cons f r ih => rw [List.flatMap_cons, List.length_append, ih, List.length_cons, Nat.add_mul]; simp [wyCZ]; omega
theorem OwnYZ.le {W : World} {base cap : Nat} {a : Option Addr} {l : List (WyD Int)} (h : OwnYZ W base a cap l) : l.length ≤ cap ∧ cap ≤ 9223372036854775807 := by
 rcases h.2 with ⟨e1, e2⟩ | ⟨g, cap', cur, e1, hb, hg, hle, hm, hs, ht⟩
 ·simp only [Value.slice.injEq] at e1
  omega
 ·simp only [Value.slice.injEq] at e1
  unfold maxLen at hm
  omega
/-- Where a row's ways lie. -/
theorem OwnYZ.at {W : World} {base cap : Nat} {a : Option Addr} {l : List (WyD Int)} (h : OwnYZ W base a cap l) (i : Nat) (hi : i < l.length) :
 ∃ g, a = some ⟨g, 0, none⟩ ∧ base ≤ g ∧ g < W.heap.size ∧ W.cell? ⟨g, i * 2, none⟩ = some (.int .i64 l[i].n) ∧ W.cell? ⟨g, i * 2 + 1, none⟩ = some (.slice l[i].a l[i].l.length l[i].c) := by
 rcases h.2 with ⟨_, e2⟩ | ⟨g, cap', cur, e1, hb, hg, hle, hm, hs, ht⟩
 ·omega
 ·simp only [Value.slice.injEq] at e1
  obtain ⟨rfl, -, rfl⟩ := e1
  have h1 := h.cellAt (i * 2) (by omega)
  have h2 := h.cellAt (i * 2 + 1) (by omega)
  have := wyC_atZ l i hi
  exact ⟨g, rfl, hb, (Array.getElem?_eq_some_iff.1 hg).1, by rw [h1]; exact this.1, by rw [h2]; exact this.2⟩
/-- The last way is taken off. -/
theorem OwnYZ.pop {W : World} {base cap : Nat} {a : Option Addr} {l : List (WyD Int)} {x : WyD Int} (h : OwnYZ W base a cap (l ++ [x])) : OwnYZ W base a cap l := by
 rcases h.2 with ⟨_, e2⟩ | ⟨g, cap', cur, e1, hb, hg, hle, hm, hs, ht⟩
 ·simp at e2
 ·simp only [Value.slice.injEq] at e1
  obtain ⟨rfl, -, rfl⟩ := e1
  refine ⟨wyC_lenZ l, .inr ⟨g, cap, cur, rfl, hb, hg, by simp at hle; omega, hm, hs, ?_⟩⟩
  have h2 := congrArg (List.take (l.length * 2)) ht
  rw [List.take_take, Nat.min_eq_left (by simp; omega), List.flatMap_append, List.take_append_of_le_length (by rw [wyC_lenZ]; exact Nat.le_refl _), List.take_of_length_le (l := l.flatMap wyCZ) (by rw [wyC_lenZ]; exact Nat.le_refl _)] at h2
  exact h2
theorem OwnYZ.nil (W : World) (base : Nat) : OwnYZ W base none 0 [] := World.ownsRow_nil W base _ 2
theorem OwnYZ.below {w w' : World} {base cap : Nat} {a : Option Addr} {l : List (WyD Int)} (h : OwnYZ w base a cap l) (hb : Below w.heap.size w w') : OwnYZ w' base a cap l :=
 World.ownsRow.kept h (below_grownBy hb none) (by cases e : (Value.slice a l.length cap).ownBlock <;> simp)
theorem OwnYZ.lit (w : World) (base : Nat) (x : WyD Int) (hb : base ≤ w.heap.size) : OwnYZ (w.alloc (.cells #[.int .i64 x.n, .slice x.a x.l.length x.c] 118)) base (some ⟨w.heap.size, 0, none⟩) 1 [x] :=
 World.ownsRow_lit (base := base) (e := 118) (size := 2) w #[.int .i64 x.n, .slice x.a x.l.length x.c] 1 hb (by unfold maxLen; omega) rfl
/-- A way is put onto an own row; where the row lies then. -/
theorem OwnYZ.push {w : World} {base cap : Nat} {a : Option Addr} {l : List (WyD Int)} (h : OwnYZ w base a cap l) (x : WyD Int) (ty : TypeId) (hn : l.length + 1 ≤ 1000000000) (hb : base ≤ w.heap.size) :
 ∃ a' c' w', (Builtin.append_ #[116, 116] ty #[.slice a l.length cap, .slice (some ⟨w.heap.size, 0, none⟩) 1 1]).run Try.prog (w.alloc (.cells #[.int .i64 x.n, .slice x.a x.l.length x.c] 118)) = .ok (.slice a' (l.length + 1) c') w' ∧
  OwnYZ w' base a' c' (l ++ [x]) ∧ w.grownBy w' (Value.slice a l.length cap).ownBlock ∧ (∀ g, (Value.slice a' (l ++ [x]).length c').ownBlock = some g → (Value.slice a l.length cap).ownBlock = some g ∨ w.heap.size ≤ g) := by
 obtain ⟨i0, hi, hz0, hz1, hz2⟩ := info_parts info_wyZ
 have hnew : ∀ j u, (wyCZ x)[j]? = some u → (w.alloc (.cells #[.int .i64 x.n, .slice x.a x.l.length x.c] 118)).cell? ((⟨w.heap.size, 0, none⟩ : Addr).add j) = some u := by
  intro j u hj
  have := World.alloc_heap_new w (.cells #[.int .i64 x.n, .slice x.a x.l.length x.c] 118)
  have e : ((⟨w.heap.size, 0, none⟩ : Addr).add j) = ⟨w.heap.size, j, none⟩ := by simp [Addr.add]; exact Eq.symm
  rw [e]
  unfold World.cell?
  rw [show ((⟨w.heap.size, j, none⟩ : Addr).block) = w.heap.size from rfl, this]
  simp only [Option.bind_some]
  simpa [wyCZ] using hj
 obtain ⟨v', w', hrun, ho, hg, _, hw⟩ := run_append_own_at (P := Try.prog) (w := w.alloc (.cells #[.int .i64 x.n, .slice x.a x.l.length x.c] 118)) base 116 ty 118 i0 _ 2 32 Try.underlying116 hi hz0 hz1 hz2 rfl (by decide) _ _ _ (h.alloc _) ⟨w.heap.size, 0, none⟩ 1 1 (wyCZ x) rfl hnew (fun u hu => by
  simp only [wyCZ, List.mem_cons, List.not_mem_nil, or_false] at hu
  rcases hu with rfl | rfl <;> rfl) (by unfold maxLen; omega) (by omega) (by simp; omega)
 obtain ⟨a', cap', rfl⟩ := slice_of_own ho
 refine ⟨a', cap', w', hrun, ?_, grownBy_trans (World.grownBy_alloc w _ _) hg (fun i e => .inl e), fun g e => ?_⟩
 ·unfold OwnYZ
  rw [List.flatMap_append, List.length_append]
  simpa using ho
 ·have e2 : (Value.slice a' (l.length + 1) cap').ownBlock = some g := by simpa using e
  rcases hw with hw | hw
  ·exact .inl (by rw [← hw]; exact e2)
  ·rw [hw] at e2
   have := Option.some.inj e2
   exact .inr (by rw [← this]; simp)
/-- Ways are put onto an own row. -/
theorem OwnYZ.app {w : World} {base base2 cap cap2 : Nat} {a a2 : Option Addr} {l m : List (WyD Int)} (h : OwnYZ w base a cap l) (hm : OwnYZ w base2 a2 cap2 m) (ty : TypeId) (hn : l.length + m.length ≤ 1000000000) (hb : base ≤ w.heap.size) :
 ∃ a' c' w', (Builtin.append_ #[116, 116] ty #[.slice a l.length cap, .slice a2 m.length cap2]).run Try.prog w = .ok (.slice a' (l.length + m.length) c') w' ∧
  OwnYZ w' base a' c' (l ++ m) ∧ w.grownBy w' (Value.slice a l.length cap).ownBlock ∧ (∀ g, (Value.slice a' (l ++ m).length c').ownBlock = some g → (Value.slice a l.length cap).ownBlock = some g ∨ w.heap.size ≤ g) := by
 obtain ⟨i0, hi, hz0, hz1, hz2⟩ := info_parts info_wyZ
 rcases hm.2 with ⟨e1, e2⟩ | ⟨g2, cap', cur, e1, hb2, hg2, hle, hmx, hs, ht⟩
 ·have hml : m = [] := List.length_eq_zero_iff.1 e2
  subst hml
  simp only [Value.slice.injEq] at e1
  obtain ⟨rfl, -, rfl⟩ := e1
  exact ⟨a, cap, w, run_append_owned_none (P := Try.prog) w base _ ty _ i0 2 Try.underlying116 hi _ _ _ h, by simpa [OwnYZ] using h, grownBy_none (below_grownBy (Below.refl _ w) none) _, fun g e => .inl (by simpa using e)⟩
 ·simp only [Value.slice.injEq] at e1
  obtain ⟨rfl, -, rfl⟩ := e1
  have hnew : ∀ j u, (m.flatMap wyCZ)[j]? = some u → w.cell? ((⟨g2, 0, none⟩ : Addr).add j) = some u := hm.cells rfl
  obtain ⟨v', w', hrun, ho, hg, _, hw⟩ := run_append_own_at (P := Try.prog) (w := w) base 116 ty 118 i0 _ 2 32 Try.underlying116 hi hz0 hz1 hz2 rfl (by decide) _ _ _ h ⟨g2, 0, none⟩ m.length cap2 (m.flatMap wyCZ) (wyC_lenZ m) hnew (fun u hu => by
   obtain ⟨x, _, hx⟩ := List.mem_flatMap.1 hu
   simp only [wyCZ, List.mem_cons, List.not_mem_nil, or_false] at hx
   rcases hx with rfl | rfl <;> rfl) (by unfold maxLen; omega) (by omega) hb
  obtain ⟨a', cap', rfl⟩ := slice_of_own ho
  refine ⟨a', cap', w', hrun, ?_, hg, fun g e => ?_⟩
  ·unfold OwnYZ
   rw [List.flatMap_append, List.length_append]
   exact ho
  ·have e2 : (Value.slice a' (l.length + m.length) cap').ownBlock = some g := by simpa using e
   rcases hw with hw | hw
   ·exact .inl (by rw [← hw]; exact e2)
   ·rw [hw] at e2
    have := Option.some.inj e2
    exact .inr (by rw [← this]; exact Nat.le_refl _)
/-- A map from keys to slices: nil, where nothing stands. -/
def SlcTZ (W : World) (b n : Nat) (f : Int → Value) : Prop :=
 ∃ D : DataW Value, W.ownsMap Try.prog 3 slcE b n D ∧ IsMap D ∧ ∀ s : Int, (Go.Lit.int .i64 s).wf = true → D.atKey (.int .i64 s) (.held (.slice none 0 0)) = .held (f s)
theorem SlcTZ.kept {W W' : World} {row : Option Nat} {b n : Nat} {f : Int → Value} (h : SlcTZ W b n f) (hg : W.grownBy W' row) (hne : some b ≠ row) : SlcTZ W' b n f := by
 obtain ⟨D, h1, h2, h3⟩ := h
 exact ⟨D, h1.kept hg hne, h2, h3⟩
theorem SlcTZ.new (W : World) : SlcTZ (W.alloc (.map #[] 0)) W.heap.size 0 (fun _ => .slice none 0 0) :=
 ⟨.map [], World.ownsMap_made _ _ _ _, isMap_empty, fun _ _ => rfl⟩
theorem SlcTZ.obj {W : World} {b n : Nat} {f : Int → Value} (h : SlcTZ W b n f) : ∃ es k, W.heap[b]? = some (.map es k) := by
 obtain ⟨D, ⟨es, k, hb, _⟩, _⟩ := h
 exact ⟨es, k, hb⟩
theorem SlcTZ.lt {W : World} {b n : Nat} {f : Int → Value} (h : SlcTZ W b n f) : b < W.heap.size := by
 obtain ⟨D, h1, _⟩ := h
 exact h1.lt
theorem SlcTZ.mono {W : World} {b n n' : Nat} {f : Int → Value} (h : SlcTZ W b n f) (hn : n ≤ n') : SlcTZ W b n' f := by
 obtain ⟨D, h1, h2⟩ := h
 exact ⟨D, h1.mono hn, h2⟩
set_option maxRecDepth 100000 in
theorem SlcTZ.look {W : World} {b n : Nat} {f : Int → Value} (h : SlcTZ W b n f) (tm te : TypeId) (ht : Try.prog.underlying tm = some (.map 3 te)) (hz : (zeroValue te).run Try.prog W = .ok (.slice none 0 0) W) (s : Int) (hs : (Go.Lit.int .i64 s).wf = true) :
 (Instr.lookup tm (.map (some b)) (.int .i64 s) false).run Try.prog W = .ok (f s) W := by
 obtain ⟨D, h1, h2, h3⟩ := h
 obtain ⟨v, ps, hrun, hv⟩ := h1.lookup int_law ht hz (zd := .held (.slice none 0 0)) (zp := []) rfl (keyOf_int_mk Try.underlying3 hs)
 rw [h3 s hs] at hv
 simp only [slcE, Option.some.injEq, Prod.mk.injEq, DataW.held.injEq] at hv
 rw [← hv.1]
 exact hrun
set_option maxRecDepth 100000 in
theorem SlcTZ.store {W : World} {b n : Nat} {f : Int → Value} (h : SlcTZ W b n f) (tm te : TypeId) (ht : Try.prog.underlying tm = some (.map 3 te)) (s : Int) (v : Value) (hs : (Go.Lit.int .i64 s).wf = true) (hn : n < maxLen) :
 ∃ W', (Instr.mapUpdate tm (.map (some b)) (.int .i64 s) v).run Try.prog W = .ok () W' ∧ SlcTZ W' b (n + 1) (fun t => if t = s then v else f t) ∧ W.grownBy W' (some b) := by
 obtain ⟨D, h1, h2, h3⟩ := h
 obtain ⟨W', hrun, ho, hg⟩ := h1.update int_law ht hn (keyOf_int_mk Try.underlying3 hs) (d := .held v) (ps := []) rfl
 refine ⟨W', hrun, ⟨_, ho, h2.put _ _, fun t ht2 => ?_⟩, hg⟩
 by_cases e : t = s
 ·subst e
  rw [atKey_put_same h2 (by simp [WideAt.IsKeyLit])]
  simp
 ·rw [atKey_put_other (fun h => e (by injection h)), h3 t ht2]
  simp [e]
end Go.Proofs.Ytldmgifphkpdlaa
namespace Go.Proofs.Ytldmgifphkpdlaa
open Go.RowKit Go.Maps Go.WideMaps
/-- What a way needs lies in the old world, and its keys are such as Go can hold. -/
structure NdOkZ (w0 : World) (w : WyD Int) : Prop where
 row : Vs w0 w.a w.c (w.l.map (Value.int .i64))
 fit : (Go.Lit.int .i64 w.n).wf = true
 fits : ∀ x ∈ w.l, (Go.Lit.int .i64 x).wf = true
structure TakeAtZ (w0 W : World) (base mb sb wb n : Nat) (M : Int → Bool) (P : List (Int × WyD Int)) (f : Int → Value) : Prop where
 mbx : Blk W mb 154 [.map (some sb), .map (some wb)]
 set : SetZ W sb n M
 wait : SlcTZ W wb n f
 rows : ∀ k, (Go.Lit.int .i64 k).wf = true → M k = false → ∃ a c, f k = .slice a (onK P k).length c ∧ OwnYZ W base a c (onK P k)
 apart : ∀ j k, (Go.Lit.int .i64 j).wf = true → (Go.Lit.int .i64 k).wf = true → M j = false → M k = false → j ≠ k → ∀ g, (f j).ownBlock = some g → (f k).ownBlock ≠ some g
 lo : base ≤ mb ∧ base ≤ sb ∧ base ≤ wb ∧ sb ≠ wb
 nds : ∀ p ∈ P, NdOkZ w0 p.2
/-- .. and what lies open. -/
structure OpAtZ (w0 W : World) (base mb sb wb n : Nat) (M : Int → Bool) (P : List (Int × WyD Int)) (f : Int → Value) (O : List (WyD Int)) (a : Option Addr) (c : Nat) : Prop where
 at_ : TakeAtZ w0 W base mb sb wb n M P f
 own : OwnYZ W base a c O
 apart : ∀ k, (Go.Lit.int .i64 k).wf = true → M k = false → ∀ g, (Value.slice a O.length c).ownBlock = some g → (f k).ownBlock ≠ some g
 nds : ∀ w ∈ O, NdOkZ w0 w
section
variable {w0 W W' : World} {base mb sb wb n : Nat} {M : Int → Bool} {P : List (Int × WyD Int)} {f : Int → Value} {O : List (WyD Int)} {a : Option Addr} {c : Nat} {row : Option Nat}
theorem TakeAtZ.row_ne (h : TakeAtZ w0 W base mb sb wb n M P f) {b2 c2 : Nat} {a2 : Option Addr} {l : List (WyD Int)} (ho : OwnYZ W b2 a2 c2 l) : ∀ g, (Value.slice a2 l.length c2).ownBlock = some g → g ≠ mb ∧ g ≠ sb ∧ g ≠ wb := by
 intro g e
 obtain ⟨_, cur, hk⟩ := own_typ ho g e
 obtain ⟨es, k, h1⟩ := h.set.obj
 obtain ⟨es2, k2, h2⟩ := h.wait.obj
 have h3 := h.mbx
 unfold Blk at h3
 refine ⟨fun e => ?_, fun e => ?_, fun e => ?_⟩ <;> subst e
 ·rw [h3] at hk; cases hk
 ·rw [h1] at hk; cases hk
 ·rw [h2] at hk; cases hk
theorem TakeAtZ.blk_ne (h : TakeAtZ w0 W base mb sb wb n M P f) {g t : Nat} {cs : List Value} (hk : Blk W g t cs) : g ≠ sb ∧ g ≠ wb := by
 obtain ⟨es, k, h1⟩ := h.set.obj
 obtain ⟨es2, k2, h2⟩ := h.wait.obj
 unfold Blk at hk
 refine ⟨fun e => ?_, fun e => ?_⟩ <;> subst e
 ·rw [h1] at hk; cases hk
 ·rw [h2] at hk; cases hk
theorem TakeAtZ.kept (h : TakeAtZ w0 W base mb sb wb n M P f) (hg : W.grownBy W' row) (hr : ∀ g, row = some g → g ≠ mb ∧ g ≠ sb ∧ g ≠ wb ∧ ∀ k, (Go.Lit.int .i64 k).wf = true → M k = false → (f k).ownBlock ≠ some g) : TakeAtZ w0 W' base mb sb wb n M P f where
 mbx := h.mbx.kept hg (fun e => (hr mb e.symm).1 rfl)
 set := h.set.kept hg (fun e => (hr sb e.symm).2.1 rfl)
 wait := h.wait.kept hg (fun e => (hr wb e.symm).2.2.1 rfl)
 rows := fun k hf hk => by
  obtain ⟨a, c, h1, h2⟩ := h.rows k hf hk
  refine ⟨a, c, h1, World.ownsRow.kept h2 hg ?_⟩
  cases e : (Value.slice a (onK P k).length c).ownBlock with
  | none => exact .inl rfl
  | some g => exact .inr (fun e2 => (hr g e2.symm).2.2.2 k hf hk (by rw [h1]; exact e))
 apart := h.apart
 lo := h.lo
 nds := h.nds
theorem TakeAtZ.below (h : TakeAtZ w0 W base mb sb wb n M P f) (hb : Below W.heap.size W W') : TakeAtZ w0 W' base mb sb wb n M P f := h.kept (below_grownBy hb none) (fun g e => by cases e)
theorem TakeAtZ.lt (h : TakeAtZ w0 W base mb sb wb n M P f) (k : Int) (hf : (Go.Lit.int .i64 k).wf = true) (hk : M k = false) : ∀ g, (f k).ownBlock = some g → base ≤ g ∧ g < W.heap.size := by
 obtain ⟨a, c, h1, h2⟩ := h.rows k hf hk
 rw [h1]
 exact World.ownsRow.lt h2
theorem OpAtZ.below (h : OpAtZ w0 W base mb sb wb n M P f O a c) (hb : Below W.heap.size W W') : OpAtZ w0 W' base mb sb wb n M P f O a c := ⟨h.at_.below hb, OwnYZ.below h.own hb, h.apart, h.nds⟩
theorem OpAtZ.pop {x : WyD Int} (h : OpAtZ w0 W base mb sb wb n M P f (O ++ [x]) a c) : OpAtZ w0 W base mb sb wb n M P f O a c :=
 ⟨h.at_, OwnYZ.pop h.own, fun k hf hk g e => h.apart k hf hk g (by cases a <;> exact e), fun w hw => h.nds w (List.mem_append_left _ hw)⟩
/-- What a way needs, but for the first. -/
theorem NdOkZ.tail {n z : Int} {r : List Int} {b off c' : Nat} (h : NdOkZ w0 ⟨n, z :: r, some ⟨b, off, none⟩, c'⟩) : NdOkZ w0 ⟨n, r, some ⟨b, off + 1, none⟩, c' - 1⟩ := by
 obtain ⟨h1, h2, h3⟩ := h
 have hl := h1.le
 have hm := h1.max
 rw [List.map_cons, List.length_cons, List.length_map] at hl
 dsimp only at hl hm
 refine ⟨⟨by rw [List.length_map]; dsimp only; omega, by dsimp only; omega, fun e => (by cases e), fun i hi => ⟨b, off + 1, rfl⟩, fun b2 off2 e i hi => ?_⟩, h2, fun x hx => h3 x (List.mem_cons_of_mem _ hx)⟩
 dsimp only at e
 obtain ⟨rfl, rfl⟩ : b = b2 ∧ off + 1 = off2 := by
  have := Option.some.inj e
  injection this with e1 e2
  exact ⟨e1, e2⟩
 have := h1.cell b off rfl (i + 1) (by simp at hi ⊢; omega)
 rw [show off + 1 + i = off + (i + 1) by omega]
 rw [this]
 simp
theorem NdOkZ.last {n z : Int} {r : List Int} {b off : Nat} (h : NdOkZ w0 ⟨n, z :: r, some ⟨b, off, none⟩, 1⟩) : r = [] ∧ NdOkZ w0 ⟨n, r, some ⟨b, off, none⟩, 0⟩ := by
 obtain ⟨h1, h2, h3⟩ := h
 have hl := h1.le
 rw [List.map_cons, List.length_cons, List.length_map] at hl
 dsimp only at hl
 have hr : r = [] := List.length_eq_zero_iff.1 (by omega)
 subst hr
 exact ⟨rfl, ⟨by simp, by simp, fun e => (by cases e), fun i hi => ⟨b, off, rfl⟩, fun b2 off2 e i hi => by simp at hi⟩, h2, fun x hx => by cases hx⟩
/-- A way waits: the look-up, the append, the store. -/
theorem OpAtZ.waits (h : OpAtZ w0 W base mb sb wb n M P f O a c) (w : WyD Int) (x : Int) (hw : NdOkZ w0 w) (hx : M x = false) (hf : (Go.Lit.int .i64 x).wf = true) (hn : n + 1 ≤ 1000000000000000000) (hP : P.length ≤ 1000000) (hb : base ≤ W.heap.size) :
 ∃ xa xc xa' xc' W1 W2, (Instr.lookup 152 (.map (some wb)) (.int .i64 x) false).run Try.prog W = .ok (.slice xa (onK P x).length xc) W ∧
  (Instr.lookup 152 (.map (some wb)) (.int .i64 x) false).run Try.prog (W.alloc (.cells #[.int .i64 w.n, .slice w.a w.l.length w.c] 118)) = .ok (.slice xa (onK P x).length xc) (W.alloc (.cells #[.int .i64 w.n, .slice w.a w.l.length w.c] 118)) ∧
  (Builtin.append_ #[116, 116] 116 #[.slice xa (onK P x).length xc, .slice (some ⟨W.heap.size, 0, none⟩) 1 1]).run Try.prog (W.alloc (.cells #[.int .i64 w.n, .slice w.a w.l.length w.c] 118)) = .ok (.slice xa' ((onK P x).length + 1) xc') W1 ∧
  (Instr.mapUpdate 152 (.map (some wb)) (.int .i64 x) (.slice xa' ((onK P x).length + 1) xc')).run Try.prog W1 = .ok () W2 ∧
  OpAtZ w0 W2 base mb sb wb (n + 1) M (P ++ [(x, w)]) (fun t => if t = x then .slice xa' ((onK P x).length + 1) xc' else f t) O a c ∧ Below base W W2 ∧ W.grownBy W1 (Value.slice xa (onK P x).length xc).ownBlock ∧ W1.grownBy W2 (some wb) ∧ f x = .slice xa (onK P x).length xc := by
 obtain ⟨xa, xc, hfx, hox⟩ := h.at_.rows x hf hx
 have hol : (onK P x).length ≤ P.length := by have := on_off_len P x; omega
 have hlk := h.at_.wait.look 152 116 Try.underlying152 (by kernel_rfl) x hf
 have hlk2 := (h.at_.wait.kept (World.grownBy_alloc W (.cells #[.int .i64 w.n, .slice w.a w.l.length w.c] 118) none) (by simp)).look 152 116 Try.underlying152 (by kernel_rfl) x hf
 rw [hfx] at hlk hlk2
 obtain ⟨xa', xc', W1, hrun, ho1, hg1, hlies⟩ := OwnYZ.push hox w 116 (by omega) hb
 have hne := h.at_.row_ne hox
 have hwb := (h.at_.wait.kept hg1 (fun e => (hne wb e.symm).2.2 rfl))
 obtain ⟨W2, hup, hs2, hg2⟩ := hwb.store 152 116 Try.underlying152 x (.slice xa' ((onK P x).length + 1) xc') hf (by unfold maxLen; omega)
 have hfb : (f x).ownBlock = (Value.slice xa (onK P x).length xc).ownBlock := by rw [hfx]
 -- rows that are not x's are as they were
 have kp : ∀ {b2 c2 : Nat} {a2 : Option Addr} {l : List (WyD Int)}, OwnYZ W b2 a2 c2 l → (∀ g, (Value.slice a2 l.length c2).ownBlock = some g → (f x).ownBlock ≠ some g) → OwnYZ W2 b2 a2 c2 l := by
  intro b2 c2 a2 l ho hap
  have o1 : OwnYZ W1 b2 a2 c2 l := by
   refine World.ownsRow.kept ho hg1 ?_
   cases e : (Value.slice a2 l.length c2).ownBlock with
   | none => exact .inl rfl
   | some g => exact .inr (fun e2 => hap g e (by rw [hfb]; exact e2.symm))
  refine World.ownsRow.kept o1 hg2 ?_
  cases e : (Value.slice a2 l.length c2).ownBlock with
  | none => exact .inl rfl
  | some g => exact .inr (fun e2 => (h.at_.row_ne ho g e).2.2 (by injection e2))
 have m1 := (h.at_.mbx.kept hg1 (fun e => (hne mb e.symm).1 rfl))
 have hmw : mb ≠ wb := fun e => by
  obtain ⟨es, k, h1⟩ := h.at_.wait.obj
  have h3 := h.at_.mbx
  unfold Blk at h3
  rw [e, h1] at h3
  cases h3
 have hlong : Below base W W2 := (belowAt hg1 (fun g e => (own_typ hox g e).1) hb).trans (belowAt hg2 (fun g e => by injection e with e; have := h.at_.lo; omega) (Nat.le_trans hb hg1.size))
 have hnew : ∀ g, (Value.slice xa' ((onK P x).length + 1) xc').ownBlock = some g → (f x).ownBlock = some g ∨ W.heap.size ≤ g := fun g e => by
  rw [hfb]
  exact hlies g (by rw [List.length_append]; exact e)
 refine ⟨xa, xc, xa', xc', W1, W2, hlk, hlk2, hrun, hup, ⟨⟨m1.kept hg2 (fun e => hmw (by injection e)), ((h.at_.set.kept hg1 (fun e => (hne sb e.symm).2.1 rfl)).kept hg2 (fun e => h.at_.lo.2.2.2 (by injection e))).mono (Nat.le_succ n), hs2, fun k hkf hk => ?_, fun j k hjf hkf hj hk hjk g e => ?_, h.at_.lo, fun p hp => ?_⟩, kp h.own (fun g e => h.apart x hf hx g e), fun k hkf hk g e => ?_, h.nds⟩, hlong, hg1, hg2, hfx⟩
 ·by_cases e : k = x
  ·subst e
   refine ⟨xa', xc', ?_, ?_⟩
   ·rw [if_pos rfl, on_snoc, if_pos rfl, List.length_append]
    rfl
   ·rw [on_snoc, if_pos rfl]
    refine World.ownsRow.kept ho1 hg2 ?_
    cases e : (Value.slice xa' (onK P k ++ [w]).length xc').ownBlock with
    | none => exact .inl rfl
    | some g =>
     refine .inr (fun e2 => ?_)
     injection e2 with e2
     rcases hlies g e with h1 | h1
     ·exact (hne g h1).2.2 e2
     ·have := h.at_.wait.lt
      omega
  ·obtain ⟨a2, c2, h1, h2⟩ := h.at_.rows k hkf hk
   refine ⟨a2, c2, ?_, ?_⟩
   ·rw [if_neg e, on_snoc, if_neg e]
    exact h1
   ·rw [on_snoc, if_neg e]
    exact kp h2 (fun g e2 => h.at_.apart k x hkf hf hk hx e g (by rw [h1]; exact e2))
 ·by_cases e1 : j = x
  ·rw [if_pos e1] at e
   rw [if_neg (fun e2 => hjk (e1.trans e2.symm))]
   intro e2
   rcases hnew g e with h1 | h1
   ·exact h.at_.apart x k hf hkf hx hk (fun e3 => hjk (e1.trans e3)) g h1 e2
   ·have := (h.at_.lt k hkf hk g e2).2
    omega
  ·rw [if_neg e1] at e
   by_cases e2 : k = x
   ·rw [if_pos e2]
    intro e3
    rcases hnew g e3 with h1 | h1
    ·exact h.at_.apart x j hf hjf hx hj (fun e4 => e1 e4.symm) g h1 e
    ·have := (h.at_.lt j hjf hj g e).2
     omega
   ·rw [if_neg e2]
    exact h.at_.apart j k hjf hkf hj hk hjk g e
 ·rcases List.mem_append.1 hp with hp | hp
  ·exact h.at_.nds p hp
  ·rw [List.mem_singleton] at hp
   subst hp
   exact hw
 ·by_cases e1 : k = x
  ·rw [if_pos e1]
   intro e2
   rcases hnew g e2 with h1 | h1
   ·exact h.apart x hf hx g e h1
   ·have := (World.ownsRow.lt h.own g e).2
    omega
  ·rw [if_neg e1]
   exact h.apart k hkf hk g e
/-- A thing that was made is made again. -/
theorem OpAtZ.had (h : OpAtZ w0 W base mb sb wb n M P f O a c) (x : Int) (hx : M x = true) (hset : SetZ W' sb (n + 1) (fun t => decide (t = x) || M t)) (hg : W.grownBy W' (some sb)) : OpAtZ w0 W' base mb sb wb (n + 1) M P f O a c := by
 have hk : ∀ {b2 c2 : Nat} {a2 : Option Addr} {l : List (WyD Int)}, OwnYZ W b2 a2 c2 l → OwnYZ W' b2 a2 c2 l := by
  intro b2 c2 a2 l ho
  refine World.ownsRow.kept ho hg ?_
  cases e : (Value.slice a2 l.length c2).ownBlock with
  | none => exact .inl rfl
  | some g => exact .inr (fun e2 => (h.at_.row_ne ho g e).2.1 (by injection e2))
 refine ⟨⟨h.at_.mbx.kept hg (fun e => (h.at_.blk_ne h.at_.mbx).1 (by injection e)), hset.congr (fun t => ?_), (h.at_.wait.kept hg (fun e => h.at_.lo.2.2.2 (by injection e with e; exact e.symm))).mono (Nat.le_succ n), fun k hkf hm => ?_, h.at_.apart, h.at_.lo, h.at_.nds⟩, hk h.own, h.apart, h.nds⟩
 ·by_cases e : t = x
  ·subst e; rw [hx]; simp
  ·simp [e]
 ·obtain ⟨a2, c2, h1, h2⟩ := h.at_.rows k hkf hm
  exact ⟨a2, c2, h1, hk h2⟩
/-- A thing is made: what waits for it is put onto what lies open. -/
theorem OpAtZ.makes (h : OpAtZ w0 W base mb sb wb n M P f O a c) (x : Int) (hx : M x = false) (hf : (Go.Lit.int .i64 x).wf = true) (hset : SetZ W' sb (n + 1) (fun t => decide (t = x) || M t)) (hg : W.grownBy W' (some sb)) (hP : P.length + O.length ≤ 1000000) (hb : base ≤ W.heap.size) :
 ∃ xa xc a' c' W2, (Instr.lookup 152 (.map (some wb)) (.int .i64 x) false).run Try.prog W' = .ok (.slice xa (onK P x).length xc) W' ∧
  (Builtin.append_ #[116, 116] 116 #[.slice a O.length c, .slice xa (onK P x).length xc]).run Try.prog W' = .ok (.slice a' (O.length + (onK P x).length) c') W2 ∧
  OpAtZ w0 W2 base mb sb wb (n + 1) (fun t => decide (t = x) || M t) (offK P x) f (O ++ onK P x) a' c' ∧ Below base W W2 ∧ W'.grownBy W2 (Value.slice a O.length c).ownBlock := by
 obtain ⟨xa, xc, hfx, hox⟩ := h.at_.rows x hf hx
 have hol := on_off_len P x
 have hsb : ∀ {b2 c2 : Nat} {a2 : Option Addr} {l : List (WyD Int)}, OwnYZ W b2 a2 c2 l → OwnYZ W' b2 a2 c2 l := by
  intro b2 c2 a2 l ho
  refine World.ownsRow.kept ho hg ?_
  cases e : (Value.slice a2 l.length c2).ownBlock with
  | none => exact .inl rfl
  | some g => exact .inr (fun e2 => (h.at_.row_ne ho g e).2.1 (by injection e2))
 have hw' := h.at_.wait.kept hg (fun e => h.at_.lo.2.2.2 (by injection e with e; exact e.symm))
 have hlk := hw'.look 152 116 Try.underlying152 (by kernel_rfl) x hf
 rw [hfx] at hlk
 have hms : mb ≠ sb := fun e => by
  obtain ⟨es, k, h1⟩ := h.at_.set.obj
  have h3 := h.at_.mbx
  unfold Blk at h3
  rw [e, h1] at h3
  cases h3
 have hm' := h.at_.mbx.kept hg (fun e => hms (by injection e))
 have hO' := hsb h.own
 obtain ⟨a', c', W2, hrun, ho2, hg2, hlies⟩ := OwnYZ.app hO' (hsb hox) 116 (by omega) (Nat.le_trans hb hg.size)
 have hne : ∀ g, (Value.slice a O.length c).ownBlock = some g → g ≠ mb ∧ g ≠ sb ∧ g ≠ wb := h.at_.row_ne h.own
 have mf : ∀ k, (decide (k = x) || M k) = false → k ≠ x ∧ M k = false := fun k hk => by simpa using hk
 have kp : ∀ {b2 c2 : Nat} {a2 : Option Addr} {l : List (WyD Int)}, OwnYZ W' b2 a2 c2 l → (∀ g, (Value.slice a O.length c).ownBlock = some g → (Value.slice a2 l.length c2).ownBlock ≠ some g) → OwnYZ W2 b2 a2 c2 l := by
  intro b2 c2 a2 l ho hap
  refine World.ownsRow.kept ho hg2 ?_
  cases e : (Value.slice a2 l.length c2).ownBlock with
  | none => exact .inl rfl
  | some g => exact .inr (fun e2 => hap g e2.symm e)
 refine ⟨xa, xc, a', c', W2, hlk, hrun, ⟨⟨hm'.kept hg2 (fun e => (hne mb e.symm).1 rfl), hset.kept hg2 (fun e => (hne sb e.symm).2.1 rfl), (hw'.kept hg2 (fun e => (hne wb e.symm).2.2 rfl)).mono (Nat.le_succ n), fun k hkf hk => ?_, fun j k hjf hkf hj hk hjk => h.at_.apart j k hjf hkf (mf j hj).2 (mf k hk).2 hjk, h.at_.lo, fun p hp => h.at_.nds p (List.mem_filter.1 hp).1⟩, ho2, fun k hkf hk g e => ?_, fun w hw => ?_⟩, (belowAt hg (fun g e => by injection e with e; have := h.at_.lo; omega) hb).trans (belowAt hg2 (fun g e => (own_typ hO' g e).1) (Nat.le_trans hb hg.size)), hg2⟩
 ·obtain ⟨a2, c2, h1, h2⟩ := h.at_.rows k hkf (mf k hk).2
  rw [on_off (mf k hk).1]
  exact ⟨a2, c2, h1, kp (hsb h2) (fun g e => by rw [← h1]; exact h.apart k hkf (mf k hk).2 g e)⟩
 ·intro e2
  rcases hlies g e with h1 | h1
  ·exact h.apart k hkf (mf k hk).2 g h1 e2
  ·have := (h.at_.lt k hkf (mf k hk).2 g e2).2
   have := hg.size
   omega
 ·rcases List.mem_append.1 hw with hw | hw
  ·exact h.nds w hw
  ·obtain ⟨p, hp, rfl⟩ := List.mem_map.1 hw
   exact h.at_.nds p (List.mem_filter.1 hp).1
end
end Go.Proofs.Ytldmgifphkpdlaa
