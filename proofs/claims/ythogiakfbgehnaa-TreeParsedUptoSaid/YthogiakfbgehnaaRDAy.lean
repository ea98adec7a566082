/- Texts joined: Tn To Tr Ts Tt Tu Lg Tp. -/
import Derived.Test.YthogiakfbgehnaaRDAx
import Derived.Test.YthogiakfbgehnaaRDAv
import Derived.Test.YthogiakfbgehnaaRDAt
import Derived.Test.YthogiakfbgehnaaRDAw
set_option linter.unusedVariables false
set_option linter.unusedSimpArgs false
namespace Go.Proofs.Ythogiakfbgehnaa
open Go.RowKit Go.Shelf
attribute [local go_sem] Oper.semAt_some
set_option maxRecDepth 100000 in
set_option maxHeartbeats 400000 in
theorem all_anyT (fn : Nat) (v : Array Value) (hv : v.size = 4) (w : World) :
 Calls Try.prog 104 #[.agg v, inVT fn] w fun e w' => e = .returned (.func (.func 143) #[] #[.pointer (some ⟨w.heap.size, 0, none⟩), .pointer (some ⟨w.heap.size + 1, 0, none⟩)]) ∧ w' = (w.alloc (.cells v 51)).alloc (.cells #[inVT fn] 135) := by
 obtain ⟨l⟩ := v
 obtain ⟨x0, x1, x2, x3, rfl⟩ : ∃ x0 x1 x2 x3, l = [x0, x1, x2, x3] := by
  match l, hv with
  | [x0, x1, x2, x3], _ => exact ⟨_, _, _, _, rfl⟩
 go_enter Try.func104, Try.ntmps104
 go_wp2
 go_ret
 exact ⟨rfl, rfl⟩
theorem all_walksK (w0 w : World) (Bs Bi : Nat) (h : TrH) (kids : TrF) (ka : Option Addr) (kcap : Nat) (hk : TrS w0 (fun _ => True) ka kcap kids) (hW0 : Below w0.heap.size w0 w) (hN : kids.size ≤ 1099511627776)
 (c0 : w.cell? ⟨Bs, 0, none⟩ = some (.int .i64 h.k)) (c1 : w.cell? ⟨Bs, 1, none⟩ = some (.int .i64 h.i)) (c2 : w.cell? ⟨Bs, 2, none⟩ = some (.int .i64 h.a)) (c3 : w.cell? ⟨Bs, 3, none⟩ = some (.slice ka kids.len kcap))
 (hi0 : w.heap[Bi]? = some (.cells #[inVT 105] 135 (0, 0))) :
 Walks Try.prog 143 #[.pointer (some ⟨Bs, 0, none⟩), .pointer (some ⟨Bi, 0, none⟩)] encsT (GoodT w0 (TrF.pre false 1 (.cons h kids .nil))) (FullT (TrF.pre false 1 (.cons h kids .nil))) w0.heap.size itTT w := by
 intro l J Jx W hW hJ hJx hY h0
 have hB : Bs < w.heap.size := World.block_lt_of_cell? w _ c0
 have hc : ∀ o, W.cell? ⟨Bs, o, none⟩ = w.cell? ⟨Bs, o, none⟩ := fun o => hW.cell (p := ⟨Bs, o, none⟩) hB
 exact all1_inK w0 W Bs Bi h kids ka kcap hk (hW0.trans (hW.mono hW0.size)) hN ((hc 0).trans c0) ((hc 1).trans c1) ((hc 2).trans c2) ((hc 3).trans c3) ((hW.block Bi (Array.getElem?_eq_some_iff.1 hi0).1).trans hi0) l J Jx hJ hJx hY h0
theorem TrF.pre_size (f : TrF) : ∀ d, (f.pre false d).length = f.size := by
 induction f with
 | nil => intro d; rfl
 | cons h kids rest ihk ihr =>
  intro d
  show (_ :: ((if false && decide (0 ≤ h.k) then [] else kids.pre false (d + 1)) ++ rest.pre false d)).length = kids.size + rest.size + 1
  have h1 := ihk (d + 1)
  have h2 := ihr d
  rw [List.length_cons, List.length_append, if_neg (by simp)]
  omega
/-- Between two rounds: so many came. -/
def SizI (w : World) (pre : List NxT) (W : World) : Prop := Below w.heap.size w W ∧ (Boxed W (w.heap.size + 1) 3 (.int .i64 (pre.length : Int)) ∧ pre.length ≤ 1099511627777)
set_option maxRecDepth 100000 in
set_option maxHeartbeats 4000000 in
theorem tsize_any (h : TrH) (kids : TrF) (a : Option Addr) (cap : Nat) (w : World) (hk : TrS w (fun _ => True) a cap kids) (hN : kids.size ≤ 1099511627776) :
 Calls Try.prog 58 #[treV h a kids.len cap] w fun e w' => e = .returned (.int .i64 ((kids.size + 1 : Nat) : Int)) ∧ Below w.heap.size w w' := by
 refine (callsIn_wide (n := 0)).1 ?_
 refine callsIn_of_wp_marks Try.func58 rfl trivial ?_ rfl
 simp only [Try.ntmps58, List.size_toArray, List.length_cons, List.length_nil, Nat.reduceAdd, Nat.reduceSub, Array.replicate_succ, Array.replicate_zero, List.push_toArray, List.append_toArray, List.nil_append, List.cons_append]
 gi_wp2_with (fail)
 refine ⟨trivial, rfl, ((callsIn_wide (n := 0)).2 (all_anyT _ _ rfl _)).mono ?_⟩
 rintro e w' ⟨rfl, rfl⟩
 gi_wp2_with (fail)
 have hbel : Below w.heap.size w ((((w.alloc (.cells #[.int .i64 h.k, .int .i64 h.i, .int .i64 h.a, .slice a kids.len cap] 51)).alloc (.cells #[.int .i64 0] 3)).alloc (.cells #[.int .i64 h.k, .int .i64 h.i, .int .i64 h.a, .slice a kids.len cap] 51)).alloc (.cells #[inVT 105] 135)) := ((((Below.refl _ w).alloc (Nat.le_refl _) _).alloc (by simp) _).alloc (by simp; omega) _).alloc (by simp; omega) _
 have hB3 := (Blk.new ((w.alloc (.cells #[.int .i64 h.k, .int .i64 h.i, .int .i64 h.a, .slice a kids.len cap] 51)).alloc (.cells #[.int .i64 0] 3)) 51 #[.int .i64 h.k, .int .i64 h.i, .int .i64 h.a, .slice a kids.len cap]).alloc (.cells #[inVT 105] 135)
 have hBi := World.alloc_heap_new (((w.alloc (.cells #[.int .i64 h.k, .int .i64 h.i, .int .i64 h.a, .slice a kids.len cap] 51)).alloc (.cells #[.int .i64 0] 3)).alloc (.cells #[.int .i64 h.k, .int .i64 h.i, .int .i64 h.a, .slice a kids.len cap] 51)) (.cells #[inVT 105] 135)
 rw [World.size_alloc, World.size_alloc, World.size_alloc] at hBi
 have hb1 : Boxed ((((w.alloc (.cells #[.int .i64 h.k, .int .i64 h.i, .int .i64 h.a, .slice a kids.len cap] 51)).alloc (.cells #[.int .i64 0] 3)).alloc (.cells #[.int .i64 h.k, .int .i64 h.i, .int .i64 h.a, .slice a kids.len cap] 51)).alloc (.cells #[inVT 105] 135)) (w.heap.size + 1) 3 (.int .i64 0) := by
  have := (Boxed.new (w.alloc (.cells #[.int .i64 h.k, .int .i64 h.i, .int .i64 h.a, .slice a kids.len cap] 51)) 3 (.int .i64 0))
  rw [World.size_alloc] at this
  exact (this.alloc _).alloc _
 rw [World.size_alloc, World.size_alloc] at hB3
 have hws : (((((w.alloc (.cells #[.int .i64 h.k, .int .i64 h.i, .int .i64 h.a, .slice a kids.len cap] 51)).alloc (.cells #[.int .i64 0] 3)).alloc (.cells #[.int .i64 h.k, .int .i64 h.i, .int .i64 h.a, .slice a kids.len cap] 51)).alloc (.cells #[inVT 105] 135))).heap.size = w.heap.size + 1 + 1 + 1 + 1 := by simp
 generalize ((((w.alloc (.cells #[.int .i64 h.k, .int .i64 h.i, .int .i64 h.a, .slice a kids.len cap] 51)).alloc (.cells #[.int .i64 0] 3)).alloc (.cells #[.int .i64 h.k, .int .i64 h.i, .int .i64 h.a, .slice a kids.len cap] 51)).alloc (.cells #[inVT 105] 135)) = wl at hbel hB3 hBi hb1 hws ⊢
 have Hws := Lib.hid hws
 clear hws
 refine range_law (T := itTT) (n₀ := w.heap.size) (encs := encsT) (Good := GoodT w (TrF.pre false 1 (.cons h kids .nil))) (Full := FullT (TrF.pre false 1 (.cons h kids .nil))) (gf := 143) (lb := #[.pointer (some ⟨w.heap.size + 1 + 1, 0, none⟩), .pointer (some ⟨w.heap.size + 1 + 1 + 1, 0, none⟩)]) rfl (enters_of Try.func143 (by kernel_rfl) rfl)
  hbel.size (all_walksK w wl (w.heap.size + 1 + 1) (w.heap.size + 1 + 1 + 1) h kids a cap hk hbel hN (hB3.cell 0) (hB3.cell 1) (hB3.cell 2) (hB3.cell 3) hBi) (fun _ => rfl)
  (SizI w) (fun _ _ => False)
  ?bI ?bIx ?h0 ?round ?done ?stop
 case bI => exact (bears_below hbel.size (Nat.le_refl _)).and ((bears_boxed _ _ _ (by decide) _).and (bears_pure _ _ _))
 case bIx => exact bears_pure _ _ _
 case h0 => exact ⟨hbel, hb1, Nat.zero_le _⟩
 case round =>
  rintro l pre ⟨⟨d, hd, len⟩, xa, xcap⟩ W hl ⟨r, hr⟩ hI hgood
  obtain ⟨hB, h1, h2⟩ := hI
  have hle : pre.length + 1 ≤ 1099511627777 := by
   obtain ⟨⟨q, hq⟩, -⟩ := hgood
   have h8 := congrArg List.length hq
   rw [TrF.pre_size, List.length_append, List.length_map, List.length_append] at h8
   simp only [List.length_singleton, TrF.size] at h8
   omega
  dsimp only [encsT]
  have hws : w.heap.size + 3 ≤ wl.heap.size := by have := Hws.out; omega
  have hlW : l < W.heap.size := (Array.getElem?_eq_some_iff.1 hr).1
  gi_wp2_with (fail)
  refine ⟨KeepsFrom.of_grownBy (row := none) (show W.grownBy W none from ⟨rfl, rfl, rfl, Nat.le_refl _, fun _ _ _ => rfl⟩) (fun r e => by cases e), Spares.refl _ _ _, fun W2 hg2 => ?_⟩
  have hb2 := h1.kept hg2 (by simp; omega)
  have hB2 : Below w.heap.size w W2 := hB.grown hg2 hB.size (fun k e => by cases e; omega)
  have k1 := hb2.cell
  have f1 := hb2.frozen
  have hw1 : IntKind.i64.wrap ((pre.length : Int) + 1) = (pre.length : Int) + 1 := IntWalk.i64_in _ (by omega)
  have hg4 := grownBy_set W2 (w.heap.size + 1) 0 (.int .i64 ((pre.length : Int) + 1))
  have hc4 := hb2.set (.int .i64 ((pre.length : Int) + 1))
  have HF : KeepsFrom wl.heap.size W2 (W2.setCell ⟨w.heap.size + 1, 0, none⟩ (.int .i64 ((pre.length : Int) + 1))) ∧ Spares w.heap.size itTT W2 (W2.setCell ⟨w.heap.size + 1, 0, none⟩ (.int .i64 ((pre.length : Int) + 1))) ∧ SizI w (pre ++ [⟨⟨d, hd, len⟩, xa, xcap⟩]) (W2.setCell ⟨w.heap.size + 1, 0, none⟩ (.int .i64 ((pre.length : Int) + 1))) :=
   ⟨(KeepsOthers.setCell W2 _ _).from _, Spares.grown hg4 hB2.size (fun r e => by cases e; exact ⟨by omega, fun cs t fr hcs => by rw [show W2.heap[w.heap.size + 1]? = _ from hb2] at hcs; cases hcs; decide⟩), hB2.setCell (p := ⟨w.heap.size + 1, 0, none⟩) (by simp) _, by rw [List.length_append, List.length_singleton, show (((pre.length + 1 : Nat)) : Int) = (pre.length : Int) + 1 by omega]; exact hc4, by rw [List.length_append]; exact hle⟩
  have HF := Lib.hid HF
  clear hb2 h1 hg2 hr hB hlW hg4 hc4
  gi_wp2_with (fail)
  exact HF.out
 case done =>
  rintro D xs W hD hfull hI hK
  obtain ⟨hB, h1, h2⟩ := hI
  have hws : w.heap.size + 3 ≤ wl.heap.size := by have := Hws.out; omega
  have hlen : xs.length = kids.size + 1 := by
   have h8 := congrArg List.length (show xs.map (·.nd) = _ from hfull)
   rw [TrF.pre_size, List.length_map] at h8
   simp only [TrF.size] at h8
   omega
  rw [hlen] at h1
  have k1 := h1.cell
  have f1 := h1.frozen
  clear hfull
  gi_wp2
  refine ⟨by simp, .inl ⟨_, _, rfl, run_takeDeferred hK, ?_⟩⟩
  refine ⟨.int .i64 ((kids.size + 1 : Nat) : Int), ?_, rfl, ?_⟩
  ·simp [results, Try.f58, go_sem]
  ·exact hB.trans ((Below.refl w.heap.size _).grown (grownBy_putObj' _ D (.deferred none)) hB.size (fun k e => by cases e; omega))
 case stop =>
  rintro D pre W hD hgood hI hK
  exact hI.elim
end Go.Proofs.Ythogiakfbgehnaa
namespace Go.Proofs.Ythogiakfbgehnaa
open Go.RowKit Go.Shelf
attribute [local go_sem] Oper.semAt_some
theorem all_walksD (w0 w : World) (Bs Bi : Nat) (h : TrH) (kids : TrF) (ka : Option Addr) (kcap : Nat) (hk : TrS w0 (fun _ => True) ka kcap kids) (hW0 : Below w0.heap.size w0 w) (hN : kids.size ≤ 1099511627776)
 (c0 : w.cell? ⟨Bs, 0, none⟩ = some (.int .i64 h.k)) (c1 : w.cell? ⟨Bs, 1, none⟩ = some (.int .i64 h.i)) (c2 : w.cell? ⟨Bs, 2, none⟩ = some (.int .i64 h.a)) (c3 : w.cell? ⟨Bs, 3, none⟩ = some (.slice ka kids.len kcap))
 (hi0 : w.heap[Bi]? = some (.cells #[inVT 131] 135 (0, 0))) :
 Walks Try.prog 143 #[.pointer (some ⟨Bs, 0, none⟩), .pointer (some ⟨Bi, 0, none⟩)] encsT (GoodT w0 (TrF.pre true 1 (.cons h kids .nil))) (FullT (TrF.pre true 1 (.cons h kids .nil))) w0.heap.size itTT w := by
 intro l J Jx W hW hJ hJx hY h0
 have hB : Bs < w.heap.size := World.block_lt_of_cell? w _ c0
 have hc : ∀ o, W.cell? ⟨Bs, o, none⟩ = w.cell? ⟨Bs, o, none⟩ := fun o => hW.cell (p := ⟨Bs, o, none⟩) hB
 exact all1_inD w0 W Bs Bi h kids ka kcap hk (hW0.trans (hW.mono hW0.size)) hN ((hc 0).trans c0) ((hc 1).trans c1) ((hc 2).trans c2) ((hc 3).trans c3) ((hW.block Bi (Array.getElem?_eq_some_iff.1 hi0).1).trans hi0) l J Jx hJ hJx hY h0
/-- What derived returns. -/
abbrev derV (w : World) : Value := .func (.func 143) #[] #[.pointer (some ⟨w.heap.size + 1, 0, none⟩), .pointer (some ⟨w.heap.size + 1 + 1, 0, none⟩)]
/-- And where it leaves the world. -/
def derW (w : World) (h : TrH) (a : Option Addr) (n cap : Nat) : World := (((w.alloc (.cells #[.int .i64 h.k, .int .i64 h.i, .int .i64 h.a, .slice a n cap] 51)).alloc (.cells #[.int .i64 h.k, .int .i64 h.i, .int .i64 h.a, .slice a n cap] 51)).alloc (.cells #[inVT 131] 135))
set_option maxRecDepth 100000 in
set_option maxHeartbeats 1000000 in
theorem derived_any (h : TrH) (a : Option Addr) (n cap : Nat) (w : World) :
 Calls Try.prog 95 #[treV h a n cap] w fun e w' => e = .returned (derV w) ∧ w' = derW w h a n cap := by
 obtain ⟨hk, hi, ha⟩ := h
 have HA := Lib.hid (fun (l : List Value) (hl : l.length = 4) V => all_anyT 131 ⟨l⟩ hl V)
 go_enter Try.func95, Try.ntmps95
 go_wp2_with (fail)
 refine (HA.out _ rfl _).mono ?_
 rintro e9 w9 ⟨rfl, rfl⟩
 go_wp2_with (fail)
 go_ret
 exact ⟨by simp [derV], rfl⟩
/-- A token of a node. -/
def ndY (x : NdT) : Option Int := if 0 ≤ x.h.k then some x.h.k else none
/-- A step of a node. -/
def ndS (x : NdT) : Option Int := if 0 ≤ x.h.k then none else some x.h.i
theorem pre_yt (f : TrF) : ∀ d, (f.pre true d).filterMap ndY = f.yt := by
 induction f with
 | nil => intro d; rfl
 | cons h kids rest ihk ihr =>
  intro d
  show List.filterMap ndY (⟨d, h, kids⟩ :: ((if true && decide (0 ≤ h.k) then [] else kids.pre true (d + 1)) ++ rest.pre true d)) = _
  by_cases h0 : 0 ≤ h.k
  ·simp [ndY, h0, TrF.yt, ihr, List.filterMap_cons]
  ·simp [ndY, h0, TrF.yt, List.filterMap_cons, List.filterMap_append]
   exact congr (congrArg _ (ihk (d + 1))) (ihr d)
theorem pre_st (f : TrF) : ∀ d, (f.pre true d).filterMap ndS = f.st := by
 induction f with
 | nil => intro d; rfl
 | cons h kids rest ihk ihr =>
  intro d
  show List.filterMap ndS (⟨d, h, kids⟩ :: ((if true && decide (0 ≤ h.k) then [] else kids.pre true (d + 1)) ++ rest.pre true d)) = _
  by_cases h0 : 0 ≤ h.k
  ·simp [ndS, h0, TrF.st, ihr, List.filterMap_cons]
  ·simp [ndS, h0, TrF.st, List.filterMap_cons, List.filterMap_append]
   exact congr (congrArg _ (ihk (d + 1))) (ihr d)
end Go.Proofs.Ythogiakfbgehnaa
namespace Go.Proofs.Ythogiakfbgehnaa
open Go.RowKit Go.Shelf
attribute [local go_sem] Oper.semAt_some
/-- The symbols of trees in a row. -/
def TrF.ks : TrF → List Int
 | .nil => []
 | .cons h _ rest => h.k :: rest.ks
theorem TrF.ks_len (f : TrF) : f.ks.length = f.len := by
 induction f with
 | nil => rfl
 | cons h kids rest _ ih => show rest.ks.length + 1 = rest.len + 1; rw [ih]
set_option maxRecDepth 100000 in
set_option maxHeartbeats 1000000 in
theorem symIs_any (h : TrH) (a : Option Addr) (n c : Nat) (x : Int) (w : World) :
 Calls Try.prog 134 #[treV h a n c, .int .i64 x] w fun e W => e = .returned (.bool (decide (h.k = x))) ∧ Below w.heap.size w W := by
 obtain ⟨hk, hn, hs⟩ := h
 have hB := Blk.new w 51 #[.int .i64 hk, .int .i64 hn, .int .i64 hs, .slice a n c]
 have hb : Below w.heap.size w (w.alloc (.cells #[.int .i64 hk, .int .i64 hn, .int .i64 hs, .slice a n c] 51)) := (Below.refl _ _).alloc (Nat.le_refl _) _
 have x0 := hB.cell 0
 have xl := hB.lt
 simp only [List.getElem?_cons_zero] at x0
 have HF := Lib.hid hb
 clear hB hb
 show Calls Try.prog 134 _ w (fun e W => e = .returned (.bool (decide (hk = x))) ∧ _)
 by_cases h0 : hk = x
 ·have e0 : decide (hk = x) = true := decide_eq_true h0
  rw [e0]
  subst h0
  clear e0
  go_enter Try.func134, Try.ntmps134
  go_wp2_with (fail)
  first | exact ⟨rfl, HF.out⟩ | exact bodyPost_ret (v := .bool true) (by simp [results, Try.results134, go_sem]; try first | rfl | assumption | omega) rfl ⟨rfl, HF.out⟩
 ·have e0 : decide (hk = x) = false := decide_eq_false h0
  rw [e0]
  have hne : (hk == x) = false := by rw [beq_eq_false_iff_ne]; exact h0
  clear e0
  go_enter Try.func134, Try.ntmps134
  go_wp2_with (fail)
  first | exact ⟨rfl, HF.out⟩ | exact bodyPost_ret (v := .bool false) (by simp [results, Try.results134, go_sem]; try first | rfl | assumption | omega) rfl ⟨rfl, HF.out⟩
set_option maxRecDepth 100000 in
set_option maxHeartbeats 4000000 in
theorem eqKids_any (kids : TrF) (a : Option Addr) (cap : Nat) (l : List Int) (b : Option Addr) (bc : Nat) (w : World) (hk : TrS w (fun _ => True) a cap kids) (hl : Ints w b bc l) :
 Calls Try.prog 133 #[.slice a kids.len cap, .slice b l.length bc, inVT 134] w fun e w' => e = .returned (.bool (decide (kids.ks = l))) ∧ Below w.heap.size w w' := by
 have hlm : kids.len ≤ cap ∧ cap ≤ 9223372036854775807 := ⟨hk.le, hk.max⟩
 have hlm2 : l.length ≤ bc ∧ bc ≤ 9223372036854775807 := ⟨by have := hl.le; rwa [List.length_map] at this, hl.max⟩
 have hkl := TrF.ks_len kids
 obtain ⟨L, HL⟩ : ∃ L, Hid (kids.len = L) := ⟨_, Lib.hid rfl⟩
 obtain ⟨M, HM⟩ : ∃ L, Hid (l.length = L) := ⟨_, Lib.hid rfl⟩
 rw [HL.out] at hlm hkl ⊢
 rw [HM.out] at hlm2 ⊢
 have Hkl := Lib.hid hkl
 clear hkl
 obtain ⟨R, hR⟩ : ∃ R, Hid (decide (kids.ks = l) = R) := ⟨_, Lib.hid rfl⟩
 rw [hR.out]
 have Hk := Lib.hid hk
 have Hl := Lib.hid hl
 clear hk hl
 by_cases hLM : L = M
 ·subst hLM
  go_enter Try.func133, Try.ntmps133
  go_wp2_with (fail)
  go_loopw [17] (fun i wr => ∃ (k : Nat), k ≤ L ∧ i = .int .i64 (k : Int) ∧ Hid (kids.ks = l ↔ (kids.drop k).ks = l.drop k) ∧ Below w.heap.size w wr) (fun i _ => L - (intOf i).toNat)
  case atStart => exact ⟨0, by omega, rfl, Lib.hid Iff.rfl, Below.refl _ w⟩
  case round =>
   obtain ⟨k, hk, rfl, HR, hbr⟩ := hrel
   by_cases hlt : k < L
   ·have hkm : k < l.length := by rw [HM.out]; exact hlt
    have hkI : (k : Int) < (L : Int) := by omega
    have hkI0 : (0 : Int) ≤ (k : Int) := by omega
    obtain ⟨b1, off, hd, ks, xa, xcap, rfl, hat⟩ := (Hk.out.grown hbr).at (k := k) (by rw [HL.out]; exact hlt)
    have hlW := Hl.out.grown hbr
    obtain ⟨b2, o2, rfl⟩ := hlW.at_ k (by rw [List.length_map]; exact hkm)
    have d0 := hlW.cell b2 o2 rfl k (by rw [List.length_map]; exact hkm)
    rw [List.getElem_map] at d0
    obtain ⟨x, HX⟩ : ∃ x, Hid (l[k] = x) := ⟨_, Lib.hid rfl⟩
    rw [HX.out] at d0
    obtain ⟨x0, x1, x2, x3, hIk, hc1⟩ := hat
    have hst : Hid ((kids.drop k).ks = l.drop k ↔ hd.k = x ∧ (kids.drop (k + 1)).ks = l.drop (k + 1)) := Lib.hid (by
     rw [hc1, List.drop_eq_getElem_cons hkm, HX.out]
     show hd.k :: (kids.drop (k + 1)).ks = x :: l.drop (k + 1) ↔ _
     rw [List.cons.injEq]
     )
    clear hc1 hlW
    have hbl := World.block_lt_of_cell? _ _ x0
    have hbl2 := World.block_lt_of_cell? _ _ d0
    have HC := Lib.hid (fun V => symIs_any hd xa ks.len xcap x V)
    have hmx := hIk.le
    have hmx2 := hIk.max
    clear hIk
    obtain ⟨KL, HKL⟩ : ∃ q, Hid (ks.len = q) := ⟨_, Lib.hid rfl⟩
    rw [HKL.out] at x3 HC hmx
    obtain ⟨hhk, hhi, hha⟩ := hd
    dsimp only at x0 x1 x2 hst
    have HS := Lib.hid (show decide (hhk = x) = decide (hhk = x) from rfl)
    have Hbr := Lib.hid hbr
    clear hbr
    go_wp2_with (fail)
    refine (HC.out _).mono ?_
    rintro r w3 ⟨rfl, hb3⟩
    dsimp only
    have hba : Below w.heap.size w (wr.alloc (.cells #[.int .i64 hhk, .int .i64 hhi, .int .i64 hha, .slice xa KL xcap] 51)) := Hbr.out.alloc Hbr.out.size _
    have hb4 := hba.trans (hb3.mono hba.size)
    clear hba hb3
    by_cases h0 : hhk = x
    ·have e0 : decide (hhk = x) = true := decide_eq_true h0
     have HR2 : Hid (kids.ks = l ↔ (kids.drop (k + 1)).ks = l.drop (k + 1)) := Lib.hid (HR.out.trans (hst.out.trans ⟨fun h => h.2, fun h => ⟨h0, h⟩⟩))
     rw [e0]
     clear e0 h0
     go_wp2_with (fail)
     exact ⟨⟨k + 1, by omega, by simp, HR2, hb4⟩, by simp [intOf]; omega⟩
    ·have e0 : decide (hhk = x) = false := decide_eq_false h0
     have hF : Hid (R = false) := Lib.hid (by
      rw [← hR.out]
      exact decide_eq_false (fun e => h0 (hst.out.1 (HR.out.1 e)).1))
     rw [e0]
     clear e0 h0
     go_wp2_with (fail)
     exact bodyPost_ret (v := .bool false) (by simp [results, Try.results133, go_sem]; try first | rfl | assumption | omega) rfl ⟨by rw [hF.out], hb4⟩
   ·obtain rfl : k = L := by omega
    have hT : Hid (R = true) := Lib.hid (by
     rw [← hR.out]
     refine decide_eq_true (HR.out.2 ?_)
     rw [TrF.drop_all (by rw [HL.out]; exact Nat.le_refl _), List.drop_of_length_le (by rw [HM.out]; exact Nat.le_refl _)]
     rfl)
    go_wp2_with (fail)
    exact bodyPost_ret (v := .bool true) (by simp [results, Try.results133, go_sem]; try first | rfl | assumption | omega) rfl ⟨by rw [hT.out], hbr⟩
 ·have hF : Hid (R = false) := Lib.hid (by
   rw [← hR.out]
   exact decide_eq_false (fun e => hLM (by have := congrArg List.length e; rw [Hkl.out, HM.out] at this; exact this)))
  have hne : ((L : Int) == (M : Int)) = false := by rw [beq_eq_false_iff_ne]; omega
  go_enter Try.func133, Try.ntmps133
  go_wp2_with (fail)
  all_goals first
   | exact bodyPost_ret (v := .bool false) (by simp [results, Try.results133, go_sem]; try first | rfl | assumption | omega) rfl ⟨by rw [hF.out], Below.refl _ w⟩
   | (exfalso; omega)
end Go.Proofs.Ythogiakfbgehnaa
namespace Go.Proofs.Ythogiakfbgehnaa
open Go.RowKit Go.Maps
attribute [local go_sem] Oper.semAt_some
/-- A node may stand in a derivation; where a token stands is not looked at. -/
def rightD (d : CfD) (h : TrH) (kids : TrF) : Bool :=
 if 0 ≤ h.k then decide (h.k < (d.toks.length : Int)) && decide (h.i = 0) && decide (kids.len = 0)
 else match altD d h.k h.i with
  | none => false
  | some al => decide (h.a = 0) && decide (kids.ks = al.l)
set_option maxRecDepth 100000 in
set_option maxHeartbeats 16000000 in
theorem right_any (d : CfD) (h : TrH) (kids : TrF) (a : Option Addr) (cap : Nat) (w : World) (hd : CfAt w d) (hI : TrS w (fun _ => True) a cap kids) (hlo : -9223372036854775808 ≤ h.k) :
 Calls Try.prog 96 #[d.v, treV h a kids.len cap] w fun e W => e = .returned (.bool (rightD d h kids)) ∧ Below w.heap.size w W := by
 obtain ⟨hk, hi, ha⟩ := h
 have hlm : kids.len ≤ cap ∧ cap ≤ 9223372036854775807 := ⟨hI.le, hI.max⟩
 have Hd := Lib.hid hd
 have HI := Lib.hid hI
 obtain ⟨R, HR⟩ : ∃ q, Hid (rightD d ⟨hk, hi, ha⟩ kids = q) := ⟨_, Lib.hid rfl⟩
 rw [HR.out]
 have hdv : d.v = .agg #[.slice d.ta d.toks.length d.tc, .slice d.na d.names.length d.nc, .slice d.aa d.alts.length d.ac] := rfl
 obtain ⟨xta, hxta⟩ : ∃ q, Hid (d.ta = q) := ⟨_, Lib.hid rfl⟩
 obtain ⟨xna, hxna⟩ : ∃ q, Hid (d.na = q) := ⟨_, Lib.hid rfl⟩
 obtain ⟨xaa, hxaa⟩ : ∃ q, Hid (d.aa = q) := ⟨_, Lib.hid rfl⟩
 obtain ⟨xtc, hxtc⟩ : ∃ q, Hid (d.tc = q) := ⟨_, Lib.hid rfl⟩
 obtain ⟨xnc, hxnc⟩ : ∃ q, Hid (d.nc = q) := ⟨_, Lib.hid rfl⟩
 obtain ⟨xac, hxac⟩ : ∃ q, Hid (d.ac = q) := ⟨_, Lib.hid rfl⟩
 obtain ⟨T, HT⟩ : ∃ q, Hid (d.toks.length = q) := ⟨_, Lib.hid rfl⟩
 obtain ⟨N, HN⟩ : ∃ q, Hid (d.names.length = q) := ⟨_, Lib.hid rfl⟩
 obtain ⟨L, HL⟩ : ∃ q, Hid (d.alts.length = q) := ⟨_, Lib.hid rfl⟩
 rw [hxta.out, hxna.out, hxaa.out, hxtc.out, hxnc.out, hxac.out, HT.out, HN.out, HL.out] at hdv
 obtain ⟨KL, HKL⟩ : ∃ q, Hid (kids.len = q) := ⟨_, Lib.hid rfl⟩
 rw [HKL.out] at hlm ⊢
 have HIT := Lib.hid (fun V => isTok_any ⟨hk, hi, ha⟩ a KL cap V)
 have HAL := Lib.hid (fun V hV => altOf_any d hk hi V hV)
 rw [hdv] at HAL ⊢
 have hb0 : Below w.heap.size w ((w.alloc (.cells #[.slice xta T xtc, .slice xna N xnc, .slice xaa L xac] 25)).alloc (.cells #[.int .i64 hk, .int .i64 hi, .int .i64 ha, .slice a KL cap] 51)) := ((Below.refl w.heap.size w).alloc (Nat.le_refl _) _).alloc (by simp) _
 have hC := (Blk.new w 25 #[.slice xta T xtc, .slice xna N xnc, .slice xaa L xac]).alloc (.cells #[.int .i64 hk, .int .i64 hi, .int .i64 ha, .slice a KL cap] 51)
 have hB := Blk.new (w.alloc (.cells #[.slice xta T xtc, .slice xna N xnc, .slice xaa L xac] 25)) 51 #[.int .i64 hk, .int .i64 hi, .int .i64 ha, .slice a KL cap]
 rw [World.size_alloc] at hB
 have x0 := hB.cell 0
 have x1 := hB.cell 1
 have x2 := hB.cell 2
 have x3 := hB.cell 3
 have xl := hB.lt
 have z0 := hC.cell 0
 have z1 := hC.cell 1
 have z2 := hC.cell 2
 have zl := hC.lt
 simp only [List.getElem?_cons_zero, List.getElem?_cons_succ] at x0 x1 x2 x3 z0 z1 z2
 have HC := Lib.hid hC
 have HB := Lib.hid hB
 have Hb0 := Lib.hid hb0
 clear hd hI hdv hC hB hb0
 go_enter Try.func96, Try.ntmps96
 go_wp2_with (fail)
 refine (HIT.out _).mono ?_
 rintro e9 w9 ⟨rfl, hb9⟩
 have hb1 := Hb0.out.trans (hb9.mono Hb0.out.size)
 have HC9 := HC.out.below hb9 HC.out.lt
 have HB9 := HB.out.below hb9 HB.out.lt
 have y0 := HB9.cell 0
 have y1 := HB9.cell 1
 have y2 := HB9.cell 2
 have y3 := HB9.cell 3
 have yl := HB9.lt
 have u0 := HC9.cell 0
 have u1 := HC9.cell 1
 have u2 := HC9.cell 2
 have ul := HC9.lt
 simp only [List.getElem?_cons_zero, List.getElem?_cons_succ] at y0 y1 y2 y3 u0 u1 u2
 have Hb1 := Lib.hid hb1
 have HC9 := Lib.hid HC9
 have HB9 := Lib.hid HB9
 clear x0 x1 x2 x3 xl z0 z1 z2 zl hb9 hb1
 dsimp only
 by_cases h0 : 0 ≤ hk
 ·have e0 : decide (0 ≤ hk) = true := decide_eq_true h0
  have HR2 : Hid (R = (decide (hk < (T : Int)) && decide (hi = 0) && decide (KL = 0))) := Lib.hid (by
   rw [← HR.out, ← HT.out, ← HKL.out]
   unfold rightD
   rw [if_pos h0])
  rw [e0]
  clear e0
  by_cases h1 : hk < (T : Int)
  ·by_cases h2 : hi = 0
   ·by_cases h3 : KL = 0
    ·have HF : Hid (R = true) := Lib.hid (HR2.out.trans (by rw [decide_eq_true h1, decide_eq_true h2, decide_eq_true h3]; rfl))
     subst h2 h3
     go_wp2_with (fail)
     first | exact ⟨by rw [HF.out], Hb1.out⟩ | exact bodyPost_ret (v := .bool true) (by simp [results, Try.results96, go_sem]; try first | rfl | assumption | omega) rfl ⟨by rw [HF.out], Hb1.out⟩
    ·have HF : Hid (R = false) := Lib.hid (HR2.out.trans (by rw [decide_eq_false h3, Bool.and_false]))
     have hne : ((KL : Int) == 0) = false := by rw [beq_eq_false_iff_ne]; omega
     subst h2
     go_wp2_with (fail)
     first | exact ⟨by rw [HF.out], Hb1.out⟩ | exact bodyPost_ret (v := .bool false) (by simp [results, Try.results96, go_sem]; try first | rfl | assumption | omega) rfl ⟨by rw [HF.out], Hb1.out⟩
   ·have HF : Hid (R = false) := Lib.hid (HR2.out.trans (by rw [decide_eq_false h2, Bool.and_false, Bool.false_and]))
    have hne : (hi == 0) = false := by rw [beq_eq_false_iff_ne]; exact h2
    go_wp2_with (fail)
    first | exact ⟨by rw [HF.out], Hb1.out⟩ | exact bodyPost_ret (v := .bool false) (by simp [results, Try.results96, go_sem]; try first | rfl | assumption | omega) rfl ⟨by rw [HF.out], Hb1.out⟩
  ·have HF : Hid (R = false) := Lib.hid (HR2.out.trans (by rw [decide_eq_false h1, Bool.false_and, Bool.false_and]))
   go_wp2_with (fail)
   first | exact ⟨by rw [HF.out], Hb1.out⟩ | exact bodyPost_ret (v := .bool false) (by simp [results, Try.results96, go_sem]; try first | rfl | assumption | omega) rfl ⟨by rw [HF.out], Hb1.out⟩
 ·have e0 : decide (0 ≤ hk) = false := decide_eq_false h0
  have HR2 : Hid (R = (match altD d hk hi with | none => false | some al => decide (ha = 0) && decide (kids.ks = al.l))) := Lib.hid (by
   rw [← HR.out]
   unfold rightD
   rw [if_neg h0])
  rw [e0]
  clear e0
  have hAL := HAL.out w9 (Hd.out.grown Hb1.out) ⟨hlo, by omega⟩
  have HAL := Lib.hid hAL
  clear hAL
  go_wp2_with (fail)
  refine HAL.out.mono ?_
  rintro e10 w10 ⟨rfl, hb10⟩
  have HB10 := HB9.out.below hb10 HB9.out.lt
  have y0 := HB10.cell 0
  have y1 := HB10.cell 1
  have y2 := HB10.cell 2
  have y3 := HB10.cell 3
  have yl := HB10.lt
  simp only [List.getElem?_cons_zero, List.getElem?_cons_succ] at y0 y1 y2 y3
  have Hb10 := Lib.hid (Hb1.out.trans (hb10.mono Hb1.out.size))
  clear HB10 hb10 HAL u0 u1 u2 ul
  cases hal : altD d hk hi with
  | none =>
   have HF : Hid (R = false) := Lib.hid (by have := HR2.out; rw [hal] at this; exact this)
   dsimp only [altR]
   clear hal HR2
   go_wp2_with (fail)
   first | exact ⟨by rw [HF.out], Hb10.out⟩ | exact bodyPost_ret (v := .bool false) (by simp [results, Try.results96, go_sem]; try first | rfl | assumption | omega) rfl ⟨by rw [HF.out], Hb10.out⟩
  | some al =>
   have HR3 : Hid (R = (decide (ha = 0) && decide (kids.ks = al.l))) := Lib.hid (by have := HR2.out; rw [hal] at this; exact this)
   obtain ⟨ru, hru, hm⟩ := altD_mem hal
   have hIn : Ints w10 al.a al.c al.l := ((Hd.out.grown Hb10.out).rules ru hru).nms al hm
   dsimp only [altR]
   clear hal HR2 hru hm
   have hxm : al.l.length ≤ al.c ∧ al.c ≤ 9223372036854775807 := ⟨by have := hIn.le; rwa [List.length_map] at this, hIn.max⟩
   obtain ⟨wl, wa, wcp⟩ := al
   dsimp only at hxm hIn HR3
   obtain ⟨AL, hAL⟩ : ∃ q, Hid (wl.length = q) := ⟨_, Lib.hid rfl⟩
   have hEQ := eqKids_any kids a cap wl wa wcp w10 (HI.out.grown Hb10.out) hIn
   change Calls Try.prog _ #[_, .slice wa wl.length wcp, _] _ _ at hEQ
   rw [HKL.out, hAL.out] at hEQ
   rw [hAL.out] at hxm
   rw [show (IltD.v ⟨wl, wa, wcp⟩) = .slice wa AL wcp from by rw [← hAL.out]]
   have HEQ := Lib.hid hEQ
   clear hEQ hIn
   by_cases h1 : ha = 0
   ·have HR4 : Hid (R = decide (kids.ks = wl)) := Lib.hid (HR3.out.trans (by rw [decide_eq_true h1, Bool.true_and]))
    subst h1
    go_wp2_with (fail)
    refine HEQ.out.mono ?_
    rintro e11 w11 ⟨rfl, hb11⟩
    have HF := Lib.hid (Hb10.out.trans (hb11.mono Hb10.out.size))
    clear hb11
    generalize decide (kids.ks = wl) = S at HR4 ⊢
    go_wp2_with (fail)
    first | exact ⟨by rw [HR4.out], HF.out⟩ | exact bodyPost_ret (v := .bool S) (by simp [results, Try.results96, go_sem]; try first | rfl | assumption | omega) rfl ⟨by rw [HR4.out], HF.out⟩
   ·have HF : Hid (R = false) := Lib.hid (HR3.out.trans (by rw [decide_eq_false h1, Bool.false_and]))
    have hne : (ha == 0) = false := by rw [beq_eq_false_iff_ne]; exact h1
    go_wp2_with (fail)
    first | exact ⟨by rw [HF.out], Hb10.out⟩ | exact bodyPost_ret (v := .bool false) (by simp [results, Try.results96, go_sem]; try first | rfl | assumption | omega) rfl ⟨by rw [HF.out], Hb10.out⟩
end Go.Proofs.Ythogiakfbgehnaa
namespace Go.Proofs.Ythogiakfbgehnaa
open Go.RowKit Go.Maps
attribute [local go_sem] Oper.semAt_some
theorem TrF.len_nil {f : TrF} : f.len = 0 ↔ f = .nil := by
 cases f with
 | nil => exact ⟨fun _ => rfl, fun _ => rfl⟩
 | cons h k r => exact ⟨fun e => by simp [TrF.len] at e, fun e => by cases e⟩
/-- Trees that are these symbols', each node right, each token a known one. -/
def goodT (d : CfD) (f : TrF) (ks : List Int) : Prop := goodW d f ks ∧ ∀ t ∈ f.yt, t < (d.toks.length : Int)
theorem goodT_cons {d : CfD} {h : TrH} {kids rest : TrF} {ks : List Int} : goodT d (.cons h kids rest) ks ↔ ∃ ks', ks = h.k :: ks' ∧ ((0 ≤ h.k ∧ h.k < (d.toks.length : Int) ∧ kids = .nil ∧ h.i = 0) ∨ (h.k < 0 ∧ h.a = 0 ∧ ∃ al, altD d h.k h.i = some al ∧ goodT d kids al.l)) ∧ goodT d rest ks' := by
 have hyt : (TrF.cons h kids rest).yt = (if 0 ≤ h.k then [h.k] else kids.yt) ++ rest.yt := rfl
 unfold goodT
 rw [hyt]
 constructor
 ·rintro ⟨h1, h2⟩
  obtain ⟨ks', e, h3, h4⟩ := goodW_cons h1
  refine ⟨ks', e, ?_, h4, fun t ht => h2 t (List.mem_append_right _ ht)⟩
  rcases h3 with ⟨k0, k1, k2⟩ | ⟨k0, k1, al, k2, k3⟩
  ·exact .inl ⟨k0, h2 h.k (List.mem_append_left _ (by rw [if_pos k0]; exact List.mem_singleton.2 rfl)), k1, k2⟩
  ·exact .inr ⟨k0, k1, al, k2, k3, fun t ht => h2 t (List.mem_append_left _ (by rw [if_neg (by omega)]; exact ht))⟩
 ·rintro ⟨ks', e, h3, h4, h5⟩
  refine ⟨?_, fun t ht => ?_⟩
  ·unfold goodW
   refine ⟨ks', e, ?_, h4⟩
   rcases h3 with ⟨k0, _, k1, k2⟩ | ⟨k0, k1, al, k2, k3, _⟩
   ·exact .inl ⟨k0, k1, k2⟩
   ·exact .inr ⟨k0, k1, al, k2, k3⟩
  ·rcases List.mem_append.1 ht with ht | ht
   ·rcases h3 with ⟨k0, k1, _⟩ | ⟨k0, _, al, _, _, k3⟩
    ·rw [if_pos k0] at ht
     rw [List.mem_singleton.1 ht]; exact k1
    ·rw [if_neg (by omega)] at ht
     exact k3 t ht
   ·exact h5 t ht
/-- All nodes are right just if the trees are their symbols'. -/
theorem good_pre (d : CfD) (f : TrF) : ∀ (ks : List Int) (n : Nat), goodT d f ks ↔ f.ks = ks ∧ ∀ x ∈ f.pre true n, rightD d x.h x.kids = true := by
 induction f with
 | nil =>
  intro ks n
  unfold goodT goodW
  exact ⟨fun h => ⟨h.1.symm, fun x hx => absurd hx (by simp [TrF.pre])⟩, fun h => ⟨h.1.symm, fun t ht => absurd ht (by simp [TrF.yt])⟩⟩
 | cons h kids rest ihk ihr =>
  intro ks n
  rw [goodT_cons, TrF.pre_cons]
  have hks : (TrF.cons h kids rest).ks = h.k :: rest.ks := rfl
  rw [hks]
  constructor
  ·rintro ⟨ks', rfl, h3, h4⟩
   obtain ⟨e, h5⟩ := (ihr ks' n).1 h4
   refine ⟨by rw [e], fun x hx => ?_⟩
   rcases List.mem_cons.1 hx with rfl | hx
   ·unfold rightD
    rcases h3 with ⟨k0, k1, k2, k3⟩ | ⟨k0, k1, al, k2, k3⟩
    ·rw [if_pos k0, decide_eq_true k1, decide_eq_true k3, decide_eq_true (TrF.len_nil.2 k2)]; rfl
    ·rw [if_neg (by dsimp only; omega)]
     dsimp only
     rw [k2]
     dsimp only
     rw [decide_eq_true k1, decide_eq_true ((ihk al.l (n + 1)).1 k3).1]; rfl
   ·rcases List.mem_append.1 hx with hx | hx
    ·rcases h3 with ⟨k0, k1, k2, k3⟩ | ⟨k0, k1, al, k2, k3⟩
     ·rw [show told true h kids = .nil from by unfold told; rw [if_pos (by simpa using k0)]] at hx
      exact absurd hx (by simp [TrF.pre])
     ·rw [show told true h kids = kids from by unfold told; rw [if_neg (by simp; omega)]] at hx
      exact ((ihk al.l (n + 1)).1 k3).2 x hx
    ·exact h5 x hx
  ·rintro ⟨rfl, hx⟩
   have hr := hx _ List.mem_cons_self
   refine ⟨rest.ks, rfl, ?_, (ihr _ n).2 ⟨rfl, fun x h => hx x (List.mem_cons_of_mem _ (List.mem_append_right _ h))⟩⟩
   unfold rightD at hr
   dsimp only at hr
   by_cases k0 : 0 ≤ h.k
   ·rw [if_pos k0] at hr
    simp only [Bool.and_eq_true, decide_eq_true_eq] at hr
    exact .inl ⟨k0, hr.1.1, TrF.len_nil.1 hr.2, hr.1.2⟩
   ·rw [if_neg k0] at hr
    cases hal : altD d h.k h.i with
    | none => rw [hal] at hr; cases hr
    | some al =>
     rw [hal] at hr
     dsimp only at hr
     simp only [Bool.and_eq_true, decide_eq_true_eq] at hr
     refine .inr ⟨by omega, hr.1, al, rfl, (ihk al.l (n + 1)).2 ⟨hr.2, fun x h => hx x (List.mem_cons_of_mem _ (List.mem_append_left _ ?_))⟩⟩
     rw [show told true _ kids = kids from by unfold told; rw [if_neg (by simp; omega)]]
     exact h
end Go.Proofs.Ythogiakfbgehnaa
namespace Go.Proofs.Ythogiakfbgehnaa
open Go.RowKit Go.Maps
attribute [local go_sem] Oper.semAt_some
/-- A token's place. -/
def ndA (x : NdT) : Option Int := if 0 ≤ x.h.k then some x.h.a else none
theorem pre_ya (f : TrF) : ∀ d, (f.pre true d).filterMap ndA = f.ya := by
 induction f with
 | nil => intro d; rfl
 | cons h kids rest ihk ihr =>
  intro d
  show List.filterMap ndA (⟨d, h, kids⟩ :: ((if true && decide (0 ≤ h.k) then [] else kids.pre true (d + 1)) ++ rest.pre true d)) = _
  by_cases h0 : 0 ≤ h.k
  ·simp [ndA, h0, TrF.ya, ihr, List.filterMap_cons]
  ·simp [ndA, h0, TrF.ya, List.filterMap_cons, List.filterMap_append]
   exact congr (congrArg _ (ihk (d + 1))) (ihr d)
/-- A tree is a derivation of these tokens, each at its place. -/
def ChkD (d : CfD) (h : TrH) (kids : TrF) (toks : List Int) : Prop :=
 h.k = -1 ∧ goodT d (.cons h kids .nil) [-1] ∧ (TrF.cons h kids .nil).yt = toks ∧ (TrF.cons h kids .nil).ya = rngI 0 toks.length
/-- So far all is right, and so many tokens came. -/
structure ChkP (d : CfD) (toks : List Int) (ns : List NdT) (c : Nat) : Prop where
 rt : ∀ x ∈ ns, rightD d x.h x.kids = true
 le : c ≤ toks.length
 yt : ns.filterMap ndY = toks.take c
 ya : ns.filterMap ndA = rngI 0 c
theorem ChkP.nil (d : CfD) (toks : List Int) : ChkP d toks [] 0 := ⟨fun x hx => absurd hx (by simp), Nat.zero_le _, by simp, by simp [rngI]⟩
section
variable {d : CfD} {toks : List Int} {ns : List NdT} {c : Nat} {x : NdT}
theorem ChkP.rule (h : ChkP d toks ns c) (hr : rightD d x.h x.kids = true) (h0 : ¬ 0 ≤ x.h.k) : ChkP d toks (ns ++ [x]) c := by
 refine ⟨fun y hy => ?_, h.le, ?_, ?_⟩
 ·rcases List.mem_append.1 hy with hy | hy
  ·exact h.rt y hy
  ·rw [List.mem_singleton.1 hy]; exact hr
 ·rw [List.filterMap_append, h.yt]; simp [ndY, h0]
 ·rw [List.filterMap_append, h.ya]; simp [ndA, h0]
theorem rngI_succ (c : Nat) : rngI 0 (c + 1) = rngI 0 c ++ [(c : Int)] := by
 unfold rngI
 rw [Nat.sub_zero, Nat.sub_zero, List.range_succ, List.map_append]
 simp
theorem ChkP.tok (h : ChkP d toks ns c) (hr : rightD d x.h x.kids = true) (h0 : 0 ≤ x.h.k) (hc : c < toks.length) (he : x.h.k = toks[c]) (ha : x.h.a = (c : Int)) : ChkP d toks (ns ++ [x]) (c + 1) := by
 refine ⟨fun y hy => ?_, hc, ?_, ?_⟩
 ·rcases List.mem_append.1 hy with hy | hy
  ·exact h.rt y hy
  ·rw [List.mem_singleton.1 hy]; exact hr
 ·rw [List.filterMap_append, h.yt, List.take_add_one, List.getElem?_eq_getElem hc, ← he]; simp [ndY, h0]
 ·rw [List.filterMap_append, h.ya, rngI_succ, ← ha]; simp [ndA, h0]
end
theorem ChkP.done {d : CfD} {toks : List Int} {h : TrH} {kids : TrF} {c : Nat} (hp : ChkP d toks ((TrF.cons h kids .nil).pre true 1) c) (h0 : h.k = -1) : ChkD d h kids toks ↔ c = toks.length := by
 have e1 := hp.yt
 have e2 := hp.ya
 rw [pre_yt] at e1
 rw [pre_ya] at e2
 constructor
 ·rintro ⟨_, _, h1, _⟩
  have h2 := congrArg List.length (e1.symm.trans h1)
  rw [List.length_take] at h2
  have := hp.le
  omega
 ·rintro rfl
  rw [List.take_length] at e1
  exact ⟨h0, (good_pre d _ _ 1).2 ⟨by show [h.k] = [-1]; rw [h0], hp.rt⟩, e1, e2⟩
theorem ChkP.bad {d : CfD} {toks : List Int} {h : TrH} {kids : TrF} {c : Nat} {ns : List NdT} {x : NdT} (hp : ChkP d toks ns c) (hr : ∃ r, (ns ++ [x]) ++ r = (TrF.cons h kids .nil).pre true 1)
 (hb : rightD d x.h x.kids = false ∨ (0 ≤ x.h.k ∧ (c = toks.length ∨ (∃ hc : c < toks.length, x.h.k ≠ toks[c]) ∨ x.h.a ≠ (c : Int)))) : ¬ ChkD d h kids toks := by
 rintro ⟨_, h1, h2, h3⟩
 obtain ⟨r, hr⟩ := hr
 have hg := ((good_pre d _ _ 1).1 h1).2
 rw [← pre_yt _ 1, ← hr, List.filterMap_append, List.filterMap_append, hp.yt] at h2
 rw [← pre_ya _ 1, ← hr, List.filterMap_append, List.filterMap_append, hp.ya] at h3
 rcases hb with hb | ⟨h0, hb⟩
 ·have := hg x (by rw [← hr]; simp)
  rw [hb] at this
  cases this
 ·have e1 : [x].filterMap ndY = [x.h.k] := by simp [ndY, h0]
  have e2 : [x].filterMap ndA = [x.h.a] := by simp [ndA, h0]
  rw [e1] at h2
  rw [e2] at h3
  have hcl : (toks.take c).length = c := by rw [List.length_take]; have := hp.le; omega
  have hl := congrArg List.length h2
  simp only [List.length_append, hcl, List.length_singleton] at hl
  have hc : c < toks.length := by omega
  rcases hb with hb | ⟨_, hb⟩ | hb
  ·omega
  ·have := congrArg (fun l : List Int => l[c]?) h2
   simp only [List.append_assoc] at this
   rw [List.getElem?_append_right (by omega), hcl, Nat.sub_self, List.getElem?_eq_getElem hc] at this
   exact hb (by simpa using this)
  ·have hrl : (rngI 0 c).length = c := by unfold rngI; simp
   have h9 : (rngI 0 toks.length)[c]? = some (c : Int) := by
    unfold rngI
    rw [List.getElem?_map, List.getElem?_range (by omega)]
    simp
   have := congrArg (fun l : List Int => l[c]?) h3
   simp only [List.append_assoc] at this
   rw [List.getElem?_append_right (by omega), hrl, Nat.sub_self, h9] at this
   exact hb (by simpa using this)
end Go.Proofs.Ythogiakfbgehnaa
namespace Go.Proofs.Ythogiakfbgehnaa
open Go.RowKit Go.Maps
attribute [local go_sem] Oper.semAt_some
theorem ints_blk {w : World} {z : Nat} {x : Int} (h : Blk w z 3 [.int .i64 x]) : Ints w (some ⟨z, 0, none⟩) 1 [x] :=
 ⟨Nat.le_refl _, by omega, (fun e => by cases e), fun i _ => ⟨z, 0, rfl⟩, fun b off e i hi => by
  injection e with e
  injection e with e1 e2 _
  subst e1 e2
  have hi : i = 0 := by simpa using hi
  subst hi
  exact h.cell 0⟩
theorem OwnKZ.pushY {w : World} {base cap : Nat} {a : Option Addr} {l : List Int} (h : OwnKZ w base a cap l) {z : Nat} {x : Int} (hz : Blk w z 3 [.int .i64 x]) (ty : TypeId) (hn : l.length + 1 ≤ 1099511627780) (hb : base ≤ w.heap.size) :
 ∃ a' c' w', (Builtin.append_ #[35, 35] ty #[.slice a l.length cap, .slice (some ⟨z, 0, none⟩) 1 1]).run Try.prog w = .ok (.slice a' (l ++ [x]).length c') w' ∧
  OwnKZ w' base a' c' (l ++ [x]) ∧ w.grownBy w' (Value.slice a l.length cap).ownBlock ∧ (∀ g, (Value.slice a' (l ++ [x]).length c').ownBlock = some g → (Value.slice a l.length cap).ownBlock = some g ∨ g = w.heap.size) := by
 obtain ⟨a', c', w', hrun, ho, hg, hw⟩ := h.app2 ⟨z, 0, none⟩ 1 [x] (ints_blk hz) ty hn hb
 refine ⟨a', c', w', by rw [List.length_append]; exact hrun, ho, hg, fun g e => ?_⟩
 rw [List.length_append] at e
 rcases hw with hw | hw
 ·exact .inl (hw.symm.trans e)
 ·exact .inr (Option.some.inj (e.symm.trans hw))
/-- A tree's tokens, and their places. -/
def y1 (h : TrH) (kids : TrF) : List Int := if 0 ≤ h.k then [h.k] else kids.yt
def y2 (h : TrH) (kids : TrF) : List Int := if 0 ≤ h.k then [h.a] else kids.ya
end Go.Proofs.Ythogiakfbgehnaa
namespace Go.Proofs.Ythogiakfbgehnaa
open Go.RowKit Go.Shelf
attribute [local go_sem] Oper.semAt_some
/-- An own row of numbers is no block that the iterator writes. -/
theorem own_neZ {W : World} {base cap : Nat} {a : Option Addr} {l : List Int} (h : OwnKZ W base a cap l) {T : TypeId → Bool} (he : T 3 = false) {r : Nat} {o : Obj} (ho : W.heap[r]? = some o) (ht : Turns T o) : (Value.slice a l.length cap).ownBlock ≠ some r := by
 intro hv
 rcases h.2 with ⟨e, _⟩ | ⟨g, cp, cur, e, hb, hg, _⟩
 ·rw [e] at hv
  simp [Value.ownBlock] at hv
 ·rw [e] at hv
  simp only [Value.ownBlock, Option.some.injEq] at hv
  subst hv
  rw [ho] at hg
  cases hg
  rcases ht with hc | ⟨cs, t', fr, e2, ht'⟩
  ·cases hc
  ·cases e2; rw [he] at ht'; cases ht'
/-- It lies from base on, and holds numbers. -/
theorem own_atZ {W : World} {base cap : Nat} {a : Option Addr} {l : List Int} (h : OwnKZ W base a cap l) {r : Nat} (hv : (Value.slice a l.length cap).ownBlock = some r) : base ≤ r ∧ ∃ cur fr, W.heap[r]? = some (.cells cur 3 fr) := by
 rcases h.2 with ⟨e, _⟩ | ⟨g, cp, cur, e, hb, hg, _⟩
 ·rw [e] at hv
  simp [Value.ownBlock] at hv
 ·rw [e] at hv
  simp only [Value.ownBlock, Option.some.injEq] at hv
  subst hv
  exact ⟨hb, _, _, hg⟩
/-- Between two rounds: what was taken of the nodes so far. -/
def YldI (q : NdT → Option Int) (w : World) (pre : List NxT) (W : World) : Prop :=
 Below w.heap.size w W ∧ pre.length ≤ 1099511627777 ∧ ∃ ta tc xs, xs = (pre.map (·.nd)).filterMap q ∧ Boxed W (w.heap.size + 1) 35 (.slice ta xs.length tc) ∧ OwnKZ W w.heap.size ta tc xs
theorem bears_yld (q : NdT → Option Int) (w : World) (B : Nat) (hB : w.heap.size ≤ B) : Bears B itTT (YldI q w) := by
 rintro s W W' row ⟨h1, hp, ta, tc, xs, h2, h3, h4⟩ hg hr
 refine ⟨h1.grown hg h1.size (fun k e => by have := (hr k e).1; omega), hp, ta, tc, xs, h2, ?_, ?_⟩
 ·exact bears_boxed B _ _ (by decide) (fun _ : Unit => .slice ta xs.length tc) () W W' row h3 hg hr
 ·refine h4.kept hg (fun r e => ?_)
  obtain ⟨_, o, ho, ht⟩ := hr r e
  exact own_neZ h4 (by decide) ho ht
theorem yld_len {q : NdT → Option Int} {pre : List NxT} : ((pre.map (·.nd)).filterMap q).length ≤ pre.length := by
 refine Nat.le_trans (List.length_filterMap_le _ _) ?_
 rw [List.length_map]
 exact Nat.le_refl _
/-- A number is put behind the row, and the row into its box. -/
theorem yld_push {w W2 W3 : World} {B : Nat} {ta : Option Addr} {tc : Nat} {xs : List Int} (hb : Below W2.heap.size W2 W3) (hB : Below w.heap.size w W3) (h1 : Boxed W3 (w.heap.size + 1) 35 (.slice ta xs.length tc)) (h2 : OwnKZ W3 w.heap.size ta tc xs)
 (g1 : w.heap.size + 1 < B) (hW2 : w.heap.size + 1 < W2.heap.size) (hn : xs.length + 1 ≤ 1099511627780) (x : Int) (h02 : OwnKZ W2 w.heap.size ta tc xs) (hx1 : Boxed W2 (w.heap.size + 1) 35 (.slice ta xs.length tc)) :
 ∃ a' c' w6, (Builtin.append_ #[35, 35] 35 #[.slice ta xs.length tc, .slice (some ⟨W3.heap.size, 0, none⟩) 1 1]).run Try.prog (W3.alloc (.cells #[.int .i64 x] 3)) = .ok (.slice a' (xs ++ [x]).length c') w6 ∧
  Boxed w6 (w.heap.size + 1) 35 (.slice ta xs.length tc) ∧
  (KeepsFrom B W2 (w6.setCell ⟨w.heap.size + 1, 0, none⟩ (.slice a' (xs ++ [x]).length c')) ∧ Spares w.heap.size itTT W2 (w6.setCell ⟨w.heap.size + 1, 0, none⟩ (.slice a' (xs ++ [x]).length c')) ∧
  Below w.heap.size w (w6.setCell ⟨w.heap.size + 1, 0, none⟩ (.slice a' (xs ++ [x]).length c')) ∧ Boxed (w6.setCell ⟨w.heap.size + 1, 0, none⟩ (.slice a' (xs ++ [x]).length c')) (w.heap.size + 1) 35 (.slice a' (xs ++ [x]).length c') ∧ OwnKZ (w6.setCell ⟨w.heap.size + 1, 0, none⟩ (.slice a' (xs ++ [x]).length c')) w.heap.size a' c' (xs ++ [x])) := by
 have hz : Blk (W3.alloc (.cells #[.int .i64 x] 3)) W3.heap.size 3 [.int .i64 x] := Blk.new W3 3 #[.int .i64 x]
 obtain ⟨a', c', w6, hrun, ho, hg, -⟩ := OwnKZ.pushY (World.ownsRow.alloc h2 (.cells #[.int .i64 x] 3)) hz 35 hn (by have := hB.size; simp; omega)
 have hgA : W2.grownBy w6 (Value.slice ta xs.length tc).ownBlock := grownBy_trans (grownBy_trans (below_grownBy hb _) (World.grownBy_alloc W3 (.cells #[.int .i64 x] 3) none) (fun i e => by cases e)) hg (fun i e => .inl e)
 have hb6 : Boxed w6 (w.heap.size + 1) 35 (.slice ta xs.length tc) := hx1.kept hgA (fun e => own_neZ h02 (T := fun t => t == 35) (by decide) hx1 (.inr ⟨_, _, _, rfl, by decide⟩) e.symm)
 have hg2 := grownBy_set w6 (w.heap.size + 1) 0 (.slice a' (xs ++ [x]).length c')
 have hbw : Below w.heap.size w w6 := hB.trans (((Below.refl w.heap.size W3).alloc hB.size _).grown hg (by have := hB.size; simp; omega) (fun k e => by have := (own_atZ h2 e).1; omega))
 refine ⟨a', c', w6, hrun, hb6, ⟨?_, ?_, hbw.setCell (p := ⟨w.heap.size + 1, 0, none⟩) (by simp) _, hb6.set _, ho.kept hg2 (fun g e => ?_)⟩⟩
 ·refine KeepsFrom.trans (Y := w6) ⟨hgA.size, fun i o hi ho' hc => ?_⟩ ((KeepsOthers.setCell w6 _ _).from _)
  exact (hgA.block i (Array.getElem?_eq_some_iff.1 ho').1 (fun e => own_neZ h02 (T := fun _ => false) rfl ho' (.inl hc) e.symm)).trans ho'
 ·refine (Spares.grown hgA (by omega) (fun r e => ⟨(own_atZ h02 e).1, fun cs t fr hcs => ?_⟩)).trans (Spares.grown hg2 hbw.size (fun r e => by cases e; exact ⟨by omega, fun cs t fr hcs => by rw [show w6.heap[w.heap.size + 1]? = _ from hb6] at hcs; cases hcs; decide⟩))
  obtain ⟨_, cur, fr', hcur⟩ := own_atZ h02 e
  rw [hcur] at hcs
  cases hcs
  decide
 ·cases e
  exact own_neZ ho (T := fun t => t == 35) (by decide) hb6 (.inr ⟨_, _, _, rfl, by decide⟩)
end Go.Proofs.Ythogiakfbgehnaa
