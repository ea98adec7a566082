/- Texts joined: Tq Tv Tz. -/
import Derived.Test.YthogiakfbgehnaaRDAy
import Derived.Test.YthogiakfbgehnaaRDAa
import Derived.TacticsInMore
import Derived.OwnWalkIn
import Derived.Sort.QuietIn
import Derived.StillTail
import Derived.StillTactics
set_option linter.unusedVariables false
set_option linter.unusedSimpArgs false
namespace Go.Proofs.Ythogiakfbgehnaa
open Go.RowKit Go.Shelf
attribute [local go_sem] Oper.semAt_some
theorem wpListIn_append_runT {l n : Nat} {P : Program} {w : World} {ops : Array Oper} {rest : List Oper} {o : Oper} {a : Act} {Q : Exit → Act → World → Prop} (hg : o.guard = none) (s x : Operand) (t t2 : TypeId)
 (hop : o.op = Op.call { callee := Callee.builtin Builtin.append, args := #[s, x], argTypes := #[t, t2] }) (vs vx v' : Value) (w' : World) (hs : a.eval s = vs) (hx : a.eval x = vx)
 (hrun : (Builtin.append_ #[t, t2] o.type #[vs, vx]).run P w = .ok v' w') (hK : wpListIn (Fence.wide.inRound l) n P ops Q rest (a.put o.dst v') w') : wpListIn (Fence.wide.inRound l) n P ops Q (o :: rest) a w := by
 refine wpListIn_plain hg fun K' hK' => ?_
 unfold Oper.wpIn
 refine ⟨fun _ _ => trivial, ?_⟩
 rw [Oper.semAt_eq _ _ _ (by rw [hop]; intro c hc; cases hc)]
 simp [execOp, hop, resolve, invoke, builtin, hs, hx, hrun, Result.andThen]
 exact hK' _ _ hK
set_option maxRecDepth 100000 in
set_option maxHeartbeats 8000000 in
theorem tyield_any (h : TrH) (kids : TrF) (a : Option Addr) (cap : Nat) (w : World) (hk : TrS w (fun _ => True) a cap kids) (hN : kids.size ≤ 1099511627770) :
 Calls Try.prog 53 #[treV h a kids.len cap] w fun e w' => ∃ ra rc, e = .returned (.slice ra (TrF.yt (.cons h kids .nil)).length rc) ∧ OwnKZ w' w.heap.size ra rc (TrF.yt (.cons h kids .nil)) ∧ Below w.heap.size w w' := by
 have hN' : kids.size ≤ 1099511627776 := by omega
 have HD := Lib.hid (fun V => derived_any h a kids.len cap V)
 refine (callsIn_wide (n := 0)).1 ?_
 refine callsIn_of_wp_marks Try.func53 rfl trivial ?_ rfl
 simp only [Try.ntmps53, List.size_toArray, List.length_cons, List.length_nil, Nat.reduceAdd, Nat.reduceSub, Array.replicate_succ, Array.replicate_zero, List.push_toArray, List.append_toArray, List.nil_append, List.cons_append]
 gi_wp2_with (fail)
 refine ⟨trivial, rfl, ((callsIn_wide (n := 0)).2 (HD.out _)).mono ?_⟩
 rintro e w' ⟨rfl, rfl⟩
 gi_wp2_with (fail)
 clear HD
 unfold derW
 have hbel : Below w.heap.size w (((((w.alloc (.cells #[.int .i64 h.k, .int .i64 h.i, .int .i64 h.a, .slice a kids.len cap] 51)).alloc (.cells #[.slice none 0 0] 35)).alloc (.cells #[.int .i64 h.k, .int .i64 h.i, .int .i64 h.a, .slice a kids.len cap] 51)).alloc (.cells #[.int .i64 h.k, .int .i64 h.i, .int .i64 h.a, .slice a kids.len cap] 51)).alloc (.cells #[inVT 131] 135)) := (((((Below.refl _ w).alloc (Nat.le_refl _) _).alloc (by simp) _).alloc (by simp; omega) _).alloc (by simp; omega) _).alloc (by simp; omega) _
 have hB3 := (Blk.new (((w.alloc (.cells #[.int .i64 h.k, .int .i64 h.i, .int .i64 h.a, .slice a kids.len cap] 51)).alloc (.cells #[.slice none 0 0] 35)).alloc (.cells #[.int .i64 h.k, .int .i64 h.i, .int .i64 h.a, .slice a kids.len cap] 51)) 51 #[.int .i64 h.k, .int .i64 h.i, .int .i64 h.a, .slice a kids.len cap]).alloc (.cells #[inVT 131] 135)
 have hBi := World.alloc_heap_new ((((w.alloc (.cells #[.int .i64 h.k, .int .i64 h.i, .int .i64 h.a, .slice a kids.len cap] 51)).alloc (.cells #[.slice none 0 0] 35)).alloc (.cells #[.int .i64 h.k, .int .i64 h.i, .int .i64 h.a, .slice a kids.len cap] 51)).alloc (.cells #[.int .i64 h.k, .int .i64 h.i, .int .i64 h.a, .slice a kids.len cap] 51)) (.cells #[inVT 131] 135)
 rw [World.size_alloc, World.size_alloc, World.size_alloc, World.size_alloc] at hBi
 have hb1 : Boxed (((((w.alloc (.cells #[.int .i64 h.k, .int .i64 h.i, .int .i64 h.a, .slice a kids.len cap] 51)).alloc (.cells #[.slice none 0 0] 35)).alloc (.cells #[.int .i64 h.k, .int .i64 h.i, .int .i64 h.a, .slice a kids.len cap] 51)).alloc (.cells #[.int .i64 h.k, .int .i64 h.i, .int .i64 h.a, .slice a kids.len cap] 51)).alloc (.cells #[inVT 131] 135)) (w.heap.size + 1) 35 (.slice none 0 0) := by
  have := (Boxed.new (w.alloc (.cells #[.int .i64 h.k, .int .i64 h.i, .int .i64 h.a, .slice a kids.len cap] 51)) 35 (.slice none 0 0))
  rw [World.size_alloc] at this
  exact ((this.alloc _).alloc _).alloc _
 rw [World.size_alloc, World.size_alloc, World.size_alloc] at hB3
 have hws : ((((((w.alloc (.cells #[.int .i64 h.k, .int .i64 h.i, .int .i64 h.a, .slice a kids.len cap] 51)).alloc (.cells #[.slice none 0 0] 35)).alloc (.cells #[.int .i64 h.k, .int .i64 h.i, .int .i64 h.a, .slice a kids.len cap] 51)).alloc (.cells #[.int .i64 h.k, .int .i64 h.i, .int .i64 h.a, .slice a kids.len cap] 51)).alloc (.cells #[inVT 131] 135))).heap.size = w.heap.size + 1 + 1 + 1 + 1 + 1 := by simp
 rw [show derV ((w.alloc (.cells #[.int .i64 h.k, .int .i64 h.i, .int .i64 h.a, .slice a kids.len cap] 51)).alloc (.cells #[.slice none 0 0] 35)) = .func (.func 143) #[] #[.pointer (some ⟨w.heap.size + 1 + 1 + 1, 0, none⟩), .pointer (some ⟨w.heap.size + 1 + 1 + 1 + 1, 0, none⟩)] from by unfold derV; rw [World.size_alloc, World.size_alloc]]
 generalize (((((w.alloc (.cells #[.int .i64 h.k, .int .i64 h.i, .int .i64 h.a, .slice a kids.len cap] 51)).alloc (.cells #[.slice none 0 0] 35)).alloc (.cells #[.int .i64 h.k, .int .i64 h.i, .int .i64 h.a, .slice a kids.len cap] 51)).alloc (.cells #[.int .i64 h.k, .int .i64 h.i, .int .i64 h.a, .slice a kids.len cap] 51)).alloc (.cells #[inVT 131] 135)) = wl at hbel hB3 hBi hb1 hws ⊢
 have Hws := Lib.hid hws
 clear hws
 refine range_law (T := itTT) (n₀ := w.heap.size) (encs := encsT) (Good := GoodT w (TrF.pre true 1 (.cons h kids .nil))) (Full := FullT (TrF.pre true 1 (.cons h kids .nil))) (gf := 143) (lb := #[.pointer (some ⟨w.heap.size + 1 + 1 + 1, 0, none⟩), .pointer (some ⟨w.heap.size + 1 + 1 + 1 + 1, 0, none⟩)]) rfl (enters_of Try.func143 (by kernel_rfl) rfl)
  hbel.size (all_walksD w wl (w.heap.size + 1 + 1 + 1) (w.heap.size + 1 + 1 + 1 + 1) h kids a cap hk hbel hN' (hB3.cell 0) (hB3.cell 1) (hB3.cell 2) (hB3.cell 3) hBi) (fun _ => rfl)
  (YldI ndY w) (fun _ _ => False)
  ?bI ?bIx ?h0 ?round ?done ?stop
 case bI => exact bears_yld ndY w _ hbel.size
 case bIx => exact fun _ _ _ _ h => h.elim
 case h0 => exact ⟨hbel, Nat.zero_le _, none, 0, [], rfl, hb1, OwnKZ.nil _ _⟩
 case stop => rintro D pre W hD hgood hI; exact hI.elim
 case round =>
  rintro l pre ⟨⟨d, hd, kf⟩, xa, xcap⟩ W hl ⟨r, hr⟩ hI hgood
  obtain ⟨hB, h1, ta, tc, xs, hxs, hbx, ho⟩ := hI
  have hle : pre.length + 1 ≤ 1099511627771 := by
   obtain ⟨⟨q, hq⟩, -⟩ := hgood
   have h8 := congrArg List.length hq
   have h9 := TrF.pre_le true (.cons h kids .nil) 1
   rw [List.length_append, List.length_map, List.length_append] at h8
   simp only [List.length_singleton, TrF.size] at h8 h9
   omega
  have hxl : xs.length ≤ pre.length := by rw [hxs]; exact yld_len
  have Hxs := Lib.hid hxs
  clear hxs
  have hbl : w.heap.size + 1 < W.heap.size := (Array.getElem?_eq_some_iff.1 hbx).1
  have hlm := OwnKZ.le ho
  dsimp only [encsT, treV]
  obtain ⟨ln, hln⟩ : ∃ q, Hid (kf.len = q) := ⟨_, Lib.hid rfl⟩
  rw [hln.out]
  have hws : w.heap.size + 5 ≤ wl.heap.size := by have := Hws.out; omega
  have hle : pre.length + 1 ≤ 1099511627777 := by omega
  have hxl : xs.length + 1 ≤ 1099511627780 := by omega
  have hlW : l < W.heap.size := (Array.getElem?_eq_some_iff.1 hr).1
  have HIT := Lib.hid (fun V => isTok_any hd xa ln xcap V)
  gi_wp2_with (fail)
  refine ⟨(KeepsOthers.alloc W _).from _, Spares.grown (World.grownBy_alloc W _ none) hB.size (fun r e => by cases e), fun W2 hg2 => ?_⟩
  have hx := (Blk.new W 51 #[.int .i64 hd.k, .int .i64 hd.i, .int .i64 hd.a, .slice xa ln xcap]).kept hg2 (by simp; omega)
  have hb2 := (hbx.alloc (.cells #[.int .i64 hd.k, .int .i64 hd.i, .int .i64 hd.a, .slice xa ln xcap] 51)).kept hg2 (by simp; omega)
  have ho2 : OwnKZ W2 w.heap.size ta tc xs := OwnKZ.kept (World.ownsRow.alloc ho _) hg2 (fun g e => by cases e; exact own_neZ ho (T := fun _ => false) rfl hr (.inl rfl))
  have hB2 : Below w.heap.size w W2 := hB.trans (((Below.refl w.heap.size W).alloc hB.size _).grown hg2 (by have := hB.size; simp; omega) (fun k e => by cases e; omega))
  have hW2s : W.heap.size < W2.heap.size := hx.lt
  have hszB := hB.size
  have x0 := hx.cell 0
  have x1 := hx.cell 1
  have x2 := hx.cell 2
  have x3 := hx.cell 3
  simp only [List.getElem?_cons_zero, List.getElem?_cons_succ] at x0 x1 x2 x3
  have HX := Lib.hid hx
  clear hx hg2 hr hB hlW ho hbx
  gi_wp2_with (fail)
  refine ⟨trivial, rfl, ((callsIn_wide (n := 0)).2 (HIT.out _)).mono ?_⟩
  rintro e w3 ⟨rfl, hb3⟩
  clear HIT
  have hX3 := HX.out.below hb3 HX.out.lt
  have y0 := hX3.cell 0
  have y1 := hX3.cell 1
  have yl := hX3.lt
  simp only [List.getElem?_cons_zero, List.getElem?_cons_succ] at y0 y1
  have hb3x : Boxed w3 (w.heap.size + 1) 35 (.slice ta xs.length tc) := hb2.kept (below_grownBy hb3 none) (by simp)
  have ho3 : OwnKZ w3 w.heap.size ta tc xs := ho2.belowZ hb3
  have hB3 : Below w.heap.size w w3 := hB2.trans (hb3.mono hB2.size)
  have hs3 := hb3.size
  clear x0 x1 x2 x3 hX3 HX hB2
  by_cases h0 : 0 ≤ hd.k
  ·have e0 : decide (0 ≤ hd.k) = true := decide_eq_true h0
   dsimp only
   rw [e0]
   have hq : Hid ((((pre ++ [⟨⟨d, hd, kf⟩, xa, xcap⟩] : List NxT)).map (·.nd)).filterMap ndY = xs ++ [hd.k]) := Lib.hid (by rw [List.map_append, List.filterMap_append, ← Hxs.out]; simp [ndY, h0])
   obtain ⟨a6, c6, w6, hrun, hb6, hfin⟩ := yld_push (B := wl.heap.size) hb3 hB3 hb3x ho3 (by omega) (by omega) (by omega) hd.k ho2 hb2
   obtain ⟨ys, hys⟩ : ∃ ys, Hid (xs ++ [hd.k] = ys) := ⟨_, Lib.hid rfl⟩
   rw [hys.out] at hrun hfin
   have hq := Lib.hid (hq.out.trans hys.out)
   have Hrun := Lib.hid hrun
   have HE : Hid (KeepsFrom wl.heap.size W2 (w6.setCell ⟨w.heap.size + 1, 0, none⟩ (.slice a6 ys.length c6)) ∧ Spares w.heap.size itTT W2 (w6.setCell ⟨w.heap.size + 1, 0, none⟩ (.slice a6 ys.length c6)) ∧ YldI ndY w (pre ++ [⟨⟨d, hd, kf⟩, xa, xcap⟩]) (w6.setCell ⟨w.heap.size + 1, 0, none⟩ (.slice a6 ys.length c6))) :=
    Lib.hid ⟨hfin.1, hfin.2.1, hfin.2.2.1, by rw [List.length_append]; exact hle, a6, c6, ys, hq.out.symm, hfin.2.2.2.1, hfin.2.2.2.2⟩
   have z0 := hb3x.cell
   have zl : w.heap.size + 1 < w3.heap.size := by omega
   have u0 := hb6.cell
   have uf := hb6.frozen
   clear hfin hrun hb6 hb3x ho3 hb2 ho2 hB3 hb3
   gi_wp2_with (gi_at_builtin; refine wpListIn_append_runT rfl _ _ 35 35 rfl _ _ _ _ rfl rfl Hrun.out ?_)
   exact HE.out
  ·have e0 : decide (0 ≤ hd.k) = false := decide_eq_false h0
   dsimp only
   rw [e0]
   have hq : Hid ((((pre ++ [⟨⟨d, hd, kf⟩, xa, xcap⟩] : List NxT)).map (·.nd)).filterMap ndY = xs) := Lib.hid (by rw [List.map_append, List.filterMap_append, ← Hxs.out]; simp [ndY, h0])
   have HE : Hid (KeepsFrom wl.heap.size W2 w3 ∧ Spares w.heap.size itTT W2 w3 ∧ YldI ndY w (pre ++ [⟨⟨d, hd, kf⟩, xa, xcap⟩]) w3) :=
    Lib.hid ⟨KeepsFrom.of_grownBy (below_grownBy hb3 none) (fun r e => by cases e), Spares.grown (below_grownBy hb3 none) (by omega) (fun r e => by cases e), hB3, by rw [List.length_append]; exact hle, ta, tc, xs, hq.out.symm, hb3x, ho3⟩
   clear hb3x ho3 hb2 ho2 hB3 hb3
   gi_wp2_with (fail)
   exact HE.out
 case done =>
  rintro D xs W hD hfull hI hK
  obtain ⟨hB, h1, ta, tc, ys, hxs, hbx, ho⟩ := hI
  rw [show xs.map (·.nd) = _ from hfull, pre_yt] at hxs
  subst hxs
  have k1 := hbx.cell
  have f1 := hbx.frozen
  have hws : w.heap.size + 5 ≤ wl.heap.size := by have := Hws.out; omega
  clear hfull
  gi_wp2
  refine ⟨by simp, .inl ⟨_, _, rfl, run_takeDeferred hK, ?_⟩⟩
  refine ⟨.slice ta (TrF.yt (.cons h kids .nil)).length tc, ?_, ta, tc, rfl, ?_, hB.trans ((Below.refl w.heap.size _).grown (grownBy_putObj' _ D (.deferred none)) hB.size (fun k e => by cases e; omega))⟩
  ·simp [results, Try.f53, go_sem]
  ·exact OwnKZ.kept ho (grownBy_putObj' _ D (.deferred none)) (fun g e => by cases e; exact own_neZ ho (T := fun _ => false) rfl hK (.inl rfl))
set_option maxRecDepth 100000 in
set_option maxHeartbeats 8000000 in
theorem tsteps_any (h : TrH) (kids : TrF) (a : Option Addr) (cap : Nat) (w : World) (hk : TrS w (fun _ => True) a cap kids) (hN : kids.size ≤ 1099511627770) :
 Calls Try.prog 55 #[treV h a kids.len cap] w fun e w' => ∃ ra rc, e = .returned (.slice ra (TrF.st (.cons h kids .nil)).length rc) ∧ OwnKZ w' w.heap.size ra rc (TrF.st (.cons h kids .nil)) ∧ Below w.heap.size w w' := by
 have hN' : kids.size ≤ 1099511627776 := by omega
 have HD := Lib.hid (fun V => derived_any h a kids.len cap V)
 refine (callsIn_wide (n := 0)).1 ?_
 refine callsIn_of_wp_marks Try.func55 rfl trivial ?_ rfl
 simp only [Try.ntmps55, List.size_toArray, List.length_cons, List.length_nil, Nat.reduceAdd, Nat.reduceSub, Array.replicate_succ, Array.replicate_zero, List.push_toArray, List.append_toArray, List.nil_append, List.cons_append]
 gi_wp2_with (fail)
 refine ⟨trivial, rfl, ((callsIn_wide (n := 0)).2 (HD.out _)).mono ?_⟩
 rintro e w' ⟨rfl, rfl⟩
 gi_wp2_with (fail)
 clear HD
 unfold derW
 have hbel : Below w.heap.size w (((((w.alloc (.cells #[.int .i64 h.k, .int .i64 h.i, .int .i64 h.a, .slice a kids.len cap] 51)).alloc (.cells #[.slice none 0 0] 35)).alloc (.cells #[.int .i64 h.k, .int .i64 h.i, .int .i64 h.a, .slice a kids.len cap] 51)).alloc (.cells #[.int .i64 h.k, .int .i64 h.i, .int .i64 h.a, .slice a kids.len cap] 51)).alloc (.cells #[inVT 131] 135)) := (((((Below.refl _ w).alloc (Nat.le_refl _) _).alloc (by simp) _).alloc (by simp; omega) _).alloc (by simp; omega) _).alloc (by simp; omega) _
 have hB3 := (Blk.new (((w.alloc (.cells #[.int .i64 h.k, .int .i64 h.i, .int .i64 h.a, .slice a kids.len cap] 51)).alloc (.cells #[.slice none 0 0] 35)).alloc (.cells #[.int .i64 h.k, .int .i64 h.i, .int .i64 h.a, .slice a kids.len cap] 51)) 51 #[.int .i64 h.k, .int .i64 h.i, .int .i64 h.a, .slice a kids.len cap]).alloc (.cells #[inVT 131] 135)
 have hBi := World.alloc_heap_new ((((w.alloc (.cells #[.int .i64 h.k, .int .i64 h.i, .int .i64 h.a, .slice a kids.len cap] 51)).alloc (.cells #[.slice none 0 0] 35)).alloc (.cells #[.int .i64 h.k, .int .i64 h.i, .int .i64 h.a, .slice a kids.len cap] 51)).alloc (.cells #[.int .i64 h.k, .int .i64 h.i, .int .i64 h.a, .slice a kids.len cap] 51)) (.cells #[inVT 131] 135)
 rw [World.size_alloc, World.size_alloc, World.size_alloc, World.size_alloc] at hBi
 have hb1 : Boxed (((((w.alloc (.cells #[.int .i64 h.k, .int .i64 h.i, .int .i64 h.a, .slice a kids.len cap] 51)).alloc (.cells #[.slice none 0 0] 35)).alloc (.cells #[.int .i64 h.k, .int .i64 h.i, .int .i64 h.a, .slice a kids.len cap] 51)).alloc (.cells #[.int .i64 h.k, .int .i64 h.i, .int .i64 h.a, .slice a kids.len cap] 51)).alloc (.cells #[inVT 131] 135)) (w.heap.size + 1) 35 (.slice none 0 0) := by
  have := (Boxed.new (w.alloc (.cells #[.int .i64 h.k, .int .i64 h.i, .int .i64 h.a, .slice a kids.len cap] 51)) 35 (.slice none 0 0))
  rw [World.size_alloc] at this
  exact ((this.alloc _).alloc _).alloc _
 rw [World.size_alloc, World.size_alloc, World.size_alloc] at hB3
 have hws : ((((((w.alloc (.cells #[.int .i64 h.k, .int .i64 h.i, .int .i64 h.a, .slice a kids.len cap] 51)).alloc (.cells #[.slice none 0 0] 35)).alloc (.cells #[.int .i64 h.k, .int .i64 h.i, .int .i64 h.a, .slice a kids.len cap] 51)).alloc (.cells #[.int .i64 h.k, .int .i64 h.i, .int .i64 h.a, .slice a kids.len cap] 51)).alloc (.cells #[inVT 131] 135))).heap.size = w.heap.size + 1 + 1 + 1 + 1 + 1 := by simp
 rw [show derV ((w.alloc (.cells #[.int .i64 h.k, .int .i64 h.i, .int .i64 h.a, .slice a kids.len cap] 51)).alloc (.cells #[.slice none 0 0] 35)) = .func (.func 143) #[] #[.pointer (some ⟨w.heap.size + 1 + 1 + 1, 0, none⟩), .pointer (some ⟨w.heap.size + 1 + 1 + 1 + 1, 0, none⟩)] from by unfold derV; rw [World.size_alloc, World.size_alloc]]
 generalize (((((w.alloc (.cells #[.int .i64 h.k, .int .i64 h.i, .int .i64 h.a, .slice a kids.len cap] 51)).alloc (.cells #[.slice none 0 0] 35)).alloc (.cells #[.int .i64 h.k, .int .i64 h.i, .int .i64 h.a, .slice a kids.len cap] 51)).alloc (.cells #[.int .i64 h.k, .int .i64 h.i, .int .i64 h.a, .slice a kids.len cap] 51)).alloc (.cells #[inVT 131] 135)) = wl at hbel hB3 hBi hb1 hws ⊢
 have Hws := Lib.hid hws
 clear hws
 refine range_law (T := itTT) (n₀ := w.heap.size) (encs := encsT) (Good := GoodT w (TrF.pre true 1 (.cons h kids .nil))) (Full := FullT (TrF.pre true 1 (.cons h kids .nil))) (gf := 143) (lb := #[.pointer (some ⟨w.heap.size + 1 + 1 + 1, 0, none⟩), .pointer (some ⟨w.heap.size + 1 + 1 + 1 + 1, 0, none⟩)]) rfl (enters_of Try.func143 (by kernel_rfl) rfl)
  hbel.size (all_walksD w wl (w.heap.size + 1 + 1 + 1) (w.heap.size + 1 + 1 + 1 + 1) h kids a cap hk hbel hN' (hB3.cell 0) (hB3.cell 1) (hB3.cell 2) (hB3.cell 3) hBi) (fun _ => rfl)
  (YldI ndS w) (fun _ _ => False)
  ?bI ?bIx ?h0 ?round ?done ?stop
 case bI => exact bears_yld ndS w _ hbel.size
 case bIx => exact fun _ _ _ _ h => h.elim
 case h0 => exact ⟨hbel, Nat.zero_le _, none, 0, [], rfl, hb1, OwnKZ.nil _ _⟩
 case stop => rintro D pre W hD hgood hI; exact hI.elim
 case round =>
  rintro l pre ⟨⟨d, hd, kf⟩, xa, xcap⟩ W hl ⟨r, hr⟩ hI hgood
  obtain ⟨hB, h1, ta, tc, xs, hxs, hbx, ho⟩ := hI
  have hle : pre.length + 1 ≤ 1099511627771 := by
   obtain ⟨⟨q, hq⟩, -⟩ := hgood
   have h8 := congrArg List.length hq
   have h9 := TrF.pre_le true (.cons h kids .nil) 1
   rw [List.length_append, List.length_map, List.length_append] at h8
   simp only [List.length_singleton, TrF.size] at h8 h9
   omega
  have hxl : xs.length ≤ pre.length := by rw [hxs]; exact yld_len
  have Hxs := Lib.hid hxs
  clear hxs
  have hbl : w.heap.size + 1 < W.heap.size := (Array.getElem?_eq_some_iff.1 hbx).1
  have hlm := OwnKZ.le ho
  dsimp only [encsT, treV]
  obtain ⟨ln, hln⟩ : ∃ q, Hid (kf.len = q) := ⟨_, Lib.hid rfl⟩
  rw [hln.out]
  have hws : w.heap.size + 5 ≤ wl.heap.size := by have := Hws.out; omega
  have hle : pre.length + 1 ≤ 1099511627777 := by omega
  have hxl : xs.length + 1 ≤ 1099511627780 := by omega
  have hlW : l < W.heap.size := (Array.getElem?_eq_some_iff.1 hr).1
  have HIT := Lib.hid (fun V => isTok_any hd xa ln xcap V)
  gi_wp2_with (fail)
  refine ⟨(KeepsOthers.alloc W _).from _, Spares.grown (World.grownBy_alloc W _ none) hB.size (fun r e => by cases e), fun W2 hg2 => ?_⟩
  have hx := (Blk.new W 51 #[.int .i64 hd.k, .int .i64 hd.i, .int .i64 hd.a, .slice xa ln xcap]).kept hg2 (by simp; omega)
  have hb2 := (hbx.alloc (.cells #[.int .i64 hd.k, .int .i64 hd.i, .int .i64 hd.a, .slice xa ln xcap] 51)).kept hg2 (by simp; omega)
  have ho2 : OwnKZ W2 w.heap.size ta tc xs := OwnKZ.kept (World.ownsRow.alloc ho _) hg2 (fun g e => by cases e; exact own_neZ ho (T := fun _ => false) rfl hr (.inl rfl))
  have hB2 : Below w.heap.size w W2 := hB.trans (((Below.refl w.heap.size W).alloc hB.size _).grown hg2 (by have := hB.size; simp; omega) (fun k e => by cases e; omega))
  have hW2s : W.heap.size < W2.heap.size := hx.lt
  have hszB := hB.size
  have x0 := hx.cell 0
  have x1 := hx.cell 1
  have x2 := hx.cell 2
  have x3 := hx.cell 3
  simp only [List.getElem?_cons_zero, List.getElem?_cons_succ] at x0 x1 x2 x3
  have HX := Lib.hid hx
  clear hx hg2 hr hB hlW ho hbx
  gi_wp2_with (fail)
  refine ⟨trivial, rfl, ((callsIn_wide (n := 0)).2 (HIT.out _)).mono ?_⟩
  rintro e w3 ⟨rfl, hb3⟩
  clear HIT
  have hX3 := HX.out.below hb3 HX.out.lt
  have y0 := hX3.cell 0
  have y1 := hX3.cell 1
  have yl := hX3.lt
  simp only [List.getElem?_cons_zero, List.getElem?_cons_succ] at y0 y1
  have hb3x : Boxed w3 (w.heap.size + 1) 35 (.slice ta xs.length tc) := hb2.kept (below_grownBy hb3 none) (by simp)
  have ho3 : OwnKZ w3 w.heap.size ta tc xs := ho2.belowZ hb3
  have hB3 : Below w.heap.size w w3 := hB2.trans (hb3.mono hB2.size)
  have hs3 := hb3.size
  clear x0 x1 x2 x3 hX3 HX hB2
  by_cases h0 : 0 ≤ hd.k
  ·have e0 : decide (0 ≤ hd.k) = true := decide_eq_true h0
   dsimp only
   rw [e0]
   have hq : Hid ((((pre ++ [⟨⟨d, hd, kf⟩, xa, xcap⟩] : List NxT)).map (·.nd)).filterMap ndS = xs) := Lib.hid (by rw [List.map_append, List.filterMap_append, ← Hxs.out]; simp [ndS, h0])
   have HE : Hid (KeepsFrom wl.heap.size W2 w3 ∧ Spares w.heap.size itTT W2 w3 ∧ YldI ndS w (pre ++ [⟨⟨d, hd, kf⟩, xa, xcap⟩]) w3) :=
    Lib.hid ⟨KeepsFrom.of_grownBy (below_grownBy hb3 none) (fun r e => by cases e), Spares.grown (below_grownBy hb3 none) (by omega) (fun r e => by cases e), hB3, by rw [List.length_append]; exact hle, ta, tc, xs, hq.out.symm, hb3x, ho3⟩
   clear hb3x ho3 hb2 ho2 hB3 hb3
   gi_wp2_with (fail)
   exact HE.out
  ·have e0 : decide (0 ≤ hd.k) = false := decide_eq_false h0
   dsimp only
   rw [e0]
   have hq : Hid ((((pre ++ [⟨⟨d, hd, kf⟩, xa, xcap⟩] : List NxT)).map (·.nd)).filterMap ndS = xs ++ [hd.i]) := Lib.hid (by rw [List.map_append, List.filterMap_append, ← Hxs.out]; simp [ndS, h0])
   obtain ⟨a6, c6, w6, hrun, hb6, hfin⟩ := yld_push (B := wl.heap.size) hb3 hB3 hb3x ho3 (by omega) (by omega) (by omega) hd.i ho2 hb2
   obtain ⟨ys, hys⟩ : ∃ ys, Hid (xs ++ [hd.i] = ys) := ⟨_, Lib.hid rfl⟩
   rw [hys.out] at hrun hfin
   have hq := Lib.hid (hq.out.trans hys.out)
   have Hrun := Lib.hid hrun
   have HE : Hid (KeepsFrom wl.heap.size W2 (w6.setCell ⟨w.heap.size + 1, 0, none⟩ (.slice a6 ys.length c6)) ∧ Spares w.heap.size itTT W2 (w6.setCell ⟨w.heap.size + 1, 0, none⟩ (.slice a6 ys.length c6)) ∧ YldI ndS w (pre ++ [⟨⟨d, hd, kf⟩, xa, xcap⟩]) (w6.setCell ⟨w.heap.size + 1, 0, none⟩ (.slice a6 ys.length c6))) :=
    Lib.hid ⟨hfin.1, hfin.2.1, hfin.2.2.1, by rw [List.length_append]; exact hle, a6, c6, ys, hq.out.symm, hfin.2.2.2.1, hfin.2.2.2.2⟩
   have z0 := hb3x.cell
   have zl : w.heap.size + 1 < w3.heap.size := by omega
   have u0 := hb6.cell
   have uf := hb6.frozen
   clear hfin hrun hb6 hb3x ho3 hb2 ho2 hB3 hb3
   gi_wp2_with (gi_at_builtin; refine wpListIn_append_runT rfl _ _ 35 35 rfl _ _ _ _ rfl rfl Hrun.out ?_)
   exact HE.out
 case done =>
  rintro D xs W hD hfull hI hK
  obtain ⟨hB, h1, ta, tc, ys, hxs, hbx, ho⟩ := hI
  rw [show xs.map (·.nd) = _ from hfull, pre_st] at hxs
  subst hxs
  have k1 := hbx.cell
  have f1 := hbx.frozen
  have hws : w.heap.size + 5 ≤ wl.heap.size := by have := Hws.out; omega
  clear hfull
  gi_wp2
  refine ⟨by simp, .inl ⟨_, _, rfl, run_takeDeferred hK, ?_⟩⟩
  refine ⟨.slice ta (TrF.st (.cons h kids .nil)).length tc, ?_, ta, tc, rfl, ?_, hB.trans ((Below.refl w.heap.size _).grown (grownBy_putObj' _ D (.deferred none)) hB.size (fun k e => by cases e; omega))⟩
  ·simp [results, Try.f55, go_sem]
  ·exact OwnKZ.kept ho (grownBy_putObj' _ D (.deferred none)) (fun g e => by cases e; exact own_neZ ho (T := fun _ => false) rfl hK (.inl rfl))
end Go.Proofs.Ythogiakfbgehnaa
namespace Go.Proofs.Ythogiakfbgehnaa
open Go.RowKit Go.Maps
attribute [local go_sem] Oper.semAt_some
/-- A block that the iterator doesn't write is as it was. -/
theorem keep_heap {W W' : World} {B b : Nat} {row : Option Nat} {cs : Array Value} {t : TypeId} {fr : Nat × Nat} (h : W.heap[b]? = some (.cells cs t fr)) (ht : itTT t = false) (hg : W.grownBy W' row) (hr : ∀ r, row = some r → B ≤ r ∧ ∃ o, W.heap[r]? = some o ∧ Turns itTT o) : W'.heap[b]? = some (.cells cs t fr) := by
 refine (hg.block b (Array.getElem?_eq_some_iff.1 h).1 (fun e => ?_)).trans h
 obtain ⟨_, o, ho, hT⟩ := hr b e.symm
 rw [h] at ho
 cases ho
 rcases hT with hc | ⟨cs', t', fr', e2, ht'⟩
 ·cases hc
 ·cases e2; rw [ht] at ht'; cases ht'
/-- What lies in memory all the while. -/
structure ChkM (w W : World) (cv : Array Value) (tv : Value) : Prop where
 bel : Below w.heap.size w W
 cfg : W.heap[w.heap.size]? = some (.cells cv 25 (0, 0))
 tks : W.heap[w.heap.size + 1 + 1]? = some (.cells #[tv] 35 (0, 0))
 res : W.heap[w.heap.size + 1 + 1 + 1]? = some (.cells #[.bool false] 4 (0, 0))
theorem ChkM.grown {w W W' : World} {cv : Array Value} {tv : Value} {B : Nat} {row : Option Nat} (h : ChkM w W cv tv) (hB : w.heap.size ≤ B) (hg : W.grownBy W' row) (hr : ∀ r, row = some r → B ≤ r ∧ ∃ o, W.heap[r]? = some o ∧ Turns itTT o) : ChkM w W' cv tv :=
 ⟨h.bel.grown hg h.bel.size (fun k e => by have := (hr k e).1; omega), keep_heap h.cfg (by decide) hg hr, keep_heap h.tks (by decide) hg hr, keep_heap h.res (by decide) hg hr⟩
def ChkI (d : CfD) (toks : List Int) (w : World) (cv : Array Value) (tv : Value) (pre : List NxT) (W : World) : Prop :=
 ChkM w W cv tv ∧ ∃ c, ChkP d toks (pre.map (·.nd)) c ∧ W.heap[w.heap.size + 1 + 1 + 1 + 1]? = some (.cells #[.int .i64 (c : Int)] 3 (0, 0))
def ChkX (d : CfD) (h : TrH) (kids : TrF) (toks : List Int) (w : World) (cv : Array Value) (tv : Value) (_ : List NxT) (W : World) : Prop :=
 ChkM w W cv tv ∧ ¬ ChkD d h kids toks
theorem bears_chk (d : CfD) (toks : List Int) (w : World) (cv : Array Value) (tv : Value) (B : Nat) (hB : w.heap.size ≤ B) : Bears B itTT (ChkI d toks w cv tv) := by
 rintro s W W' row ⟨h1, c, h2, h3⟩ hg hr
 exact ⟨h1.grown hB hg hr, c, h2, keep_heap h3 (by decide) hg hr⟩
theorem bears_chx (d : CfD) (h : TrH) (kids : TrF) (toks : List Int) (w : World) (cv : Array Value) (tv : Value) (B : Nat) (hB : w.heap.size ≤ B) : Bears B itTT (ChkX d h kids toks w cv tv) := by
 rintro s W W' row ⟨h1, h2⟩ hg hr
 exact ⟨h1.grown hB hg hr, h2⟩
end Go.Proofs.Ythogiakfbgehnaa
namespace Go.Proofs.Ythogiakfbgehnaa
open Go.RowKit Go.Shelf
section
variable {P : Program} {ops : Array Oper} {md : Region.Mode} {w : World} {l n : Nat}
def noDeferT (ops : Array Oper) : Bool := ops.all fun o => match o.op with | .defer _ => false | _ => true
theorem noDefer_atT (h : noDeferT ops = true) {i : Nat} {o : Oper} (hi : ops[i]? = some o) : ∀ c, o.op ≠ .defer c := by
 intro c hc
 obtain ⟨hlt, e⟩ := Array.getElem?_eq_some_iff.1 hi
 have := (Array.all_eq_true.1 h) i hlt
 rw [e, hc] at this
 cases this
theorem wpInR_of_stillT {o : Oper} {a : Act} {K : Act → Prop} {K' : Act → World → Prop} {Q' : Exit → Act → World → Prop} (hnd : ∀ c, o.op ≠ .defer c) (h : ∀ a, K a → K' a w) (hh : o.still P a w K) : o.wpIn (Fence.wide.inRound l) n P a w K' Q' := by
 refine ⟨fun _ _ => trivial, ?_⟩
 rw [Oper.semAt_eq _ _ _ hnd]
 unfold Oper.still at hh
 generalize (execOp a.eval o).run P w = r at *
 cases r with
 | ok x w' =>
  cases x <;> simp only [Oper.stillUpon] at hh <;> simp only [Oper.uponIn]
  case enter f args =>
   obtain ⟨rfl, v, hc, hn⟩ := hh
   exact ⟨fun h => (by cases h), ((callsIn_wide (n := n - 1)).2 hc).mono fun e w'' ⟨he, hw⟩ => by subst he; subst hw; exact h _ hn⟩
  all_goals (obtain ⟨rfl, h2⟩ := hh; exact h _ h2)
 | halt x w' => simp only [Oper.stillUpon] at hh
theorem wpOpInR_of_stOpT (hnd : noDeferT ops = true) {i : Nat} {a : Act} {K : Act → Prop} {K' : Act → World → Prop} {Q' : Exit → Act → World → Prop} (h : ∀ a, K a → K' a w) (hh : stOp P ops w i K a) : wpOpIn (Fence.wide.inRound l) n P ops Q' i K' a w := by
 unfold stOp at hh
 unfold wpOpIn
 split
 ·rename_i ho; simp only [ho] at hh; exact h _ hh
 ·rename_i o ho
  simp only [ho] at hh
  split
  ·rename_i hw; simp only [hw, if_true] at hh; exact wpInR_of_stillT (noDefer_atT hnd ho) h hh
  ·rename_i hw; simp only [hw] at hh; exact ⟨fun _ _ => trivial, h _ hh⟩
theorem wpAnyInR_of_headT (hnd : noDeferT ops = true) {m g : Nat} {L : Array Bool → Act → Prop} {Q' : Exit → Act → World → Prop} (hL : ∀ listed a, L listed a → wpAnyIn (Fence.wide.inRound l) n P md ops Q' g listed a w) :
 ∀ (f : Nat) (listed : Array Bool) (a : Act), wpAnyL P md ops w m L f listed a → wpAnyIn (Fence.wide.inRound l) n P md ops Q' (f + g) listed a w
 | 0, listed, a, h => by rw [Nat.zero_add]; exact hL _ _ h
 | f + 1, listed, a, h => by
  rw [show f + 1 + g = (f + g) + 1 by omega]
  exact ⟨fun h0 => absurd h0 h.1, fun i hi => wpOpInR_of_stOpT hnd (fun a' h' => wpAnyInR_of_headT hnd hL f _ a' h') (h.2 i hi).2⟩
theorem wpAnyInR_of_seqT {Q' : Exit → Act → World → Prop} : ∀ (lo : List Oper) (k : Nat) (listed : Array Bool) (a : Act) (w : World), (∀ j, lo[j]? = ops[k + j]?) →
 Region.seqB md ops lo.length k listed = true → wpListIn (Fence.wide.inRound l) n P ops Q' lo a w → wpAnyIn (Fence.wide.inRound l) n P md ops Q' lo.length listed a w
 | [], _, _, _, _, _, hB, h => ⟨by simpa [Region.seqB] using hB, h⟩
 | o :: lo, k, listed, a, w, hl, hB, h => by
  have h0 : ops[k]? = some o := by simpa using (hl 0).symm
  simp only [List.length_cons, Region.seqB, Bool.and_eq_true, decide_eq_true_eq] at hB
  refine ⟨fun h1 => (by rw [hB.1] at h1; cases h1), fun i hi => ?_⟩
  rw [hB.1] at hi
  have hik : i = k := by simpa using hi
  subst hik
  have hw : wpOpIn (Fence.wide.inRound l) n P ops Q' i (wpListIn (Fence.wide.inRound l) n P ops Q' lo) a w := by unfold wpOpIn; simp only [h0]; exact h
  exact wpOpIn_mono (fun a' w' h' => wpAnyInR_of_seqT lo (i + 1) _ a' w' (fun j => by have := hl (j + 1); simpa [Nat.add_assoc, Nat.add_comm 1 j] using this) hB.2 h') hw
/-- All but the tail from m on only reads: the order of the text serves. -/
theorem wpInR_region_still_tailT {id : Nat} {Q : Exit → Act → World → Prop} {a : Act} {w : World} {lo : List Oper} (m : Nat) (hm : P.follows .mixedOrders = true) (hnd : noDeferT lo.toArray = true) (hB : Region.lexTailB .any lo.toArray m = true)
 (h : wpStill P lo.toArray w.drew (fun a' => wpListIn (Fence.wide.inRound l) n P lo.toArray Q (lo.drop m) a' w.drew) (lo.take m) a) : (Code.region id lo.toArray true).wpIn (Fence.wide.inRound l) n P Q a w := by
 simp only [Region.lexTailB, Bool.and_eq_true, decide_eq_true_eq] at hB
 obtain ⟨⟨⟨⟨hsel, hn⟩, hs⟩, hc⟩, hlex⟩ := hB
 have hn' : m < lo.length := by simpa using hn
 have htl : (lo.take m).length = m := by simp; omega
 have hdl : (lo.drop m).length = lo.toArray.size - m := by simp
 have inv0 : HeadInv .any lo.toArray m (Array.replicate lo.toArray.size false) :=
  ⟨by simp, fun j oj _ hl => (by rw [getD_replicate_false] at hl; cases hl), fun t _ ht => getD_in (by simpa using ht) (getD_replicate_false _ _)⟩
 have H := wpAnyL_lex (md := .any) (g := lo.toArray.size - m) hsel hs hc hn (lo.take m) 0 _ a (fun j hj => by
  have hj' : j < m := by rw [htl] at hj; exact hj
  simp [hj']) (by simpa using htl) inv0 (by rw [htl]; exact hlex) h
 refine wpIn_region_any hm ?_
 have := wpAnyInR_of_headT (l := l) (n := n) (Q' := Q) (g := lo.toArray.size - m) hnd (fun listed a' hL => by
  have := wpAnyInR_of_seqT (l := l) (n := n) (md := .any) (Q' := Q) (lo.drop m) m listed a' w.drew (fun j => by simp [List.getElem?_drop]) (by rw [hdl]; exact hL.1) hL.2
  rwa [hdl] at this) _ _ _ H
 rw [htl, show m + (lo.toArray.size - m) = lo.toArray.size by omega] at this
 exact this
end
section
variable {P : Program} {ops : Array Oper} {md : Region.Mode} {l n : Nat} {Q : Exit → Act → World → Prop}
theorem wpInR_of_wideT {o : Oper} {a : Act} {w : World} {K : Act → World → Prop} (hnd : ∀ c, o.op ≠ .defer c) (h : o.wpIn Fence.wide n P a w K Q) : o.wpIn (Fence.wide.inRound l) n P a w K Q := by
 obtain ⟨_, h2⟩ := h
 refine ⟨fun _ _ => trivial, ?_⟩
 rw [Oper.semAt_eq _ _ _ hnd] at h2 ⊢
 generalize (execOp a.eval o).run P w = r at *
 cases r with
 | ok x w' => cases x <;> exact h2
 | halt x w' => cases x <;> exact h2
theorem wpOpInR_of_wideT (hnd : noDeferT ops = true) {i : Nat} {a : Act} {w : World} {K : Act → World → Prop} (h : wpOpIn Fence.wide n P ops Q i K a w) : wpOpIn (Fence.wide.inRound l) n P ops Q i K a w := by
 unfold wpOpIn at *
 split
 ·rename_i ho; simp only [ho] at h; exact h
 ·rename_i o ho
  simp only [ho] at h
  split
  ·rename_i hw; simp only [hw, if_true] at h; exact wpInR_of_wideT (noDefer_atT hnd ho) h
  ·rename_i hw; simp only [hw] at h; exact ⟨fun _ _ => trivial, h.2⟩
theorem wpAnyInR_of_wideT (hnd : noDeferT ops = true) : ∀ (fuel : Nat) (listed : Array Bool) (a : Act) (w : World), wpAnyIn Fence.wide n P md ops Q fuel listed a w → wpAnyIn (Fence.wide.inRound l) n P md ops Q fuel listed a w
 | 0, _, _, _, h => h
 | fuel + 1, _, _, _, h => ⟨h.1, fun i hi => wpOpInR_of_wideT hnd (wpOpIn_mono (fun a w => wpAnyInR_of_wideT hnd fuel _ a w) (h.2 i hi))⟩
/-- All of it only reads, calls besides. -/
theorem wpInR_quietT {id : Nat} {a : Act} {w : World} {lo : List Oper} (hm : P.follows .mixedOrders = true) (hnd : noDeferT lo.toArray = true) (hB : Region.lexB .any lo.toArray = true)
 (h : wpQuietIn Fence.wide n P lo.toArray (fun w' => ∃ n, w' = w.drewN n) (fun a' => ∀ w', (∃ n, w' = w.drewN n) → Q .normal a' w') lo a) : (Code.region id lo.toArray true).wpIn (Fence.wide.inRound l) n P Q a w := by
 simp only [Region.lexB, Bool.and_eq_true] at hB
 refine wpIn_region_any hm (wpAnyInR_of_wideT hnd _ _ _ _ (wpAnyIn_of_quiet (F := Fence.wide) (C := fun w' => ∃ n, w' = w.drewN n) (Q := fun a' => ∀ w', (∃ n, w' = w.drewN n) → Q .normal a' w') rfl (fun _ w' hw' h => h w' hw') _ _ _ _ ⟨1, rfl⟩ ?_))
 have := wpAnyQIn_lex (F := Fence.wide) (n := n) (C := fun w' => ∃ n, w' = w.drewN n) (md := .any) hB.1 lo 0 (Array.replicate lo.toArray.size false) a (by simp) (by simpa using hB.2) h
 simpa using this
end
end Go.Proofs.Ythogiakfbgehnaa
