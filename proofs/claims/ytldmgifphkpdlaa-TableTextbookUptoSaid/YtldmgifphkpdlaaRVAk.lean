/- Texts joined: Oe. -/
import Derived.Test.YtldmgifphkpdlaaRVAj
import Derived.Deep.LoopGhost
import Derived.Deep.RegionHeld3
set_option linter.unusedVariables false
set_option linter.unusedSimpArgs false
namespace Go.Proofs.Ytldmgifphkpdlaa
open Go.RowKit Go.Maps
attribute [local go_sem] Oper.semAt_some
theorem iatLZ {α : Type} {l : List α} {i : Nat} {x : α} (h : l[i]? = some x) : l.toArray[i]? = some x := by simpa using h
theorem iatZZ {α : Type} {a : α} {l : List α} : (a :: l)[0]? = some a := rfl
theorem iatSZ {α : Type} {a : α} {l : List α} {i : Nat} {x : α} (h : l[i]? = some x) : (a :: l)[i + 1]? = some x := by simpa using h
theorem stepAppZ {P : Program} {ops : Array Oper} {o : Oper} {a : Act} {w : World} {K : Act → World → Prop} {Q : Exit → Act → World → Prop} {E : Prop} (hgd : o.guard = none) (s x : Operand) (t t2 : TypeId)
 (hop : o.op = Op.call { callee := Callee.builtin Builtin.append, args := #[s, x], argTypes := #[t, t2] }) (vs vx v' : Value) (w' : World) (hs : a.eval s = vs) (hx : a.eval x = vx)
 (hrun : (Builtin.append_ #[t, t2] o.type #[vs, vx]).run P w = .ok v' w') (h : K (a.put o.dst v') w') :
 if Region.wanted o (yielded ops a.tmps) = true then Oper.wp P o a w K Q else E := by
 have hw : Region.wanted o (yielded ops a.tmps) = true := by simp [Region.wanted, hgd]
 rw [if_pos hw]
 unfold Oper.wp
 simp [execOp, hop, resolve, invoke, builtin, hs, hx, hrun, Result.andThen]
 exact h
/-- What taking a way leaves. -/
def TakeQZ (w0 W : World) (base mb sb wb n : Nat) (T : List (Wy Int)) (e : Ending) (W' : World) : Prop :=
 e = .returned (.tuple #[]) ∧ ∃ n' M' P' f', n' ≤ n + 200000000 ∧ TakeAtZ w0 W' base mb sb wb n' M' P' f' ∧ MkInv T M' P' [] ∧ Below base W W'
set_option maxRecDepth 100000 in
set_option maxHeartbeats 8000000 in
theorem take_anyZ (w0 W : World) (base mb sb wb n : Nat) (M : Int → Bool) (P : List (Int × WyD Int)) (f : Int → Value) (T : List (Wy Int)) (y : WyD Int) (h : TakeAtZ w0 W base mb sb wb n M P f) (hinv : MkInv T M P []) (hy : NdOkZ w0 y) (h0 : Below w0.heap.size w0 W) (hB : w0.heap.size ≤ base) (hb : base ≤ W.heap.size)
 (hT : T.length ≤ 10000) (hn : n ≤ 100000000000000000) :
 Calls Try.prog 114 #[.pointer (some ⟨mb, 0, none⟩), .agg #[.int .i64 y.n, .slice y.a y.l.length y.c]] W (TakeQZ w0 W base mb sb wb n (T ++ [⟨y.n, y.l⟩])) := by
 have hyl := hy.row.le
 have hym := hy.row.max
 rw [List.length_map] at hyl
 obtain ⟨T1, hT1⟩ : ∃ T1, Hid (T ++ [⟨y.n, y.l⟩] = T1) := ⟨_, Lib.hid rfl⟩
 have hI1 := hinv.take y
 rw [hT1.out] at hI1
 have hTl : T1.length ≤ 10001 := by rw [← hT1.out]; simp; omega
 have hA := Blk.new W 118 #[.int .i64 y.n, .slice y.a y.l.length y.c]
 have hb1 : Below W.heap.size W (W.alloc (.cells #[.int .i64 y.n, .slice y.a y.l.length y.c] 118)) := (Below.refl _ W).alloc (Nat.le_refl _) _
 have hO := OwnYZ.lit (W.alloc (.cells #[.int .i64 y.n, .slice y.a y.l.length y.c] 118)) base y (Nat.le_trans hb hb1.size)
 have hb2 : Below W.heap.size W ((W.alloc (.cells #[.int .i64 y.n, .slice y.a y.l.length y.c] 118)).alloc (.cells #[.int .i64 y.n, .slice y.a y.l.length y.c] 118)) := hb1.trans ((Below.refl _ _).alloc hb1.size _)
 have hOp : OpAtZ w0 _ base mb sb wb n M P f [y] _ 1 := ⟨h.below hb2, hO, fun k hkf hk g e e2 => by
  have := (h.lt k hkf hk g e2).2
  have e3 : (W.alloc (.cells #[.int .i64 y.n, .slice y.a y.l.length y.c] 118)).heap.size = g := by simpa [Value.ownBlock] using e
  have := hb1.size
  omega, fun w hw => by
  rw [List.mem_singleton] at hw
  subst hw
  exact hy⟩
 have hs1 : (W.alloc (.cells #[.int .i64 y.n, .slice y.a y.l.length y.c] 118)).heap.size = W.heap.size + 1 := by simp
 rw [hs1] at hOp
 have HOp := Lib.hid hOp
 have HI1 := Lib.hid hI1
 have HB2 : Hid (Below base W _) := Lib.hid (hb2.mono hb)
 have Hlm : Hid (leftM T1 M [y] ≤ 200000000) := Lib.hid (by
  unfold leftM
  have h1 : T1.countP (fun t => !M t.n) ≤ 10001 := Nat.le_trans List.countP_le_length hTl
  have h2 := Nat.mul_le_mul h1 (show T1.length + 1 ≤ 10002 by omega)
  simp only [List.length_singleton]
  omega)
 have y0 := hA.cell 0
 have y1 := hA.cell 1
 have yl := hA.lt
 simp only [List.getElem?_cons_zero, List.getElem?_cons_succ] at y0 y1
 rw [hT1.out]
 obtain ⟨yL, hyL⟩ : ∃ q, Hid (y.l.length = q) := ⟨_, Lib.hid rfl⟩
 rw [hyL.out] at hyl y0 y1 yl HOp HB2 ⊢
 clear h hinv hA hb1 hO hb2 hOp hI1 hs1
 go_enter Try.func114, Try.ntmps114
 go_wp2_with (fail)
 generalize hV : World.alloc (World.alloc W _) _ = V at HOp HB2 ⊢
 clear y0 y1 yl hV
 go_loopg [4] (leftM T1 M [y]) (fun gk ov wr => ∃ (O : List (WyD Int)) (n' : Nat) (M' : Int → Bool) (P' : List (Int × WyD Int)) (f' : Int → Value) (a : Option Addr) (c : Nat), Hid (gk = leftM T1 M' O) ∧ Hid (n' + gk ≤ n + leftM T1 M [y]) ∧ ov = .slice a O.length c ∧ Hid (OpAtZ w0 wr base mb sb wb n' M' P' f' O a c) ∧ Hid (MkInv T1 M' P' O) ∧ Hid (Below base W wr))
 case atStart => exact ⟨[y], n, M, P, f, _, 1, Lib.hid rfl, Lib.hid (Nat.le_refl _), rfl, HOp, HI1, HB2⟩
 case round =>
  obtain ⟨O, n', M', P', f', a, c, hgk, hnk, rfl, HO, HI, HB⟩ := hrel
  obtain ⟨wo, hwo⟩ : ∃ q, Hid (wr = q) := ⟨_, Lib.hid rfl⟩
  rw [hwo.out] at HO HB ⊢
  clear hwo HOp HI1 HB2
  have hfew := HI.out.few
  rcases cons_last O with rfl | ⟨O, x, rfl⟩
  ·have h00 : ¬ ((0 : Nat) : Int) > 0 := by omega
   have h01 : decide ((0 : Int) < (([] : List (WyD Int)).length : Int)) = false := by simp
   go_wp2_with (fail)
   exact bodyPost_end (v := .tuple #[]) (by simp [results, Try.results114, go_sem]; try rfl) rfl ⟨rfl, n', M', P', f', by have h1 := hnk.out; have h2 := Hlm.out; omega, HO.out.at_, HI.out, HB.out⟩
  ·have HX := Lib.hid (HO.out.nds x (by simp))
   obtain ⟨g, rfl, hg1, hg2, c0, c1⟩ := HO.out.own.at O.length (by simp)
   have hcap := HO.out.own.le
   have HO2 := Lib.hid HO.out.pop
   rw [List.length_append, List.length_singleton] at hfew hcap
   have hxe : (O ++ [x])[O.length]'(by simp) = x := by simp
   rw [hxe] at c0 c1
   have hLL : Hid ((O ++ [x]).length = O.length + 1) := Lib.hid (by simp)
   have hlg := Lib.hid (left_pop T1 M' O x)
   have hPl := hfew
   obtain ⟨L, hL⟩ : ∃ q, Hid (O.length = q) := ⟨_, Lib.hid rfl⟩
   rw [hL.out] at hfew hcap c0 c1 hLL hPl
   rw [hLL.out]
   have hLb : (L : Int) ≤ 10001 := by omega
   have hL0 : (0 : Int) ≤ (L : Int) := by omega
   have hLc : (L : Int) ≤ (c : Int) := by omega
   have hLp : ((L + 1 : Nat) : Int) > 0 := by omega
   obtain ⟨xn, xl, xa, xc⟩ := x
   dsimp only at *
   have hxm := HX.out.row.max
   have hxc := HX.out.row.le
   rw [List.length_map] at hxc
   dsimp only at hxm hxc
   have hbx : Below wo.heap.size wo (wo.alloc (.cells #[.int .i64 xn, .slice xa xl.length xc] 118)) := (Below.refl _ wo).alloc (Nat.le_refl _) _
   have hBx := Blk.new wo 118 #[.int .i64 xn, .slice xa xl.length xc]
   have HBx := Lib.hid hBx
   have Hbx := Lib.hid hbx
   clear hxe hBx hbx
   go_wp2_with (fail)
   go_loopg [] xl.length (fun m wi => ∃ (l' : List Int) (a' : Option Addr) (c' : Nat), Hid (m = l'.length) ∧ Hid (Blk wi wo.heap.size 118 [.int .i64 xn, .slice a' l'.length c']) ∧ Hid (MkInv T1 M' P' (O ++ [⟨xn, l', a', c'⟩])) ∧ Hid (NdOkZ w0 ⟨xn, l', a', c'⟩) ∧ Hid (Below wo.heap.size wo wi))
   case atStart => exact ⟨xl, xa, xc, Lib.hid rfl, HBx, HI, HX, Hbx⟩
   case round =>
    obtain ⟨l', a', c', hm, HBi, HIi, HNi, Hbi⟩ := hrel
    obtain ⟨wi, hwi⟩ : ∃ q, Hid (wr = q) := ⟨_, Lib.hid rfl⟩
    rw [hwi.out] at HBi Hbi ⊢
    clear hwi HBx HI HX Hbx c0 c1
    have hfit := HNi.out.fit
    dsimp only at hfit
    have z0 := HBi.out.cell 0
    have z1 := HBi.out.cell 1
    have zl := HBi.out.lt
    simp only [List.getElem?_cons_zero, List.getElem?_cons_succ] at z0 z1
    have HOi := Lib.hid (HO2.out.below Hbi.out)
    have m0 := HOi.out.at_.mbx.cell 0
    have m1 := HOi.out.at_.mbx.cell 1
    have ml := HOi.out.at_.mbx.lt
    simp only [List.getElem?_cons_zero, List.getElem?_cons_succ] at m0 m1
    cases l' with
    | nil =>
     have z1' : wi.cell? ⟨wo.heap.size, 1, none⟩ = some (.slice a' 0 c') := z1
     have HS6 : Hid (wi.drew.cell? ⟨wo.heap.size, 1, none⟩ = some (.slice a' 0 c')) := Lib.hid z1'
     have HS11 : Hid (wi.drew.drew.cell? ⟨mb, 0, none⟩ = some (.map (some sb)) ∧ wi.drew.drew.cell? ⟨wo.heap.size, 0, none⟩ = some (.int .i64 xn)) := Lib.hid ⟨m0, z0⟩
     have hns : mb ≠ sb := (HOi.out.at_.blk_ne HOi.out.at_.mbx).1
     have hnt : wo.heap.size ≠ sb := (HOi.out.at_.blk_ne HBi.out).1
     have HB11 : Hid (Blk wi.drew.drew wo.heap.size 118 [.int .i64 xn, .slice a' ([] : List Int).length c']) := Lib.hid HBi.out
     have HO11 : Hid (OpAtZ w0 wi.drew.drew base mb sb wb n' M' P' f' O (some ⟨g, 0, none⟩) c) := Lib.hid (HOi.out.below ((Below.refl _ wi).drew.drew))
     have HcA := Lib.hid (zAdd_any wi.drew.drew sb n' M' xn HO11.out.at_.set hfit (by have h1 := hnk.out; have h2 := Hlm.out; unfold maxLen; omega))
     obtain ⟨q, hq⟩ : ∃ q, Hid (M' xn = q) := ⟨_, Lib.hid rfl⟩
     rw [hq.out] at HcA
     have hPO := hPl
     rw [← hL.out] at hPO
     clear z1
     go_wp2_with (fail)
     refine wp_region_held_drew (S := fun w' => w'.cell? ⟨wo.heap.size, 1, none⟩ = some (.slice a' 0 c')) (by kernel_rfl) ?_ (fun hHeld => ?_)
     ·exact HS6.out
     refine wpAnyH_take (i := 0) (v := ?_) (iatLZ iatZZ) (by kernel_rfl) (by kernel_rfl) (by kernel_rfl) (fun _ _ _ h => h) (Or.inl ⟨by rfl, ?_⟩) (by assumption) ?_
     rotate_left
     ·intro w hSw
      try dsimp only at hSw
      go_simp
      all_goals with_reducible rfl
     try simp only [Act.put, List.setIfInBounds_toArray, List.set_cons_zero, List.set_cons_succ]
     refine wpAnyH_take (i := 1) (v := ?_) (iatLZ (iatSZ iatZZ)) (by kernel_rfl) (by kernel_rfl) (by kernel_rfl) (fun _ _ _ h => h) (Or.inl ⟨by rfl, ?_⟩) (by assumption) ?_
     rotate_left
     ·intro w hSw
      try dsimp only at hSw
      go_simp
      all_goals with_reducible rfl
     try simp only [Act.put, List.setIfInBounds_toArray, List.set_cons_zero, List.set_cons_succ]
     refine wpAnyH_take (i := 2) (v := ?_) (iatLZ (iatSZ (iatSZ iatZZ))) (by kernel_rfl) (by kernel_rfl) (by kernel_rfl) (fun _ _ _ h => h) (Or.inl ⟨by rfl, ?_⟩) (by assumption) ?_
     rotate_left
     ·intro w hSw
      try dsimp only at hSw
      go_simp
      all_goals with_reducible rfl
     try simp only [Act.put, List.setIfInBounds_toArray, List.set_cons_zero, List.set_cons_succ]
     refine wpAnyH_take (i := 3) (v := ?_) (iatLZ (iatSZ (iatSZ (iatSZ iatZZ)))) (by kernel_rfl) (by kernel_rfl) (by kernel_rfl) (fun _ _ _ h => h) (Or.inl ⟨by rfl, ?_⟩) (by assumption) ?_
     rotate_left
     ·intro w hSw
      try dsimp only at hSw
      go_simp
      all_goals with_reducible rfl
     try simp only [Act.put, List.setIfInBounds_toArray, List.set_cons_zero, List.set_cons_succ]
     refine wpAnyH_take (i := 4) (v := ?_) (iatLZ (iatSZ (iatSZ (iatSZ (iatSZ iatZZ))))) (by kernel_rfl) (by kernel_rfl) (by kernel_rfl) (fun _ _ _ h => h) (Or.inl ⟨by rfl, ?_⟩) (by assumption) ?_
     rotate_left
     ·intro w hSw
      try dsimp only at hSw
      go_simp
      all_goals with_reducible rfl
     try simp only [Act.put, List.setIfInBounds_toArray, List.set_cons_zero, List.set_cons_succ]
     refine wpAnyH_take (i := 5) (v := undef) (iatLZ (iatSZ (iatSZ (iatSZ (iatSZ (iatSZ iatZZ)))))) (by kernel_rfl) (by kernel_rfl) (by kernel_rfl) (fun _ _ _ h => h) (Or.inr ⟨by rfl, rfl⟩) (by assumption) ?_
     try simp only [Act.put, List.setIfInBounds_toArray, List.set_cons_zero, List.set_cons_succ]
     refine wpAnyH_take (i := 6) (v := undef) (iatLZ (iatSZ (iatSZ (iatSZ (iatSZ (iatSZ (iatSZ iatZZ))))))) (by kernel_rfl) (by kernel_rfl) (by kernel_rfl) (fun _ _ _ h => h) (Or.inr ⟨by rfl, rfl⟩) (by assumption) ?_
     try simp only [Act.put, List.setIfInBounds_toArray, List.set_cons_zero, List.set_cons_succ]
     refine wpAnyH_take (i := 7) (v := undef) (iatLZ (iatSZ (iatSZ (iatSZ (iatSZ (iatSZ (iatSZ (iatSZ iatZZ)))))))) (by kernel_rfl) (by kernel_rfl) (by kernel_rfl) (fun _ _ _ h => h) (Or.inr ⟨by rfl, rfl⟩) (by assumption) ?_
     try simp only [Act.put, List.setIfInBounds_toArray, List.set_cons_zero, List.set_cons_succ]
     refine wpAnyH_take (i := 8) (v := undef) (iatLZ (iatSZ (iatSZ (iatSZ (iatSZ (iatSZ (iatSZ (iatSZ (iatSZ iatZZ))))))))) (by kernel_rfl) (by kernel_rfl) (by kernel_rfl) (fun _ _ _ h => h) (Or.inr ⟨by rfl, rfl⟩) (by assumption) ?_
     try simp only [Act.put, List.setIfInBounds_toArray, List.set_cons_zero, List.set_cons_succ]
     refine wpAnyH_take (i := 9) (v := undef) (iatLZ (iatSZ (iatSZ (iatSZ (iatSZ (iatSZ (iatSZ (iatSZ (iatSZ (iatSZ iatZZ)))))))))) (by kernel_rfl) (by kernel_rfl) (by kernel_rfl) (fun _ _ _ h => h) (Or.inr ⟨by rfl, rfl⟩) (by assumption) ?_
     try simp only [Act.put, List.setIfInBounds_toArray, List.set_cons_zero, List.set_cons_succ]
     refine wpAnyH_take (i := 10) (v := undef) (iatLZ (iatSZ (iatSZ (iatSZ (iatSZ (iatSZ (iatSZ (iatSZ (iatSZ (iatSZ (iatSZ iatZZ))))))))))) (by kernel_rfl) (by kernel_rfl) (by kernel_rfl) (fun _ _ _ h => h) (Or.inr ⟨by rfl, rfl⟩) (by assumption) ?_
     try simp only [Act.put, List.setIfInBounds_toArray, List.set_cons_zero, List.set_cons_succ]
     refine wpAnyH_take (i := 11) (v := undef) (iatLZ (iatSZ (iatSZ (iatSZ (iatSZ (iatSZ (iatSZ (iatSZ (iatSZ (iatSZ (iatSZ (iatSZ iatZZ)))))))))))) (by kernel_rfl) (by kernel_rfl) (by kernel_rfl) (fun _ _ _ h => h) (Or.inr ⟨by rfl, rfl⟩) (by assumption) ?_
     try simp only [Act.put, List.setIfInBounds_toArray, List.set_cons_zero, List.set_cons_succ]
     refine wpAnyH_take (i := 12) (v := undef) (iatLZ (iatSZ (iatSZ (iatSZ (iatSZ (iatSZ (iatSZ (iatSZ (iatSZ (iatSZ (iatSZ (iatSZ (iatSZ iatZZ))))))))))))) (by kernel_rfl) (by kernel_rfl) (by kernel_rfl) (fun _ _ _ h => h) (Or.inr ⟨by rfl, rfl⟩) (by assumption) ?_
     try simp only [Act.put, List.setIfInBounds_toArray, List.set_cons_zero, List.set_cons_succ]
     refine wpAnyH_take (i := 13) (v := undef) (iatLZ (iatSZ (iatSZ (iatSZ (iatSZ (iatSZ (iatSZ (iatSZ (iatSZ (iatSZ (iatSZ (iatSZ (iatSZ (iatSZ iatZZ)))))))))))))) (by kernel_rfl) (by kernel_rfl) (by kernel_rfl) (fun _ _ _ h => h) (Or.inr ⟨by rfl, rfl⟩) (by assumption) ?_
     try simp only [Act.put, List.setIfInBounds_toArray, List.set_cons_zero, List.set_cons_succ]
     refine wpAnyH_take (i := 14) (v := ?_) (iatLZ (iatSZ (iatSZ (iatSZ (iatSZ (iatSZ (iatSZ (iatSZ (iatSZ (iatSZ (iatSZ (iatSZ (iatSZ (iatSZ (iatSZ iatZZ))))))))))))))) (by kernel_rfl) (by kernel_rfl) (by kernel_rfl) (fun _ _ _ h => h) (Or.inl ⟨by rfl, ?_⟩) (by assumption) ?_
     rotate_left
     ·intro w hSw
      try dsimp only at hSw
      go_simp
      all_goals with_reducible rfl
     try simp only [Act.put, List.setIfInBounds_toArray, List.set_cons_zero, List.set_cons_succ]
     refine wpAnyH_done (by kernel_rfl) ?_ _
     go_wp2_with (fail)
     refine wp_region_held_drew (S := fun w' => (w'.cell? ⟨mb, 0, none⟩ = some (.map (some sb)) ∧ w'.cell? ⟨wo.heap.size, 0, none⟩ = some (.int .i64 xn))) (by kernel_rfl) ?_ (fun hHeld => ?_)
     ·exact HS11.out
     refine wpAnyH_take (i := 0) (v := ?_) (iatLZ iatZZ) (by kernel_rfl) (by kernel_rfl) (by kernel_rfl) (fun _ _ _ h => h) (Or.inl ⟨by rfl, ?_⟩) (by assumption) ?_
     rotate_left
     ·intro w hSw
      try dsimp only at hSw
      go_simp
      all_goals with_reducible rfl
     try simp only [Act.put, List.setIfInBounds_toArray, List.set_cons_zero, List.set_cons_succ]
     refine wpAnyH_take (i := 1) (v := ?_) (iatLZ (iatSZ iatZZ)) (by kernel_rfl) (by kernel_rfl) (by kernel_rfl) (fun _ _ _ h => h) (Or.inl ⟨by rfl, ?_⟩) (by assumption) ?_
     rotate_left
     ·intro w hSw
      try dsimp only at hSw
      go_simp
      all_goals with_reducible rfl
     try simp only [Act.put, List.setIfInBounds_toArray, List.set_cons_zero, List.set_cons_succ]
     refine wpAnyH_take (i := 2) (v := ?_) (iatLZ (iatSZ (iatSZ iatZZ))) (by kernel_rfl) (by kernel_rfl) (by kernel_rfl) (fun _ _ _ h => h) (Or.inl ⟨by rfl, ?_⟩) (by assumption) ?_
     rotate_left
     ·intro w hSw
      try dsimp only at hSw
      go_simp
      all_goals with_reducible rfl
     try simp only [Act.put, List.setIfInBounds_toArray, List.set_cons_zero, List.set_cons_succ]
     refine wpAnyH_take (i := 3) (v := ?_) (iatLZ (iatSZ (iatSZ (iatSZ iatZZ)))) (by kernel_rfl) (by kernel_rfl) (by kernel_rfl) (fun _ _ _ h => h) (Or.inl ⟨by rfl, ?_⟩) (by assumption) ?_
     rotate_left
     ·intro w hSw
      try dsimp only at hSw
      go_simp
      all_goals with_reducible rfl
     try simp only [Act.put, List.setIfInBounds_toArray, List.set_cons_zero, List.set_cons_succ]
     refine wpAnyH_take (i := 4) (v := ?_) (iatLZ (iatSZ (iatSZ (iatSZ (iatSZ iatZZ))))) (by kernel_rfl) (by kernel_rfl) (by kernel_rfl) (fun _ _ _ h => h) (Or.inl ⟨by rfl, ?_⟩) (by assumption) ?_
     rotate_left
     ·intro w hSw
      try dsimp only at hSw
      go_simp
      all_goals with_reducible rfl
     try simp only [Act.put, List.setIfInBounds_toArray, List.set_cons_zero, List.set_cons_succ]
     refine wpAnyH_take (i := 5) (v := ?_) (iatLZ (iatSZ (iatSZ (iatSZ (iatSZ (iatSZ iatZZ)))))) (by kernel_rfl) (by kernel_rfl) (by kernel_rfl) (fun _ _ _ h => h) (Or.inl ⟨by rfl, ?_⟩) (by assumption) ?_
     rotate_left
     ·intro w hSw
      try dsimp only at hSw
      go_simp
      all_goals with_reducible rfl
     try simp only [Act.put, List.setIfInBounds_toArray, List.set_cons_zero, List.set_cons_succ]
     refine wpAnyH_ready (rs := [6]) (by kernel_rfl) (by simp) ?_
     refine AllReadyH.cons (iatLZ (iatSZ (iatSZ (iatSZ (iatSZ (iatSZ (iatSZ iatZZ))))))) (fun K hK => ?_) AllReadyH.nil
     go_simp
     go_at_call 61
     (with_reducible refine HcA.out.mono ?_)
     rintro e V1 ⟨rfl, hset1, hg1⟩
     have HSet1 := Lib.hid hset1
     have HG1 := Lib.hid hg1
     clear hset1 hg1
     have HS12 : Hid (V1.cell? ⟨mb, 0, none⟩ = some (.map (some sb)) ∧ V1.cell? ⟨wo.heap.size, 0, none⟩ = some (.int .i64 xn)) := Lib.hid ⟨by simpa using (HO11.out.at_.mbx.kept HG1.out (fun e => hns (by injection e))).cell 0, by simpa using (HB11.out.kept HG1.out (fun e => hnt (by injection e))).cell 0⟩
     try dsimp only
     refine hK.out _ _ ?_ (fun hHeld => ?_)
     ·exact HS12.out
     clear hK K
     try simp only [Act.put, List.setIfInBounds_toArray, List.set_cons_zero, List.set_cons_succ]
     refine wpAnyH_done (by kernel_rfl) ?_ _
     have HbW : Hid (Below base W wi.drew.drew) := Lib.hid (((HB.out.trans (Hbi.out.mono (Nat.le_trans hb HB.out.size))).drew).drew)
     have hnb : n' + 1 + leftM T1 M' O ≤ n + leftM T1 M [y] := by have h1 := hlg.out; have h2 := hgk.out; have h3 := hnk.out; omega
     cases q
     ·have hl2 : Hid (leftM T1 (fun t => decide (t = xn) || M' t) (O ++ onK P' xn) < leftM T1 M' (O ++ [⟨xn, xl, xa, xc⟩])) := Lib.hid (by have h := left_make HIi.out rfl hq.out; have h4 : leftM T1 M' (O ++ [⟨xn, xl, xa, xc⟩]) = leftM T1 M' (O ++ [⟨xn, [], a', c'⟩]) := (by simp [leftM]); rw [h4]; exact h)
      obtain ⟨ya, yc, a2, c2, W2, hlk, hap, hO2, hbW, hg2⟩ := HO11.out.makes (W' := V1.drew) xn hq.out hfit (HSet1.out.kept (grownBy_drew V1 none) (by simp)) (grownBy_trans HG1.out (grownBy_drew V1 none) (fun i e => by cases e)) (by omega) (Nat.le_trans hb HbW.out.size)
      have hgt : (Value.slice (some ⟨g, 0, none⟩) O.length c).ownBlock ≠ some wo.heap.size := fun e => by
       have e2 : g = wo.heap.size := by simpa [Value.ownBlock] using e
       omega
      have hO2b : Hid (Blk V1.drew wo.heap.size 118 [.int .i64 xn, .slice a' ([] : List Int).length c']) := Lib.hid (HB11.out.kept (grownBy_trans HG1.out (grownBy_drew V1 none) (fun i e => by cases e)) (fun e => hnt (by injection e)))
      have HS13 : Hid (V1.drew.cell? ⟨mb, 1, none⟩ = some (.map (some wb)) ∧ V1.drew.cell? ⟨wo.heap.size, 0, none⟩ = some (.int .i64 xn)) := Lib.hid ⟨by simpa using (HO11.out.at_.mbx.kept (grownBy_trans HG1.out (grownBy_drew V1 none) (fun i e => by cases e)) (fun e => hns (by injection e))).cell 1, by simpa using hO2b.out.cell 0⟩
      have HS14 : Hid (W2.cell? ⟨mb, 1, none⟩ = some (.map (some wb)) ∧ W2.cell? ⟨wo.heap.size, 0, none⟩ = some (.int .i64 xn)) := Lib.hid ⟨by simpa using hO2.at_.mbx.cell 1, by simpa using (hO2b.out.kept hg2 (fun e => hgt e.symm)).cell 0⟩
      have Hap := Lib.hid hap
      have HO2' := Lib.hid hO2
      have HbW2 := Lib.hid (HbW.out.trans hbW)
      have HI2 := Lib.hid (HIi.out.make rfl)
      have hlen : Hid ((O ++ onK P' xn).length = L + (onK P' xn).length) := Lib.hid (by rw [List.length_append, hL.out])
      rw [hL.out] at Hap
      obtain ⟨KL, hKL⟩ : ∃ q, Hid ((onK P' xn).length = q) := ⟨_, Lib.hid rfl⟩
      rw [hKL.out] at hlk Hap hlen
      clear hap hO2 hbW hg2 hgt
      go_wp2_with (fail)
      refine wp_region_held_drew (S := fun w' => (w'.cell? ⟨mb, 1, none⟩ = some (.map (some wb)) ∧ w'.cell? ⟨wo.heap.size, 0, none⟩ = some (.int .i64 xn))) (by kernel_rfl) ?_ (fun hHeld => ?_)
      ·exact HS13.out
      refine wpAnyH_take (i := 0) (v := ?_) (iatLZ iatZZ) (by kernel_rfl) (by kernel_rfl) (by kernel_rfl) (fun _ _ _ h => h) (Or.inl ⟨by rfl, ?_⟩) (by assumption) ?_
      rotate_left
      ·intro w hSw
       try dsimp only at hSw
       go_simp
       all_goals with_reducible rfl
      try simp only [Act.put, List.setIfInBounds_toArray, List.set_cons_zero, List.set_cons_succ]
      refine wpAnyH_take (i := 1) (v := ?_) (iatLZ (iatSZ iatZZ)) (by kernel_rfl) (by kernel_rfl) (by kernel_rfl) (fun _ _ _ h => h) (Or.inl ⟨by rfl, ?_⟩) (by assumption) ?_
      rotate_left
      ·intro w hSw
       try dsimp only at hSw
       go_simp
       all_goals with_reducible rfl
      try simp only [Act.put, List.setIfInBounds_toArray, List.set_cons_zero, List.set_cons_succ]
      refine wpAnyH_take (i := 2) (v := ?_) (iatLZ (iatSZ (iatSZ iatZZ))) (by kernel_rfl) (by kernel_rfl) (by kernel_rfl) (fun _ _ _ h => h) (Or.inl ⟨by rfl, ?_⟩) (by assumption) ?_
      rotate_left
      ·intro w hSw
       try dsimp only at hSw
       go_simp
       all_goals with_reducible rfl
      try simp only [Act.put, List.setIfInBounds_toArray, List.set_cons_zero, List.set_cons_succ]
      refine wpAnyH_take (i := 3) (v := ?_) (iatLZ (iatSZ (iatSZ (iatSZ iatZZ)))) (by kernel_rfl) (by kernel_rfl) (by kernel_rfl) (fun _ _ _ h => h) (Or.inl ⟨by rfl, ?_⟩) (by assumption) ?_
      rotate_left
      ·intro w hSw
       try dsimp only at hSw
       go_simp
       all_goals with_reducible rfl
      try simp only [Act.put, List.setIfInBounds_toArray, List.set_cons_zero, List.set_cons_succ]
      refine wpAnyH_take (i := 4) (v := ?_) (iatLZ (iatSZ (iatSZ (iatSZ (iatSZ iatZZ))))) (by kernel_rfl) (by kernel_rfl) (by kernel_rfl) (fun _ _ _ h => h) (Or.inl ⟨by rfl, ?_⟩) (by assumption) ?_
      rotate_left
      ·intro w hSw
       try dsimp only at hSw
       go_simp
       all_goals with_reducible rfl
      try simp only [Act.put, List.setIfInBounds_toArray, List.set_cons_zero, List.set_cons_succ]
      refine wpAnyH_take (i := 5) (v := ?_) (iatLZ (iatSZ (iatSZ (iatSZ (iatSZ (iatSZ iatZZ)))))) (by kernel_rfl) (by kernel_rfl) (by kernel_rfl) (fun _ _ _ h => h) (Or.inl ⟨by rfl, ?_⟩) (by assumption) ?_
      rotate_left
      ·intro w hSw
       try dsimp only at hSw
       go_simp
       all_goals with_reducible rfl
      try simp only [Act.put, List.setIfInBounds_toArray, List.set_cons_zero, List.set_cons_succ]
      refine wpAnyH_take (i := 6) (v := ?_) (iatLZ (iatSZ (iatSZ (iatSZ (iatSZ (iatSZ (iatSZ iatZZ))))))) (by kernel_rfl) (by kernel_rfl) (by kernel_rfl) (fun _ _ _ h => h) (Or.inl ⟨by rfl, ?_⟩) (by assumption) ?_
      rotate_left
      ·intro w hSw
       try dsimp only at hSw
       go_simp
       all_goals with_reducible rfl
      try simp only [Act.put, List.setIfInBounds_toArray, List.set_cons_zero, List.set_cons_succ]
      refine wpAnyH_ready (rs := [7]) (by kernel_rfl) (by simp) ?_
      refine AllReadyH.cons (iatLZ (iatSZ (iatSZ (iatSZ (iatSZ (iatSZ (iatSZ (iatSZ iatZZ)))))))) (fun K hK => ?_) AllReadyH.nil
      go_simp
      refine hK.out _ _ ?_ (fun hHeld => ?_)
      ·exact HS13.out
      clear hK K
      try simp only [Act.put, List.setIfInBounds_toArray, List.set_cons_zero, List.set_cons_succ]
      refine wpAnyH_ready (rs := [8]) (by kernel_rfl) (by simp) ?_
      refine AllReadyH.cons (iatLZ (iatSZ (iatSZ (iatSZ (iatSZ (iatSZ (iatSZ (iatSZ (iatSZ iatZZ))))))))) (fun K hK => ?_) AllReadyH.nil
      refine stepAppZ rfl _ _ 116 116 rfl _ _ _ _ rfl rfl Hap.out ?_
      refine hK.out _ _ ?_ (fun hHeld => ?_)
      ·exact HS14.out
      clear hK K
      try simp only [Act.put, List.setIfInBounds_toArray, List.set_cons_zero, List.set_cons_succ]
      refine wpAnyH_take (i := 9) (v := ?_) (iatLZ (iatSZ (iatSZ (iatSZ (iatSZ (iatSZ (iatSZ (iatSZ (iatSZ (iatSZ iatZZ)))))))))) (by kernel_rfl) (by kernel_rfl) (by kernel_rfl) (fun _ _ _ h => h) (Or.inl ⟨by rfl, ?_⟩) (by assumption) ?_
      rotate_left
      ·intro w hSw
       try dsimp only at hSw
       go_simp
       all_goals with_reducible rfl
      try simp only [Act.put, List.setIfInBounds_toArray, List.set_cons_zero, List.set_cons_succ]
      refine wpAnyH_done (by kernel_rfl) ?_ _
      go_wp2_with (fail)
      go_roundg (leftM T1 (fun t => decide (t = xn) || M' t) (O ++ onK P' xn))
      case measure => rw [hgk.out]; exact hl2.out
      case rel => exact ⟨O ++ onK P' xn, n' + 1, _, _, f', a2, c2, Lib.hid rfl, Lib.hid (by have h1 := hl2.out; have h2 := hgk.out; have h3 := hnk.out; omega), by rw [hlen.out], HO2', HI2, HbW2⟩
     ·have HO12 := Lib.hid (HO11.out.had xn hq.out HSet1.out HG1.out)
      have HbW1 : Hid (Below base W V1) := Lib.hid (HbW.out.trans (belowAt HG1.out (fun i e => by injection e with e; have := HOi.out.at_.lo; omega) (Nat.le_trans hb HbW.out.size)))
      go_wp2_with (fail)
      go_roundg (leftM T1 M' O)
      case measure => rw [hgk.out]; exact hlg.out
      case rel => exact ⟨O, n' + 1, M', P', f', some ⟨g, 0, none⟩, c, Lib.hid rfl, Lib.hid hnb, by rw [hL.out], HO12, Lib.hid (HIi.out.drop hq.out), HbW1⟩
    | cons z r =>
     rw [List.length_cons] at z1
     have hNr := HNi.out.row
     dsimp only at hNr
     rw [List.map_cons] at hNr
     have hcp := hNr.le
     have hcm := hNr.max
     rw [List.length_cons, List.length_map] at hcp
     have hfz : (Go.Lit.int .i64 z).wf = true := HNi.out.fits z (by simp)
     obtain ⟨b, off, rfl⟩ := hNr.at_ 0 (by simp)
     have e0 := cell_up (h0.trans ((HB.out.trans (Hbi.out.mono (Nat.le_trans hb HB.out.size))).mono hB)) (hNr.cell b off rfl 0 (by simp))
     have el := World.block_lt_of_cell? _ _ e0
     rw [List.getElem_cons_zero, Nat.add_zero] at e0
     obtain ⟨R, hR⟩ : ∃ q, Hid (r.length = q) := ⟨_, Lib.hid rfl⟩
     rw [hR.out] at z1 hcp
     have hRp : ((R + 1 : Nat) : Int) > 0 := by omega
     have hRp2 : decide (((R + 1 : Nat) : Int) > 0) = true := decide_eq_true hRp
     have hRc : ((R + 1 : Nat) : Int) ≤ (c' : Int) := by omega
     have HS6 : Hid (wi.drew.cell? ⟨wo.heap.size, 1, none⟩ = some (.slice (some ⟨b, off, none⟩) (R + 1) c') ∧ wi.drew.cell? ⟨mb, 0, none⟩ = some (.map (some sb)) ∧ wi.drew.cell? ⟨b, off, none⟩ = some (.int .i64 z)) := Lib.hid ⟨z1, m0, e0⟩
     have HO6 : Hid (OpAtZ w0 wi.drew base mb sb wb n' M' P' f' O (some ⟨g, 0, none⟩) c) := Lib.hid (HOi.out.below ((Below.refl _ wi).drew))
     have HcH := Lib.hid (zHas_any wi.drew sb n' M' z HO6.out.at_.set hfz)
     obtain ⟨q, hq⟩ : ∃ q, Hid (M' z = q) := ⟨_, Lib.hid rfl⟩
     rw [hq.out] at HcH
     have HBi' : Hid (Blk wi wo.heap.size 118 [.int .i64 xn, .slice (some ⟨b, off, none⟩) (R + 1) c']) := by
      have := HBi.out
      rw [List.length_cons, hR.out] at this
      exact Lib.hid this
     have HE0 := Lib.hid e0
     have HbW : Hid (Below base W wi.drew) := Lib.hid ((HB.out.trans (Hbi.out.mono (Nat.le_trans hb HB.out.size))).drew)
     have Hbo : Hid (Below wo.heap.size wo wi.drew) := Lib.hid (Hbi.out.drew)
     have HM0 := Lib.hid m0
     clear hNr HBi e0
     go_wp2_with (fail)
     refine wp_region_held_drew (S := fun w' => (w'.cell? ⟨wo.heap.size, 1, none⟩ = some (.slice (some ⟨b, off, none⟩) (R + 1) c') ∧ w'.cell? ⟨mb, 0, none⟩ = some (.map (some sb)) ∧ w'.cell? ⟨b, off, none⟩ = some (.int .i64 z))) (by kernel_rfl) ?_ (fun hHeld => ?_)
     ·exact HS6.out
     refine wpAnyH_take (i := 0) (v := ?_) (iatLZ iatZZ) (by kernel_rfl) (by kernel_rfl) (by kernel_rfl) (fun _ _ _ h => h) (Or.inl ⟨by rfl, ?_⟩) (by assumption) ?_
     rotate_left
     ·intro w hSw
      try dsimp only at hSw
      go_simp
      all_goals with_reducible rfl
     try simp only [Act.put, List.setIfInBounds_toArray, List.set_cons_zero, List.set_cons_succ]
     refine wpAnyH_take (i := 1) (v := ?_) (iatLZ (iatSZ iatZZ)) (by kernel_rfl) (by kernel_rfl) (by kernel_rfl) (fun _ _ _ h => h) (Or.inl ⟨by rfl, ?_⟩) (by assumption) ?_
     rotate_left
     ·intro w hSw
      try dsimp only at hSw
      go_simp
      all_goals with_reducible rfl
     try simp only [Act.put, List.setIfInBounds_toArray, List.set_cons_zero, List.set_cons_succ]
     refine wpAnyH_take (i := 2) (v := ?_) (iatLZ (iatSZ (iatSZ iatZZ))) (by kernel_rfl) (by kernel_rfl) (by kernel_rfl) (fun _ _ _ h => h) (Or.inl ⟨by rfl, ?_⟩) (by assumption) ?_
     rotate_left
     ·intro w hSw
      try dsimp only at hSw
      go_simp
      all_goals with_reducible rfl
     try simp only [Act.put, List.setIfInBounds_toArray, List.set_cons_zero, List.set_cons_succ]
     refine wpAnyH_take (i := 3) (v := ?_) (iatLZ (iatSZ (iatSZ (iatSZ iatZZ)))) (by kernel_rfl) (by kernel_rfl) (by kernel_rfl) (fun _ _ _ h => h) (Or.inl ⟨by rfl, ?_⟩) (by assumption) ?_
     rotate_left
     ·intro w hSw
      try dsimp only at hSw
      go_simp
      all_goals with_reducible rfl
     try simp only [Act.put, List.setIfInBounds_toArray, List.set_cons_zero, List.set_cons_succ]
     refine wpAnyH_take (i := 4) (v := ?_) (iatLZ (iatSZ (iatSZ (iatSZ (iatSZ iatZZ))))) (by kernel_rfl) (by kernel_rfl) (by kernel_rfl) (fun _ _ _ h => h) (Or.inl ⟨by rfl, ?_⟩) (by assumption) ?_
     rotate_left
     ·intro w hSw
      try dsimp only at hSw
      go_simp
      all_goals with_reducible rfl
     try simp only [Act.put, List.setIfInBounds_toArray, List.set_cons_zero, List.set_cons_succ]
     refine wpAnyH_take (i := 5) (v := ?_) (iatLZ (iatSZ (iatSZ (iatSZ (iatSZ (iatSZ iatZZ)))))) (by kernel_rfl) (by kernel_rfl) (by kernel_rfl) (fun _ _ _ h => h) (Or.inl ⟨by rfl, ?_⟩) (by assumption) ?_
     rotate_left
     ·intro w hSw
      try dsimp only at hSw
      go_simp
      all_goals with_reducible rfl
     try simp only [Act.put, List.setIfInBounds_toArray, List.set_cons_zero, List.set_cons_succ]
     refine wpAnyH_take (i := 6) (v := ?_) (iatLZ (iatSZ (iatSZ (iatSZ (iatSZ (iatSZ (iatSZ iatZZ))))))) (by kernel_rfl) (by kernel_rfl) (by kernel_rfl) (fun _ _ _ h => h) (Or.inl ⟨by rfl, ?_⟩) (by assumption) ?_
     rotate_left
     ·intro w hSw
      try dsimp only at hSw
      go_simp
      all_goals with_reducible rfl
     try simp only [Act.put, List.setIfInBounds_toArray, List.set_cons_zero, List.set_cons_succ]
     refine wpAnyH_take (i := 7) (v := ?_) (iatLZ (iatSZ (iatSZ (iatSZ (iatSZ (iatSZ (iatSZ (iatSZ iatZZ)))))))) (by kernel_rfl) (by kernel_rfl) (by kernel_rfl) (fun _ _ _ h => h) (Or.inl ⟨by rfl, ?_⟩) (by assumption) ?_
     rotate_left
     ·intro w hSw
      try dsimp only at hSw
      go_simp
      all_goals with_reducible rfl
     try simp only [Act.put, List.setIfInBounds_toArray, List.set_cons_zero, List.set_cons_succ]
     refine wpAnyH_take (i := 8) (v := ?_) (iatLZ (iatSZ (iatSZ (iatSZ (iatSZ (iatSZ (iatSZ (iatSZ (iatSZ iatZZ))))))))) (by kernel_rfl) (by kernel_rfl) (by kernel_rfl) (fun _ _ _ h => h) (Or.inl ⟨by rfl, ?_⟩) (by assumption) ?_
     rotate_left
     ·intro w hSw
      try dsimp only at hSw
      go_simp
      all_goals with_reducible rfl
     try simp only [Act.put, List.setIfInBounds_toArray, List.set_cons_zero, List.set_cons_succ]
     refine wpAnyH_take (i := 9) (v := ?_) (iatLZ (iatSZ (iatSZ (iatSZ (iatSZ (iatSZ (iatSZ (iatSZ (iatSZ (iatSZ iatZZ)))))))))) (by kernel_rfl) (by kernel_rfl) (by kernel_rfl) (fun _ _ _ h => h) (Or.inl ⟨by rfl, ?_⟩) (by assumption) ?_
     rotate_left
     ·intro w hSw
      try dsimp only at hSw
      go_simp
      all_goals with_reducible rfl
     try simp only [Act.put, List.setIfInBounds_toArray, List.set_cons_zero, List.set_cons_succ]
     refine wpAnyH_take (i := 10) (v := ?_) (iatLZ (iatSZ (iatSZ (iatSZ (iatSZ (iatSZ (iatSZ (iatSZ (iatSZ (iatSZ (iatSZ iatZZ))))))))))) (by kernel_rfl) (by kernel_rfl) (by kernel_rfl) (fun _ _ _ h => h) (Or.inl ⟨by rfl, ?_⟩) (by assumption) ?_
     rotate_left
     ·intro w hSw
      try dsimp only at hSw
      go_simp
      all_goals with_reducible rfl
     try simp only [Act.put, List.setIfInBounds_toArray, List.set_cons_zero, List.set_cons_succ]
     refine wpAnyH_take (i := 11) (v := ?_) (iatLZ (iatSZ (iatSZ (iatSZ (iatSZ (iatSZ (iatSZ (iatSZ (iatSZ (iatSZ (iatSZ (iatSZ iatZZ)))))))))))) (by kernel_rfl) (by kernel_rfl) (by kernel_rfl) (fun _ _ _ h => h) (Or.inl ⟨by rfl, ?_⟩) (by assumption) ?_
     rotate_left
     ·intro w hSw
      try dsimp only at hSw
      go_simp
      all_goals with_reducible rfl
     try simp only [Act.put, List.setIfInBounds_toArray, List.set_cons_zero, List.set_cons_succ]
     refine wpAnyH_take (i := 12) (v := ?_) (iatLZ (iatSZ (iatSZ (iatSZ (iatSZ (iatSZ (iatSZ (iatSZ (iatSZ (iatSZ (iatSZ (iatSZ (iatSZ iatZZ))))))))))))) (by kernel_rfl) (by kernel_rfl) (by kernel_rfl) (fun _ _ _ h => h) (Or.inl ⟨by rfl, ?_⟩) (by assumption) ?_
     rotate_left
     ·intro w hSw
      try dsimp only at hSw
      go_simp
      all_goals with_reducible rfl
     try simp only [Act.put, List.setIfInBounds_toArray, List.set_cons_zero, List.set_cons_succ]
     refine wpAnyH_ready (rs := [13]) (by kernel_rfl) (by simp) ?_
     refine AllReadyH.cons (iatLZ (iatSZ (iatSZ (iatSZ (iatSZ (iatSZ (iatSZ (iatSZ (iatSZ (iatSZ (iatSZ (iatSZ (iatSZ (iatSZ iatZZ)))))))))))))) (fun K hK => ?_) AllReadyH.nil
     go_simp
     go_at_call 94
     (with_reducible refine HcH.out.mono ?_)
     rintro e V3 ⟨rfl, hg3⟩
     have HV3 := Lib.hid (grownBy_below hg3 (fun i e => by cases e))
     clear hg3
     have HS6b : Hid (V3.cell? ⟨wo.heap.size, 1, none⟩ = some (.slice (some ⟨b, off, none⟩) (R + 1) c') ∧ V3.cell? ⟨mb, 0, none⟩ = some (.map (some sb)) ∧ V3.cell? ⟨b, off, none⟩ = some (.int .i64 z)) := Lib.hid ⟨cell_up HV3.out HS6.out.1, cell_up HV3.out HS6.out.2.1, cell_up HV3.out HS6.out.2.2⟩
     try dsimp only
     refine hK.out _ _ ?_ (fun hHeld => ?_)
     ·exact HS6b.out
     clear hK K
     try simp only [Act.put, List.setIfInBounds_toArray, List.set_cons_zero, List.set_cons_succ]
     refine wpAnyH_take (i := 14) (v := ?_) (iatLZ (iatSZ (iatSZ (iatSZ (iatSZ (iatSZ (iatSZ (iatSZ (iatSZ (iatSZ (iatSZ (iatSZ (iatSZ (iatSZ (iatSZ iatZZ))))))))))))))) (by kernel_rfl) (by kernel_rfl) (by kernel_rfl) (fun _ _ _ h => h) (Or.inl ⟨by rfl, ?_⟩) (by assumption) ?_
     rotate_left
     ·intro w hSw
      try dsimp only at hSw
      go_simp
      all_goals with_reducible rfl
     try simp only [Act.put, List.setIfInBounds_toArray, List.set_cons_zero, List.set_cons_succ]
     refine wpAnyH_done (by kernel_rfl) ?_ _
     have HO7 := Lib.hid (HO6.out.below HV3.out)
     have HB7 := Lib.hid (HBi'.out.below ((Below.refl wi.heap.size wi).drew.trans HV3.out) HBi'.out.lt)
     have HbW7 := Lib.hid (HbW.out.trans (HV3.out.mono (Nat.le_trans hb HbW.out.size)))
     have Hbo7 := Lib.hid (Hbo.out.trans (HV3.out.mono Hbo.out.size))
     have z1' := HB7.out.cell 1
     have z0' := HB7.out.cell 0
     have zl' := HB7.out.lt
     have zf' := HB7.out.frozen 1
     simp only [List.getElem?_cons_zero, List.getElem?_cons_succ] at z0' z1'
     have hl7 : wo.heap.size < V3.heap.size := zl'
     have e7 := cell_up HV3.out HS6.out.2.2
     have el7 := World.block_lt_of_cell? _ _ e7
     cases q
     ·obtain ⟨ya, yc, ya', yc', W1, W2, hlk, hlk2, hap, hup, hO2, hbW, hga, hgb, hfx⟩ := (HO7.out.below (Below.refl _ V3).drew).waits ⟨xn, z :: r, some ⟨b, off, none⟩, c'⟩ z HNi.out hq.out hfz (by have h1 := hnk.out; have h2 := Hlm.out; omega) (by omega) (Nat.le_trans hb HbW7.out.size)
      dsimp only at hlk2 hap
      rw [List.length_cons, hR.out] at hlk2 hap
      have hrow : ∀ g2, (Value.slice ya (onK P' z).length yc).ownBlock = some g2 → g2 < wo.heap.size := fun g2 e => (HO2.out.at_.lt z hfz hq.out g2 (by rw [hfx]; exact e)).2
      have hB7d : Blk V3.drew wo.heap.size 118 [.int .i64 xn, .slice (some ⟨b, off, none⟩) (R + 1) c'] := HB7.out
      have hB7a := hB7d.kept hga (fun e => by have := hrow _ e.symm; omega)
      have hB7b := hB7a.kept hgb (fun e => by
       have := (HO7.out.at_.blk_ne HB7.out).2
       injection e with e
       exact this e)
      have hM7 : Blk V3.drew mb 154 [.map (some sb), .map (some wb)] := HO7.out.at_.mbx
      have hM7a := hM7.kept hga (fun e => by
       obtain ⟨xa2, xc2, hf2, ho2⟩ := HO7.out.at_.rows z hfz hq.out
       rw [hfx] at hf2
       have h2 : (Value.slice xa2 (onK P' z).length xc2).ownBlock = some mb := by rw [← hf2]; exact e.symm
       exact (HO7.out.at_.row_ne ho2 mb h2).1 rfl)
      have HS10 : Hid (V3.drew.cell? ⟨mb, 1, none⟩ = some (.map (some wb)) ∧ V3.drew.cell? ⟨wo.heap.size, 0, none⟩ = some (.int .i64 xn) ∧ V3.drew.cell? ⟨wo.heap.size, 1, none⟩ = some (.slice (some ⟨b, off, none⟩) (R + 1) c')) := Lib.hid ⟨by simpa using hM7.cell 1, by simpa using hB7d.cell 0, by simpa using hB7d.cell 1⟩
      have HS10a : Hid (∀ o, (V3.drew.alloc o).cell? ⟨mb, 1, none⟩ = some (.map (some wb)) ∧ (V3.drew.alloc o).cell? ⟨wo.heap.size, 0, none⟩ = some (.int .i64 xn) ∧ (V3.drew.alloc o).cell? ⟨wo.heap.size, 1, none⟩ = some (.slice (some ⟨b, off, none⟩) (R + 1) c')) := Lib.hid (fun o => ⟨by simpa using (hM7.alloc o).cell 1, by simpa using (hB7d.alloc o).cell 0, by simpa using (hB7d.alloc o).cell 1⟩)
      have HS10b : Hid (W1.cell? ⟨mb, 1, none⟩ = some (.map (some wb)) ∧ W1.cell? ⟨wo.heap.size, 0, none⟩ = some (.int .i64 xn) ∧ W1.cell? ⟨wo.heap.size, 1, none⟩ = some (.slice (some ⟨b, off, none⟩) (R + 1) c')) := Lib.hid ⟨by simpa using hM7a.cell 1, by simpa using hB7a.cell 0, by simpa using hB7a.cell 1⟩
      have HS10c : Hid (W2.cell? ⟨mb, 1, none⟩ = some (.map (some wb)) ∧ W2.cell? ⟨wo.heap.size, 0, none⟩ = some (.int .i64 xn) ∧ W2.cell? ⟨wo.heap.size, 1, none⟩ = some (.slice (some ⟨b, off, none⟩) (R + 1) c')) := Lib.hid ⟨by simpa using hO2.at_.mbx.cell 1, by simpa using hB7b.cell 0, by simpa using hB7b.cell 1⟩
      have Hap := Lib.hid hap
      have HOw := Lib.hid hO2
      have HbW8 := Lib.hid ((HbW7.out.drew).trans hbW)
      have HIw := Lib.hid (HIi.out.waits rfl hq.out)
      obtain ⟨KL, hKL⟩ : ∃ q, Hid ((onK P' z).length = q) := ⟨_, Lib.hid rfl⟩
      rw [hKL.out] at hlk hlk2 Hap hup
      have hnb : n' + 1 + leftM T1 M' O ≤ n + leftM T1 M [y] := by have h1 := hlg.out; have h2 := hgk.out; have h3 := hnk.out; omega
      have hlk3 : (Instr.lookup 152 (.map (some wb)) (.int .i64 z) false).run Try.prog (V3.alloc (.cells #[.int .i64 xn, .slice (some ⟨b, off, none⟩) (R + 1) c'] 118)).drew = .ok (.slice ya KL yc) (V3.alloc (.cells #[.int .i64 xn, .slice (some ⟨b, off, none⟩) (R + 1) c'] 118)).drew := hlk2
      clear hlk2
      clear hap hO2 hbW hga hgb hrow hB7d hB7a hB7b hM7 hM7a hfx
      go_wp2_with (fail)
      refine wp_region_held_drew (S := fun w' => (w'.cell? ⟨mb, 1, none⟩ = some (.map (some wb)) ∧ w'.cell? ⟨wo.heap.size, 0, none⟩ = some (.int .i64 xn) ∧ w'.cell? ⟨wo.heap.size, 1, none⟩ = some (.slice (some ⟨b, off, none⟩) (R + 1) c'))) (by kernel_rfl) ?_ (fun hHeld => ?_)
      ·exact HS10.out
      refine wpAnyH_take (i := 0) (v := ?_) (iatLZ iatZZ) (by kernel_rfl) (by kernel_rfl) (by kernel_rfl) (fun _ _ _ h => h) (Or.inl ⟨by rfl, ?_⟩) (by assumption) ?_
      rotate_left
      ·intro w hSw
       try dsimp only at hSw
       go_simp
       all_goals with_reducible rfl
      try simp only [Act.put, List.setIfInBounds_toArray, List.set_cons_zero, List.set_cons_succ]
      refine wpAnyH_take (i := 1) (v := ?_) (iatLZ (iatSZ iatZZ)) (by kernel_rfl) (by kernel_rfl) (by kernel_rfl) (fun _ _ _ h => h) (Or.inl ⟨by rfl, ?_⟩) (by assumption) ?_
      rotate_left
      ·intro w hSw
       try dsimp only at hSw
       go_simp
       all_goals with_reducible rfl
      try simp only [Act.put, List.setIfInBounds_toArray, List.set_cons_zero, List.set_cons_succ]
      refine wpAnyH_take (i := 2) (v := ?_) (iatLZ (iatSZ (iatSZ iatZZ))) (by kernel_rfl) (by kernel_rfl) (by kernel_rfl) (fun _ _ _ h => h) (Or.inl ⟨by rfl, ?_⟩) (by assumption) ?_
      rotate_left
      ·intro w hSw
       try dsimp only at hSw
       go_simp
       all_goals with_reducible rfl
      try simp only [Act.put, List.setIfInBounds_toArray, List.set_cons_zero, List.set_cons_succ]
      refine wpAnyH_take (i := 3) (v := ?_) (iatLZ (iatSZ (iatSZ (iatSZ iatZZ)))) (by kernel_rfl) (by kernel_rfl) (by kernel_rfl) (fun _ _ _ h => h) (Or.inl ⟨by rfl, ?_⟩) (by assumption) ?_
      rotate_left
      ·intro w hSw
       try dsimp only at hSw
       go_simp
       all_goals with_reducible rfl
      try simp only [Act.put, List.setIfInBounds_toArray, List.set_cons_zero, List.set_cons_succ]
      refine wpAnyH_take (i := 4) (v := ?_) (iatLZ (iatSZ (iatSZ (iatSZ (iatSZ iatZZ))))) (by kernel_rfl) (by kernel_rfl) (by kernel_rfl) (fun _ _ _ h => h) (Or.inl ⟨by rfl, ?_⟩) (by assumption) ?_
      rotate_left
      ·intro w hSw
       try dsimp only at hSw
       go_simp
       all_goals with_reducible rfl
      try simp only [Act.put, List.setIfInBounds_toArray, List.set_cons_zero, List.set_cons_succ]
      refine wpAnyH_take (i := 5) (v := ?_) (iatLZ (iatSZ (iatSZ (iatSZ (iatSZ (iatSZ iatZZ)))))) (by kernel_rfl) (by kernel_rfl) (by kernel_rfl) (fun _ _ _ h => h) (Or.inl ⟨by rfl, ?_⟩) (by assumption) ?_
      rotate_left
      ·intro w hSw
       try dsimp only at hSw
       go_simp
       all_goals with_reducible rfl
      try simp only [Act.put, List.setIfInBounds_toArray, List.set_cons_zero, List.set_cons_succ]
      refine wpAnyH_take (i := 6) (v := ?_) (iatLZ (iatSZ (iatSZ (iatSZ (iatSZ (iatSZ (iatSZ iatZZ))))))) (by kernel_rfl) (by kernel_rfl) (by kernel_rfl) (fun _ _ _ h => h) (Or.inl ⟨by rfl, ?_⟩) (by assumption) ?_
      rotate_left
      ·intro w hSw
       try dsimp only at hSw
       go_simp
       all_goals with_reducible rfl
      try simp only [Act.put, List.setIfInBounds_toArray, List.set_cons_zero, List.set_cons_succ]
      refine wpAnyH_take (i := 7) (v := ?_) (iatLZ (iatSZ (iatSZ (iatSZ (iatSZ (iatSZ (iatSZ (iatSZ iatZZ)))))))) (by kernel_rfl) (by kernel_rfl) (by kernel_rfl) (fun _ _ _ h => h) (Or.inl ⟨by rfl, ?_⟩) (by assumption) ?_
      rotate_left
      ·intro w hSw
       try dsimp only at hSw
       go_simp
       all_goals with_reducible rfl
      try simp only [Act.put, List.setIfInBounds_toArray, List.set_cons_zero, List.set_cons_succ]
      refine wpAnyH_take (i := 8) (v := ?_) (iatLZ (iatSZ (iatSZ (iatSZ (iatSZ (iatSZ (iatSZ (iatSZ (iatSZ iatZZ))))))))) (by kernel_rfl) (by kernel_rfl) (by kernel_rfl) (fun _ _ _ h => h) (Or.inl ⟨by rfl, ?_⟩) (by assumption) ?_
      rotate_left
      ·intro w hSw
       try dsimp only at hSw
       go_simp
       all_goals with_reducible rfl
      try simp only [Act.put, List.setIfInBounds_toArray, List.set_cons_zero, List.set_cons_succ]
      refine wpAnyH_take (i := 9) (v := ?_) (iatLZ (iatSZ (iatSZ (iatSZ (iatSZ (iatSZ (iatSZ (iatSZ (iatSZ (iatSZ iatZZ)))))))))) (by kernel_rfl) (by kernel_rfl) (by kernel_rfl) (fun _ _ _ h => h) (Or.inl ⟨by rfl, ?_⟩) (by assumption) ?_
      rotate_left
      ·intro w hSw
       try dsimp only at hSw
       go_simp
       all_goals with_reducible rfl
      try simp only [Act.put, List.setIfInBounds_toArray, List.set_cons_zero, List.set_cons_succ]
      refine wpAnyH_take (i := 11) (v := ?_) (iatLZ (iatSZ (iatSZ (iatSZ (iatSZ (iatSZ (iatSZ (iatSZ (iatSZ (iatSZ (iatSZ (iatSZ iatZZ)))))))))))) (by kernel_rfl) (by kernel_rfl) (by kernel_rfl) (fun _ _ _ h => h) (Or.inl ⟨by rfl, ?_⟩) (by assumption) ?_
      rotate_left
      ·intro w hSw
       try dsimp only at hSw
       go_simp
       all_goals with_reducible rfl
      try simp only [Act.put, List.setIfInBounds_toArray, List.set_cons_zero, List.set_cons_succ]
      refine wpAnyH_ready (rs := [10, 12]) (by kernel_rfl) (by simp) ?_
      refine AllReadyH.cons (iatLZ (iatSZ (iatSZ (iatSZ (iatSZ (iatSZ (iatSZ (iatSZ (iatSZ (iatSZ (iatSZ iatZZ))))))))))) (fun K hK => ?_) (AllReadyH.cons (iatLZ (iatSZ (iatSZ (iatSZ (iatSZ (iatSZ (iatSZ (iatSZ (iatSZ (iatSZ (iatSZ (iatSZ (iatSZ iatZZ))))))))))))) (fun K hK => ?_) (AllReadyH.nil))
      ·
       go_simp
       refine hK.out _ _ ?_ (fun hHeld => ?_)
       ·exact HS10.out
       clear hK K
       try simp only [Act.put, List.setIfInBounds_toArray, List.set_cons_zero, List.set_cons_succ]
       refine wpAnyH_ready (rs := [12]) (by kernel_rfl) (by simp) ?_
       refine AllReadyH.cons (iatLZ (iatSZ (iatSZ (iatSZ (iatSZ (iatSZ (iatSZ (iatSZ (iatSZ (iatSZ (iatSZ (iatSZ (iatSZ iatZZ))))))))))))) (fun K hK => ?_) AllReadyH.nil
       go_simp
       refine hK.out _ _ ?_ (fun hHeld => ?_)
       ·exact HS10a.out _
       clear hK K
       try simp only [Act.put, List.setIfInBounds_toArray, List.set_cons_zero, List.set_cons_succ]
       refine wpAnyH_ready (rs := [13]) (by kernel_rfl) (by simp) ?_
       refine AllReadyH.cons (iatLZ (iatSZ (iatSZ (iatSZ (iatSZ (iatSZ (iatSZ (iatSZ (iatSZ (iatSZ (iatSZ (iatSZ (iatSZ (iatSZ iatZZ)))))))))))))) (fun K hK => ?_) AllReadyH.nil
       refine stepAppZ rfl _ _ 116 116 rfl _ _ _ _ rfl rfl Hap.out ?_
       refine hK.out _ _ ?_ (fun hHeld => ?_)
       ·exact HS10b.out
       clear hK K
       try simp only [Act.put, List.setIfInBounds_toArray, List.set_cons_zero, List.set_cons_succ]
       refine wpAnyH_ready (rs := [14]) (by kernel_rfl) (by simp) ?_
       refine AllReadyH.cons (iatLZ (iatSZ (iatSZ (iatSZ (iatSZ (iatSZ (iatSZ (iatSZ (iatSZ (iatSZ (iatSZ (iatSZ (iatSZ (iatSZ (iatSZ iatZZ))))))))))))))) (fun K hK => ?_) AllReadyH.nil
       go_simp
       refine hK.out _ _ ?_ (fun hHeld => ?_)
       ·exact HS10c.out
       clear hK K
       try simp only [Act.put, List.setIfInBounds_toArray, List.set_cons_zero, List.set_cons_succ]
       refine wpAnyH_done (by kernel_rfl) ?_ _
       go_wp2_with (fail)
       go_roundg (leftM T1 M' O)
       case measure => rw [hgk.out]; exact hlg.out
       case rel => exact ⟨O, n' + 1, M', _, _, some ⟨g, 0, none⟩, c, Lib.hid rfl, Lib.hid hnb, by rw [hL.out], HOw, HIw, HbW8⟩
      ·
       go_simp
       refine hK.out _ _ ?_ (fun hHeld => ?_)
       ·exact HS10a.out _
       clear hK K
       try simp only [Act.put, List.setIfInBounds_toArray, List.set_cons_zero, List.set_cons_succ]
       refine wpAnyH_ready (rs := [10]) (by kernel_rfl) (by simp) ?_
       refine AllReadyH.cons (iatLZ (iatSZ (iatSZ (iatSZ (iatSZ (iatSZ (iatSZ (iatSZ (iatSZ (iatSZ (iatSZ iatZZ))))))))))) (fun K hK => ?_) AllReadyH.nil
       go_simp
       refine hK.out _ _ ?_ (fun hHeld => ?_)
       ·exact HS10a.out _
       clear hK K
       try simp only [Act.put, List.setIfInBounds_toArray, List.set_cons_zero, List.set_cons_succ]
       refine wpAnyH_ready (rs := [13]) (by kernel_rfl) (by simp) ?_
       refine AllReadyH.cons (iatLZ (iatSZ (iatSZ (iatSZ (iatSZ (iatSZ (iatSZ (iatSZ (iatSZ (iatSZ (iatSZ (iatSZ (iatSZ (iatSZ iatZZ)))))))))))))) (fun K hK => ?_) AllReadyH.nil
       refine stepAppZ rfl _ _ 116 116 rfl _ _ _ _ rfl rfl Hap.out ?_
       refine hK.out _ _ ?_ (fun hHeld => ?_)
       ·exact HS10b.out
       clear hK K
       try simp only [Act.put, List.setIfInBounds_toArray, List.set_cons_zero, List.set_cons_succ]
       refine wpAnyH_ready (rs := [14]) (by kernel_rfl) (by simp) ?_
       refine AllReadyH.cons (iatLZ (iatSZ (iatSZ (iatSZ (iatSZ (iatSZ (iatSZ (iatSZ (iatSZ (iatSZ (iatSZ (iatSZ (iatSZ (iatSZ (iatSZ iatZZ))))))))))))))) (fun K hK => ?_) AllReadyH.nil
       go_simp
       refine hK.out _ _ ?_ (fun hHeld => ?_)
       ·exact HS10c.out
       clear hK K
       try simp only [Act.put, List.setIfInBounds_toArray, List.set_cons_zero, List.set_cons_succ]
       refine wpAnyH_done (by kernel_rfl) ?_ _
       go_wp2_with (fail)
       go_roundg (leftM T1 M' O)
       case measure => rw [hgk.out]; exact hlg.out
       case rel => exact ⟨O, n' + 1, M', _, _, some ⟨g, 0, none⟩, c, Lib.hid rfl, Lib.hid hnb, by rw [hL.out], HOw, HIw, HbW8⟩
     ·by_cases hc1 : c' = 1
      ·subst hc1
       obtain ⟨hr0, hN2⟩ := HNi.out.last
       obtain rfl : R = 0 := by rw [← hR.out, hr0]; rfl
       have HN2 := Lib.hid hN2
       have HI2 := Lib.hid (HIi.out.skip (b := some ⟨b, off, none⟩) (d := 0) hq.out)
       have HB8 := HB7.out.set 1 (.slice (some ⟨b, off, none⟩) 0 0)
       have Hrz : Hid (r.length = 0) := hR
       have HB9 : Hid (Blk (V3.setCell ⟨wo.heap.size, 1, none⟩ (.slice (some ⟨b, off, none⟩) 0 0)) wo.heap.size 118 [.int .i64 xn, .slice (some ⟨b, off, none⟩) r.length 0]) := Lib.hid (by rw [Hrz.out]; exact HB8)
       have Hbo9 : Hid (Below wo.heap.size wo (V3.setCell ⟨wo.heap.size, 1, none⟩ (.slice (some ⟨b, off, none⟩) 0 0))) := Lib.hid (Hbo7.out.setCell (by simp) _)
       clear hN2 hr0 HB8
       go_wp2_with (fail)
       go_roundg r.length
       case measure => rw [hm.out]; simp
       case rel => exact ⟨r, some ⟨b, off, none⟩, 0, Lib.hid rfl, HB9, HI2, HN2, Hbo9⟩
      ·have HN2 := Lib.hid HNi.out.tail
       have HI2 := Lib.hid (HIi.out.skip (b := some ⟨b, off + 1, none⟩) (d := c' - 1) hq.out)
       have HB8 := HB7.out.set 1 (.slice (some ⟨b, off + 1, none⟩) R (c' - 1))
       have HB9 : Hid (Blk (V3.setCell ⟨wo.heap.size, 1, none⟩ (.slice (some ⟨b, off + 1, none⟩) R (c' - 1))) wo.heap.size 118 [.int .i64 xn, .slice (some ⟨b, off + 1, none⟩) r.length (c' - 1)]) := Lib.hid (by rw [hR.out]; exact HB8)
       have Hbo9 : Hid (Below wo.heap.size wo (V3.setCell ⟨wo.heap.size, 1, none⟩ (.slice (some ⟨b, off + 1, none⟩) R (c' - 1)))) := Lib.hid (Hbo7.out.setCell (by simp) _)
       have hc2 : ¬ (c' : Int) = 1 := by omega
       clear HB8
       go_wp2_with (fail)
       go_roundg r.length
       case measure => rw [hm.out]; simp
       case rel => exact ⟨r, some ⟨b, off + 1, none⟩, c' - 1, Lib.hid rfl, HB9, HI2, HN2, Hbo9⟩
end Go.Proofs.Ytldmgifphkpdlaa
