/- Texts joined: Lg. -/
import Derived.Test.YtfdhaochnbfndaaRAAv
import Derived.Test.YtfdhaochnbfndaaRAAy
set_option linter.unusedVariables false
set_option linter.unusedSimpArgs false
namespace Go.Proofs.Ytfdhaochnbfndaa
open Go.RowKit Go.Maps
attribute [local go_sem] Oper.semAt_some
theorem ints_blk {w : World} {z : Nat} {x : Int} (h : Blk w z 3 [.int .i64 x]) : Ints w (some ⟨z, 0, none⟩) 1 [x] :=
 ⟨Nat.le_refl _, by omega, (fun e => by cases e), fun i _ => ⟨z, 0, rfl⟩, fun b off e i hi => by
  injection e with e
  injection e with e1 e2 _
  subst e1 e2
  have hi : i = 0 := by simpa using hi
  subst hi
  exact h.cell 0⟩
theorem OwnKZ.pushY {w : World} {base cap : Nat} {a : Option Addr} {l : List Int} (h : OwnKZ w base a cap l) {z : Nat} {x : Int} (hz : Blk w z 3 [.int .i64 x]) (ty : TypeId) (hn : l.length + 1 ≤ 1099511627780) (hb : base ≤ w.heap.size) :
 ∃ a' c' w', (Builtin.append_ #[35, 35] ty #[.slice a l.length cap, .slice (some ⟨z, 0, none⟩) 1 1]).run Try.prog w = .ok (.slice a' (l ++ [x]).length c') w' ∧
  OwnKZ w' base a' c' (l ++ [x]) ∧ w.grownBy w' (Value.slice a l.length cap).ownBlock ∧ (∀ g, (Value.slice a' (l ++ [x]).length c').ownBlock = some g → (Value.slice a l.length cap).ownBlock = some g ∨ g = w.heap.size) := by
 obtain ⟨a', c', w', hrun, ho, hg, hw⟩ := h.app2 ⟨z, 0, none⟩ 1 [x] (ints_blk hz) ty hn hb
 refine ⟨a', c', w', by rw [List.length_append]; exact hrun, ho, hg, fun g e => ?_⟩
 rw [List.length_append] at e
 rcases hw with hw | hw
 ·exact .inl (hw.symm.trans e)
 ·exact .inr (Option.some.inj (e.symm.trans hw))
theorem ne_own {a b : Option Nat} (h : ∀ g, a = some g → b ≠ some g) : b = none ∨ b ≠ a := by
 cases b with
 | none => exact .inl rfl
 | some g => exact .inr (fun e => h g e.symm rfl)
/-- Two own rows of numbers, apart. -/
structure TwoR (W : World) (base : Nat) (ta : Option Addr) (tc : Nat) (ts : List Int) (ua : Option Addr) (uc : Nat) (us : List Int) : Prop where
 o1 : OwnKZ W base ta tc ts
 o2 : OwnKZ W base ua uc us
 ne : ∀ g, (Value.slice ta ts.length tc).ownBlock = some g → (Value.slice ua us.length uc).ownBlock ≠ some g
theorem TwoR.below {W W' : World} {base : Nat} {ta : Option Addr} {tc : Nat} {ts : List Int} {ua : Option Addr} {uc : Nat} {us : List Int} (h : TwoR W base ta tc ts ua uc us) (hb : Below W.heap.size W W') : TwoR W' base ta tc ts ua uc us := ⟨h.o1.belowZ hb, h.o2.belowZ hb, h.ne⟩
theorem trs_base {w w' : World} {base cap : Nat} {a : Option Addr} {f : TrF} (h : TrS w (fun b => b < base) a cap f) (hb : Below base w w') : TrS w' (fun b => b < base) a cap f :=
 h.kept (fun b off v hP hv => (hb.cell (p := ⟨b, off, none⟩) hP).trans hv)
/-- A tree's tokens, and their places. -/
def y1 (h : TrH) (kids : TrF) : List Int := if 0 ≤ h.k then [h.k] else kids.yt
def y2 (h : TrH) (kids : TrF) : List Int := if 0 ≤ h.k then [h.a] else kids.ya
theorem yt_cut {f ks : TrF} {k : Nat} {hd : TrH} (h : f.drop k = .cons hd ks (f.drop (k + 1))) : (f.drop k).yt = y1 hd ks ++ (f.drop (k + 1)).yt ∧ (f.drop k).ya = y2 hd ks ++ (f.drop (k + 1)).ya := by
 rw [h]
 exact ⟨rfl, rfl⟩
set_option maxRecDepth 100000 in
set_option maxHeartbeats 16000000 in
theorem yield_any (base : Nat) : ∀ (N : Nat) (h : TrH) (kids : TrF) (a : Option Addr) (cap : Nat) (w : World) (ta : Option Addr) (tc : Nat) (ts : List Int) (ua : Option Addr) (uc : Nat) (us : List Int), kids.size < N → base ≤ w.heap.size → TrS w (fun b => b < base) a cap kids → TwoR w base ta tc ts ua uc us → ts.length + (y1 h kids).length ≤ 1000000 → us.length + (y2 h kids).length ≤ 1000000 →
 Calls Try.prog 46 #[treV h a kids.len cap, .slice ta ts.length tc, .slice ua us.length uc] w fun e W => ∃ ta' tc' ua' uc', e = .returned (.tuple #[.slice ta' (ts ++ y1 h kids).length tc', .slice ua' (us ++ y2 h kids).length uc']) ∧ TwoR W base ta' tc' (ts ++ y1 h kids) ua' uc' (us ++ y2 h kids) ∧ Below base w W := by
 intro N
 induction N with
 | zero => intro h kids a cap w ta tc ts ua uc us hN; omega
 | succ N ih =>
  intro h kids a cap w ta tc ts ua uc us hN hbs hI hR hl1 hl2
  obtain ⟨hk, hn, hs⟩ := h
  have hlm : kids.len ≤ cap ∧ cap ≤ 9223372036854775807 := ⟨hI.le, hI.max⟩
  have hm1 := hR.o1.le
  have hm2 := hR.o2.le
  obtain ⟨L, HL⟩ : ∃ L, Hid (kids.len = L) := ⟨_, Lib.hid rfl⟩
  rw [HL.out] at hlm ⊢
  have hb0 : Below w.heap.size w (w.alloc (.cells #[.int .i64 hk, .int .i64 hn, .int .i64 hs, .slice a L cap] 51)) := (Below.refl w.heap.size w).alloc (Nat.le_refl _) _
  have hB := Blk.new w 51 #[.int .i64 hk, .int .i64 hn, .int .i64 hs, .slice a L cap]
  have Hbs := Lib.hid hbs
  have HR := Lib.hid hR
  have HI := Lib.hid hI
  clear hbs hR hI
  by_cases hk0 : 0 ≤ hk
  ·have e1 : y1 ⟨hk, hn, hs⟩ kids = [hk] := if_pos hk0
   have e2 : y2 ⟨hk, hn, hs⟩ kids = [hs] := if_pos hk0
   rw [e1] at hl1 ⊢
   rw [e2] at hl2 ⊢
   have hl1 : ts.length + 1 ≤ 1000000 := hl1
   have hl2 : us.length + 1 ≤ 1000000 := hl2
   clear e1 e2
   have x0 := hB.cell 0
   have x2 := hB.cell 2
   have xl := hB.lt
   simp only [List.getElem?_cons_zero, List.getElem?_cons_succ] at x0 x2
   go_enter Try.func46, Try.ntmps46
   go_upto_region 2 with fail
   obtain ⟨bx, hbx⟩ : ∃ q, Hid (w.heap.size = q) := ⟨_, Lib.hid rfl⟩
   generalize hV : World.alloc w _ = V at hB hb0 x0 x2 xl ⊢
   have hR2 := HR.out.below hb0
   have HBV : Hid (Below base w V) := Lib.hid (hb0.mono Hbs.out)
   have Hl1 : Hid (∀ g, (Value.slice ta ts.length tc).ownBlock = some g → g < bx) := Lib.hid (fun g e => by have := (World.ownsRow.lt HR.out.o1 g e).2; have := hbx.out; omega)
   have Hl2 : Hid (∀ g, (Value.slice ua us.length uc).ownBlock = some g → g < bx) := Lib.hid (fun g e => by have := (World.ownsRow.lt HR.out.o2 g e).2; have := hbx.out; omega)
   rw [hbx.out] at hB ⊢
   have hd := (Below.refl V.heap.size V).drew
   have HX0 : Hid (Blk (V.drew) bx 51 [.int .i64 hk, .int .i64 hn, .int .i64 hs, .slice a L cap]) := Lib.hid (hB.below hd hB.lt)
   have HB0 := Lib.hid (HBV.out.trans (hd.mono (Nat.le_trans Hbs.out HBV.out.size)))
   have HO10 := Lib.hid (hR2.o1.belowZ hd)
   have HO20 := Lib.hid (hR2.o2.belowZ hd)
   have Hne := Lib.hid hR2.ne
   have HS0 : Hid ((V.drew).cell? ⟨bx, 0, none⟩ = some (.int .i64 hk) ∧ (V.drew).cell? ⟨bx, 2, none⟩ = some (.int .i64 hs)) := Lib.hid ⟨HX0.out.cell 0, HX0.out.cell 2⟩
   clear hB hb0 x0 x2 xl hR2 hd hV HBV
   refine wp_region_held_drew (S := fun w' => w'.cell? ⟨bx, 0, none⟩ = some (.int .i64 hk) ∧ w'.cell? ⟨bx, 2, none⟩ = some (.int .i64 hs)) (by kernel_rfl) ?_ (fun hHeld => ?_)
   ·exact HS0.out
   generalize World.drew V = K0 at HX0 HB0 HO10 HO20 HS0 hHeld ⊢
   refine wpAnyH_take (i := 0) (v := ?_) (iatLS iatZS) (by kernel_rfl) (by kernel_rfl) (by kernel_rfl) (fun _ _ _ h => h) (Or.inl ⟨by rfl, ?_⟩) (by assumption) ?_
   rotate_left
   ·intro w hSw
    try dsimp only at hSw
    go_simp
    all_goals with_reducible rfl
   try simp only [Act.put, List.setIfInBounds_toArray, List.set_cons_zero, List.set_cons_succ]
   refine wpAnyH_take (i := 1) (v := ?_) (iatLS (iatSS iatZS)) (by kernel_rfl) (by kernel_rfl) (by kernel_rfl) (fun _ _ _ h => h) (Or.inl ⟨by rfl, ?_⟩) (by assumption) ?_
   rotate_left
   ·intro w hSw
    try dsimp only at hSw
    go_simp
    all_goals with_reducible rfl
   try simp only [Act.put, List.setIfInBounds_toArray, List.set_cons_zero, List.set_cons_succ]
   refine wpAnyH_take (i := 2) (v := ?_) (iatLS (iatSS (iatSS iatZS))) (by kernel_rfl) (by kernel_rfl) (by kernel_rfl) (fun _ _ _ h => h) (Or.inl ⟨by rfl, ?_⟩) (by assumption) ?_
   rotate_left
   ·intro w hSw
    try dsimp only at hSw
    go_simp
    all_goals with_reducible rfl
   try simp only [Act.put, List.setIfInBounds_toArray, List.set_cons_zero, List.set_cons_succ]
   refine wpAnyH_take (i := 5) (v := ?_) (iatLS (iatSS (iatSS (iatSS (iatSS (iatSS iatZS)))))) (by kernel_rfl) (by kernel_rfl) (by kernel_rfl) (fun _ _ _ h => h) (Or.inl ⟨by rfl, ?_⟩) (by assumption) ?_
   rotate_left
   ·intro w hSw
    try dsimp only at hSw
    go_simp
    all_goals with_reducible rfl
   try simp only [Act.put, List.setIfInBounds_toArray, List.set_cons_zero, List.set_cons_succ]
   refine wpAnyH_take (i := 6) (v := ?_) (iatLS (iatSS (iatSS (iatSS (iatSS (iatSS (iatSS iatZS))))))) (by kernel_rfl) (by kernel_rfl) (by kernel_rfl) (fun _ _ _ h => h) (Or.inl ⟨by rfl, ?_⟩) (by assumption) ?_
   rotate_left
   ·intro w hSw
    try dsimp only at hSw
    go_simp
    all_goals with_reducible rfl
   try simp only [Act.put, List.setIfInBounds_toArray, List.set_cons_zero, List.set_cons_succ]
   refine wpAnyH_take (i := 7) (v := ?_) (iatLS (iatSS (iatSS (iatSS (iatSS (iatSS (iatSS (iatSS iatZS)))))))) (by kernel_rfl) (by kernel_rfl) (by kernel_rfl) (fun _ _ _ h => h) (Or.inl ⟨by rfl, ?_⟩) (by assumption) ?_
   rotate_left
   ·intro w hSw
    try dsimp only at hSw
    go_simp
    all_goals with_reducible rfl
   try simp only [Act.put, List.setIfInBounds_toArray, List.set_cons_zero, List.set_cons_succ]
   refine wpAnyH_ready (rs := [3, 8]) (by kernel_rfl) (by simp) ?_
   refine AllReadyH.cons (iatLS (iatSS (iatSS (iatSS iatZS)))) (fun K hK => ?_) (AllReadyH.cons (iatLS (iatSS (iatSS (iatSS (iatSS (iatSS (iatSS (iatSS (iatSS iatZS))))))))) (fun K hK => ?_) (AllReadyH.nil))
   ·
    go_simp
    obtain ⟨zi1, hzi⟩ : ∃ q, Hid (K0.heap.size = q) := ⟨_, Lib.hid rfl⟩
    rw [hzi.out]
    generalize hW1 : World.alloc K0 _ = K1
    have hb : Below K0.heap.size K0 K1 := by rw [← hW1]; exact (Below.refl _ _).alloc (Nat.le_refl _) _
    have HZ11 : Hid (Blk K1 zi1 3 [.int .i64 hk]) := Lib.hid (by rw [← hW1, ← hzi.out]; exact Blk.new K0 3 #[.int .i64 hk])
    have Hz1 : Hid (bx < zi1) := Lib.hid (by rw [← hzi.out]; exact HX0.out.lt)
    have HX1 := Lib.hid (HX0.out.below hb HX0.out.lt)
    have HB1 := Lib.hid (HB0.out.trans (hb.mono (Nat.le_trans Hbs.out HB0.out.size)))
    have HO11 := Lib.hid (HO10.out.belowZ hb)
    have HO21 := Lib.hid (HO20.out.belowZ hb)
    have HS1 : Hid (K1.cell? ⟨bx, 0, none⟩ = some (.int .i64 hk) ∧ K1.cell? ⟨bx, 2, none⟩ = some (.int .i64 hs)) := Lib.hid ⟨HX1.out.cell 0, HX1.out.cell 2⟩
    clear hW1 hzi hb
    refine hK.out _ _ ?_ (fun hHeld => ?_)
    ·exact HS1.out
    clear hK K
    try simp only [Act.put, List.setIfInBounds_toArray, List.set_cons_zero, List.set_cons_succ]
    refine wpAnyH_ready (rs := [4, 8]) (by kernel_rfl) (by simp) ?_
    refine AllReadyH.cons (iatLS (iatSS (iatSS (iatSS (iatSS iatZS))))) (fun K hK => ?_) (AllReadyH.cons (iatLS (iatSS (iatSS (iatSS (iatSS (iatSS (iatSS (iatSS (iatSS iatZS))))))))) (fun K hK => ?_) (AllReadyH.nil))
    ·
     obtain ⟨pa1, pc1, K2, hrun, how, hg, hw⟩ := HO11.out.pushY HZ11.out 35 (by omega) (Nat.le_trans Hbs.out HB1.out.size)
     have HX2 : Hid (Blk K2 bx 51 [.int .i64 hk, .int .i64 hn, .int .i64 hs, .slice a L cap]) := Lib.hid ((hg.block bx HX1.out.lt (fun e => absurd (Hl1.out bx e.symm) (Nat.lt_irrefl _))).trans HX1.out)
     have HB2 := Lib.hid (HB1.out.grown hg (Nat.le_trans Hbs.out HB1.out.size) (fun g e => (World.ownsRow.lt HO11.out g e).1))
     have HP12 : Hid (OwnKZ K2 base pa1 pc1 (ts ++ [hk])) := Lib.hid how
     have HO22 : Hid (OwnKZ K2 base ua uc us) := Lib.hid (World.ownsRow.kept HO21.out hg (ne_own (fun g e e2 => Hne.out g e e2)))
     have Hw1 : Hid (∀ g, (Value.slice pa1 (ts ++ [hk]).length pc1).ownBlock = some g → (Value.slice ta ts.length tc).ownBlock = some g ∨ bx < g) := Lib.hid (fun g e => by rcases hw g e with h9 | h9; exact .inl h9; exact .inr (by rw [h9]; exact HX1.out.lt))
     refine step_append_run rfl _ _ 35 35 rfl _ _ _ _ rfl rfl hrun ?_
     have HS2 : Hid (K2.cell? ⟨bx, 0, none⟩ = some (.int .i64 hk) ∧ K2.cell? ⟨bx, 2, none⟩ = some (.int .i64 hs)) := Lib.hid ⟨HX2.out.cell 0, HX2.out.cell 2⟩
     clear hrun how hg hw
     refine hK.out _ _ ?_ (fun hHeld => ?_)
     ·exact HS2.out
     clear hK K
     try simp only [Act.put, List.setIfInBounds_toArray, List.set_cons_zero, List.set_cons_succ]
     refine wpAnyH_ready (rs := [8]) (by kernel_rfl) (by simp) ?_
     refine AllReadyH.cons (iatLS (iatSS (iatSS (iatSS (iatSS (iatSS (iatSS (iatSS (iatSS iatZS))))))))) (fun K hK => ?_) AllReadyH.nil
     go_simp
     obtain ⟨zi2, hzi⟩ : ∃ q, Hid (K2.heap.size = q) := ⟨_, Lib.hid rfl⟩
     rw [hzi.out]
     generalize hW3 : World.alloc K2 _ = K3
     have hb : Below K2.heap.size K2 K3 := by rw [← hW3]; exact (Below.refl _ _).alloc (Nat.le_refl _) _
     have HZ23 : Hid (Blk K3 zi2 3 [.int .i64 hs]) := Lib.hid (by rw [← hW3, ← hzi.out]; exact Blk.new K2 3 #[.int .i64 hs])
     have Hz2 : Hid (bx < zi2) := Lib.hid (by rw [← hzi.out]; exact HX2.out.lt)
     have HX3 := Lib.hid (HX2.out.below hb HX2.out.lt)
     have HB3 := Lib.hid (HB2.out.trans (hb.mono (Nat.le_trans Hbs.out HB2.out.size)))
     have HP13 := Lib.hid (HP12.out.belowZ hb)
     have HO23 := Lib.hid (HO22.out.belowZ hb)
     have HS3 : Hid (K3.cell? ⟨bx, 0, none⟩ = some (.int .i64 hk) ∧ K3.cell? ⟨bx, 2, none⟩ = some (.int .i64 hs)) := Lib.hid ⟨HX3.out.cell 0, HX3.out.cell 2⟩
     clear hW3 hzi hb
     refine hK.out _ _ ?_ (fun hHeld => ?_)
     ·exact HS3.out
     clear hK K
     try simp only [Act.put, List.setIfInBounds_toArray, List.set_cons_zero, List.set_cons_succ]
     refine wpAnyH_ready (rs := [9]) (by kernel_rfl) (by simp) ?_
     refine AllReadyH.cons (iatLS (iatSS (iatSS (iatSS (iatSS (iatSS (iatSS (iatSS (iatSS (iatSS iatZS)))))))))) (fun K hK => ?_) AllReadyH.nil
     obtain ⟨pa2, pc2, K4, hrun, how, hg, hw⟩ := HO23.out.pushY HZ23.out 35 (by omega) (Nat.le_trans Hbs.out HB3.out.size)
     have HX4 : Hid (Blk K4 bx 51 [.int .i64 hk, .int .i64 hn, .int .i64 hs, .slice a L cap]) := Lib.hid ((hg.block bx HX3.out.lt (fun e => absurd (Hl2.out bx e.symm) (Nat.lt_irrefl _))).trans HX3.out)
     have HB4 := Lib.hid (HB3.out.grown hg (Nat.le_trans Hbs.out HB3.out.size) (fun g e => (World.ownsRow.lt HO23.out g e).1))
     have HP24 : Hid (OwnKZ K4 base pa2 pc2 (us ++ [hs])) := Lib.hid how
     have Hq : Hid (∀ g, (Value.slice ua us.length uc).ownBlock = some g → (Value.slice pa1 (ts ++ [hk]).length pc1).ownBlock = some g → False) := Lib.hid (by
      intro g e e2
      rcases Hw1.out g e2 with h9 | h9
      ·exact Hne.out g h9 e
      ·have h8 := Hl2.out g e
       omega)
     have HP14 : Hid (OwnKZ K4 base pa1 pc1 (ts ++ [hk])) := Lib.hid (World.ownsRow.kept HP13.out hg (ne_own (fun g e e2 => Hq.out g e e2)))
     have Hnn : Hid (∀ g, (Value.slice pa1 (ts ++ [hk]).length pc1).ownBlock = some g → (Value.slice pa2 (us ++ [hs]).length pc2).ownBlock ≠ some g) := Lib.hid (fun g e e2 => by
      rcases hw g e2 with h9 | h9
      ·exact Hq.out g h9 e
      ·have h8 := (World.ownsRow.lt HP13.out g e).2
       omega)
     refine step_append_run rfl _ _ 35 35 rfl _ _ _ _ rfl rfl hrun ?_
     have HS4 : Hid (K4.cell? ⟨bx, 0, none⟩ = some (.int .i64 hk) ∧ K4.cell? ⟨bx, 2, none⟩ = some (.int .i64 hs)) := Lib.hid ⟨HX4.out.cell 0, HX4.out.cell 2⟩
     clear hrun how hg hw
     refine hK.out _ _ ?_ (fun hHeld => ?_)
     ·exact HS4.out
     clear hK K
     try simp only [Act.put, List.setIfInBounds_toArray, List.set_cons_zero, List.set_cons_succ]
     refine wpAnyH_take (i := 10) (v := ?_) (iatLS (iatSS (iatSS (iatSS (iatSS (iatSS (iatSS (iatSS (iatSS (iatSS (iatSS iatZS))))))))))) (by kernel_rfl) (by kernel_rfl) (by kernel_rfl) (fun _ _ _ h => h) (Or.inl ⟨by rfl, ?_⟩) (by assumption) ?_
     rotate_left
     ·intro w hSw
      try dsimp only at hSw
      go_simp
      all_goals with_reducible rfl
     try simp only [Act.put, List.setIfInBounds_toArray, List.set_cons_zero, List.set_cons_succ]
     refine wpAnyH_take (i := 11) (v := ?_) (iatLS (iatSS (iatSS (iatSS (iatSS (iatSS (iatSS (iatSS (iatSS (iatSS (iatSS (iatSS iatZS)))))))))))) (by kernel_rfl) (by kernel_rfl) (by kernel_rfl) (fun _ _ _ h => h) (Or.inl ⟨by rfl, ?_⟩) (by assumption) ?_
     rotate_left
     ·intro w hSw
      try dsimp only at hSw
      go_simp
      all_goals with_reducible rfl
     try simp only [Act.put, List.setIfInBounds_toArray, List.set_cons_zero, List.set_cons_succ]
     refine wpAnyH_done (by kernel_rfl) ?_ _
     go_wp2_with (fail)
     first | exact ⟨pa1, pc1, pa2, pc2, rfl, ⟨HP14.out, HP24.out, Hnn.out⟩, HB4.out⟩ | exact bodyPost_ret (v := .tuple #[.slice pa1 (ts ++ [hk]).length pc1, .slice pa2 (us ++ [hs]).length pc2]) (by simp [results, Try.results46, go_sem]; try first | rfl | assumption | omega) rfl ⟨pa1, pc1, pa2, pc2, rfl, ⟨HP14.out, HP24.out, Hnn.out⟩, HB4.out⟩
    ·
     go_simp
     obtain ⟨zi2, hzi⟩ : ∃ q, Hid (K1.heap.size = q) := ⟨_, Lib.hid rfl⟩
     rw [hzi.out]
     generalize hW2 : World.alloc K1 _ = K2
     have hb : Below K1.heap.size K1 K2 := by rw [← hW2]; exact (Below.refl _ _).alloc (Nat.le_refl _) _
     have HZ22 : Hid (Blk K2 zi2 3 [.int .i64 hs]) := Lib.hid (by rw [← hW2, ← hzi.out]; exact Blk.new K1 3 #[.int .i64 hs])
     have Hz2 : Hid (bx < zi2) := Lib.hid (by rw [← hzi.out]; exact HX1.out.lt)
     have HX2 := Lib.hid (HX1.out.below hb HX1.out.lt)
     have HB2 := Lib.hid (HB1.out.trans (hb.mono (Nat.le_trans Hbs.out HB1.out.size)))
     have HZ12 := Lib.hid (HZ11.out.below hb HZ11.out.lt)
     have HO12 := Lib.hid (HO11.out.belowZ hb)
     have HO22 := Lib.hid (HO21.out.belowZ hb)
     have HS2 : Hid (K2.cell? ⟨bx, 0, none⟩ = some (.int .i64 hk) ∧ K2.cell? ⟨bx, 2, none⟩ = some (.int .i64 hs)) := Lib.hid ⟨HX2.out.cell 0, HX2.out.cell 2⟩
     clear hW2 hzi hb
     refine hK.out _ _ ?_ (fun hHeld => ?_)
     ·exact HS2.out
     clear hK K
     try simp only [Act.put, List.setIfInBounds_toArray, List.set_cons_zero, List.set_cons_succ]
     refine wpAnyH_ready (rs := [4]) (by kernel_rfl) (by simp) ?_
     refine AllReadyH.cons (iatLS (iatSS (iatSS (iatSS (iatSS iatZS))))) (fun K hK => ?_) AllReadyH.nil
     obtain ⟨pa1, pc1, K3, hrun, how, hg, hw⟩ := HO12.out.pushY HZ12.out 35 (by omega) (Nat.le_trans Hbs.out HB2.out.size)
     have HX3 : Hid (Blk K3 bx 51 [.int .i64 hk, .int .i64 hn, .int .i64 hs, .slice a L cap]) := Lib.hid ((hg.block bx HX2.out.lt (fun e => absurd (Hl1.out bx e.symm) (Nat.lt_irrefl _))).trans HX2.out)
     have HB3 := Lib.hid (HB2.out.grown hg (Nat.le_trans Hbs.out HB2.out.size) (fun g e => (World.ownsRow.lt HO12.out g e).1))
     have HP13 : Hid (OwnKZ K3 base pa1 pc1 (ts ++ [hk])) := Lib.hid how
     have HZ23 : Hid (Blk K3 zi2 3 [.int .i64 hs]) := Lib.hid ((hg.block zi2 HZ22.out.lt (fun e => by have h9 := Hl1.out zi2 e.symm; have h8 := Hz2.out; omega)).trans HZ22.out)
     have HO23 : Hid (OwnKZ K3 base ua uc us) := Lib.hid (World.ownsRow.kept HO22.out hg (ne_own (fun g e e2 => Hne.out g e e2)))
     have Hw1 : Hid (∀ g, (Value.slice pa1 (ts ++ [hk]).length pc1).ownBlock = some g → (Value.slice ta ts.length tc).ownBlock = some g ∨ bx < g) := Lib.hid (fun g e => by rcases hw g e with h9 | h9; exact .inl h9; exact .inr (by rw [h9]; exact HX2.out.lt))
     refine step_append_run rfl _ _ 35 35 rfl _ _ _ _ rfl rfl hrun ?_
     have HS3 : Hid (K3.cell? ⟨bx, 0, none⟩ = some (.int .i64 hk) ∧ K3.cell? ⟨bx, 2, none⟩ = some (.int .i64 hs)) := Lib.hid ⟨HX3.out.cell 0, HX3.out.cell 2⟩
     clear hrun how hg hw
     refine hK.out _ _ ?_ (fun hHeld => ?_)
     ·exact HS3.out
     clear hK K
     try simp only [Act.put, List.setIfInBounds_toArray, List.set_cons_zero, List.set_cons_succ]
     refine wpAnyH_ready (rs := [9]) (by kernel_rfl) (by simp) ?_
     refine AllReadyH.cons (iatLS (iatSS (iatSS (iatSS (iatSS (iatSS (iatSS (iatSS (iatSS (iatSS iatZS)))))))))) (fun K hK => ?_) AllReadyH.nil
     obtain ⟨pa2, pc2, K4, hrun, how, hg, hw⟩ := HO23.out.pushY HZ23.out 35 (by omega) (Nat.le_trans Hbs.out HB3.out.size)
     have HX4 : Hid (Blk K4 bx 51 [.int .i64 hk, .int .i64 hn, .int .i64 hs, .slice a L cap]) := Lib.hid ((hg.block bx HX3.out.lt (fun e => absurd (Hl2.out bx e.symm) (Nat.lt_irrefl _))).trans HX3.out)
     have HB4 := Lib.hid (HB3.out.grown hg (Nat.le_trans Hbs.out HB3.out.size) (fun g e => (World.ownsRow.lt HO23.out g e).1))
     have HP24 : Hid (OwnKZ K4 base pa2 pc2 (us ++ [hs])) := Lib.hid how
     have Hq : Hid (∀ g, (Value.slice ua us.length uc).ownBlock = some g → (Value.slice pa1 (ts ++ [hk]).length pc1).ownBlock = some g → False) := Lib.hid (by
      intro g e e2
      rcases Hw1.out g e2 with h9 | h9
      ·exact Hne.out g h9 e
      ·have h8 := Hl2.out g e
       omega)
     have HP14 : Hid (OwnKZ K4 base pa1 pc1 (ts ++ [hk])) := Lib.hid (World.ownsRow.kept HP13.out hg (ne_own (fun g e e2 => Hq.out g e e2)))
     have Hnn : Hid (∀ g, (Value.slice pa1 (ts ++ [hk]).length pc1).ownBlock = some g → (Value.slice pa2 (us ++ [hs]).length pc2).ownBlock ≠ some g) := Lib.hid (fun g e e2 => by
      rcases hw g e2 with h9 | h9
      ·exact Hq.out g h9 e
      ·have h8 := (World.ownsRow.lt HP13.out g e).2
       omega)
     refine step_append_run rfl _ _ 35 35 rfl _ _ _ _ rfl rfl hrun ?_
     have HS4 : Hid (K4.cell? ⟨bx, 0, none⟩ = some (.int .i64 hk) ∧ K4.cell? ⟨bx, 2, none⟩ = some (.int .i64 hs)) := Lib.hid ⟨HX4.out.cell 0, HX4.out.cell 2⟩
     clear hrun how hg hw
     refine hK.out _ _ ?_ (fun hHeld => ?_)
     ·exact HS4.out
     clear hK K
     try simp only [Act.put, List.setIfInBounds_toArray, List.set_cons_zero, List.set_cons_succ]
     refine wpAnyH_take (i := 10) (v := ?_) (iatLS (iatSS (iatSS (iatSS (iatSS (iatSS (iatSS (iatSS (iatSS (iatSS (iatSS iatZS))))))))))) (by kernel_rfl) (by kernel_rfl) (by kernel_rfl) (fun _ _ _ h => h) (Or.inl ⟨by rfl, ?_⟩) (by assumption) ?_
     rotate_left
     ·intro w hSw
      try dsimp only at hSw
      go_simp
      all_goals with_reducible rfl
     try simp only [Act.put, List.setIfInBounds_toArray, List.set_cons_zero, List.set_cons_succ]
     refine wpAnyH_take (i := 11) (v := ?_) (iatLS (iatSS (iatSS (iatSS (iatSS (iatSS (iatSS (iatSS (iatSS (iatSS (iatSS (iatSS iatZS)))))))))))) (by kernel_rfl) (by kernel_rfl) (by kernel_rfl) (fun _ _ _ h => h) (Or.inl ⟨by rfl, ?_⟩) (by assumption) ?_
     rotate_left
     ·intro w hSw
      try dsimp only at hSw
      go_simp
      all_goals with_reducible rfl
     try simp only [Act.put, List.setIfInBounds_toArray, List.set_cons_zero, List.set_cons_succ]
     refine wpAnyH_done (by kernel_rfl) ?_ _
     go_wp2_with (fail)
     first | exact ⟨pa1, pc1, pa2, pc2, rfl, ⟨HP14.out, HP24.out, Hnn.out⟩, HB4.out⟩ | exact bodyPost_ret (v := .tuple #[.slice pa1 (ts ++ [hk]).length pc1, .slice pa2 (us ++ [hs]).length pc2]) (by simp [results, Try.results46, go_sem]; try first | rfl | assumption | omega) rfl ⟨pa1, pc1, pa2, pc2, rfl, ⟨HP14.out, HP24.out, Hnn.out⟩, HB4.out⟩
   ·
    go_simp
    obtain ⟨zi2, hzi⟩ : ∃ q, Hid (K0.heap.size = q) := ⟨_, Lib.hid rfl⟩
    rw [hzi.out]
    generalize hW1 : World.alloc K0 _ = K1
    have hb : Below K0.heap.size K0 K1 := by rw [← hW1]; exact (Below.refl _ _).alloc (Nat.le_refl _) _
    have HZ21 : Hid (Blk K1 zi2 3 [.int .i64 hs]) := Lib.hid (by rw [← hW1, ← hzi.out]; exact Blk.new K0 3 #[.int .i64 hs])
    have Hz2 : Hid (bx < zi2) := Lib.hid (by rw [← hzi.out]; exact HX0.out.lt)
    have HX1 := Lib.hid (HX0.out.below hb HX0.out.lt)
    have HB1 := Lib.hid (HB0.out.trans (hb.mono (Nat.le_trans Hbs.out HB0.out.size)))
    have HO11 := Lib.hid (HO10.out.belowZ hb)
    have HO21 := Lib.hid (HO20.out.belowZ hb)
    have HS1 : Hid (K1.cell? ⟨bx, 0, none⟩ = some (.int .i64 hk) ∧ K1.cell? ⟨bx, 2, none⟩ = some (.int .i64 hs)) := Lib.hid ⟨HX1.out.cell 0, HX1.out.cell 2⟩
    clear hW1 hzi hb
    refine hK.out _ _ ?_ (fun hHeld => ?_)
    ·exact HS1.out
    clear hK K
    try simp only [Act.put, List.setIfInBounds_toArray, List.set_cons_zero, List.set_cons_succ]
    refine wpAnyH_ready (rs := [3]) (by kernel_rfl) (by simp) ?_
    refine AllReadyH.cons (iatLS (iatSS (iatSS (iatSS iatZS)))) (fun K hK => ?_) AllReadyH.nil
    go_simp
    obtain ⟨zi1, hzi⟩ : ∃ q, Hid (K1.heap.size = q) := ⟨_, Lib.hid rfl⟩
    rw [hzi.out]
    generalize hW2 : World.alloc K1 _ = K2
    have hb : Below K1.heap.size K1 K2 := by rw [← hW2]; exact (Below.refl _ _).alloc (Nat.le_refl _) _
    have HZ12 : Hid (Blk K2 zi1 3 [.int .i64 hk]) := Lib.hid (by rw [← hW2, ← hzi.out]; exact Blk.new K1 3 #[.int .i64 hk])
    have Hz1 : Hid (bx < zi1) := Lib.hid (by rw [← hzi.out]; exact HX1.out.lt)
    have HX2 := Lib.hid (HX1.out.below hb HX1.out.lt)
    have HB2 := Lib.hid (HB1.out.trans (hb.mono (Nat.le_trans Hbs.out HB1.out.size)))
    have HZ22 := Lib.hid (HZ21.out.below hb HZ21.out.lt)
    have HO12 := Lib.hid (HO11.out.belowZ hb)
    have HO22 := Lib.hid (HO21.out.belowZ hb)
    have HS2 : Hid (K2.cell? ⟨bx, 0, none⟩ = some (.int .i64 hk) ∧ K2.cell? ⟨bx, 2, none⟩ = some (.int .i64 hs)) := Lib.hid ⟨HX2.out.cell 0, HX2.out.cell 2⟩
    clear hW2 hzi hb
    refine hK.out _ _ ?_ (fun hHeld => ?_)
    ·exact HS2.out
    clear hK K
    try simp only [Act.put, List.setIfInBounds_toArray, List.set_cons_zero, List.set_cons_succ]
    refine wpAnyH_ready (rs := [4]) (by kernel_rfl) (by simp) ?_
    refine AllReadyH.cons (iatLS (iatSS (iatSS (iatSS (iatSS iatZS))))) (fun K hK => ?_) AllReadyH.nil
    obtain ⟨pa1, pc1, K3, hrun, how, hg, hw⟩ := HO12.out.pushY HZ12.out 35 (by omega) (Nat.le_trans Hbs.out HB2.out.size)
    have HX3 : Hid (Blk K3 bx 51 [.int .i64 hk, .int .i64 hn, .int .i64 hs, .slice a L cap]) := Lib.hid ((hg.block bx HX2.out.lt (fun e => absurd (Hl1.out bx e.symm) (Nat.lt_irrefl _))).trans HX2.out)
    have HB3 := Lib.hid (HB2.out.grown hg (Nat.le_trans Hbs.out HB2.out.size) (fun g e => (World.ownsRow.lt HO12.out g e).1))
    have HP13 : Hid (OwnKZ K3 base pa1 pc1 (ts ++ [hk])) := Lib.hid how
    have HZ23 : Hid (Blk K3 zi2 3 [.int .i64 hs]) := Lib.hid ((hg.block zi2 HZ22.out.lt (fun e => by have h9 := Hl1.out zi2 e.symm; have h8 := Hz2.out; omega)).trans HZ22.out)
    have HO23 : Hid (OwnKZ K3 base ua uc us) := Lib.hid (World.ownsRow.kept HO22.out hg (ne_own (fun g e e2 => Hne.out g e e2)))
    have Hw1 : Hid (∀ g, (Value.slice pa1 (ts ++ [hk]).length pc1).ownBlock = some g → (Value.slice ta ts.length tc).ownBlock = some g ∨ bx < g) := Lib.hid (fun g e => by rcases hw g e with h9 | h9; exact .inl h9; exact .inr (by rw [h9]; exact HX2.out.lt))
    refine step_append_run rfl _ _ 35 35 rfl _ _ _ _ rfl rfl hrun ?_
    have HS3 : Hid (K3.cell? ⟨bx, 0, none⟩ = some (.int .i64 hk) ∧ K3.cell? ⟨bx, 2, none⟩ = some (.int .i64 hs)) := Lib.hid ⟨HX3.out.cell 0, HX3.out.cell 2⟩
    clear hrun how hg hw
    refine hK.out _ _ ?_ (fun hHeld => ?_)
    ·exact HS3.out
    clear hK K
    try simp only [Act.put, List.setIfInBounds_toArray, List.set_cons_zero, List.set_cons_succ]
    refine wpAnyH_ready (rs := [9]) (by kernel_rfl) (by simp) ?_
    refine AllReadyH.cons (iatLS (iatSS (iatSS (iatSS (iatSS (iatSS (iatSS (iatSS (iatSS (iatSS iatZS)))))))))) (fun K hK => ?_) AllReadyH.nil
    obtain ⟨pa2, pc2, K4, hrun, how, hg, hw⟩ := HO23.out.pushY HZ23.out 35 (by omega) (Nat.le_trans Hbs.out HB3.out.size)
    have HX4 : Hid (Blk K4 bx 51 [.int .i64 hk, .int .i64 hn, .int .i64 hs, .slice a L cap]) := Lib.hid ((hg.block bx HX3.out.lt (fun e => absurd (Hl2.out bx e.symm) (Nat.lt_irrefl _))).trans HX3.out)
    have HB4 := Lib.hid (HB3.out.grown hg (Nat.le_trans Hbs.out HB3.out.size) (fun g e => (World.ownsRow.lt HO23.out g e).1))
    have HP24 : Hid (OwnKZ K4 base pa2 pc2 (us ++ [hs])) := Lib.hid how
    have Hq : Hid (∀ g, (Value.slice ua us.length uc).ownBlock = some g → (Value.slice pa1 (ts ++ [hk]).length pc1).ownBlock = some g → False) := Lib.hid (by
     intro g e e2
     rcases Hw1.out g e2 with h9 | h9
     ·exact Hne.out g h9 e
     ·have h8 := Hl2.out g e
      omega)
    have HP14 : Hid (OwnKZ K4 base pa1 pc1 (ts ++ [hk])) := Lib.hid (World.ownsRow.kept HP13.out hg (ne_own (fun g e e2 => Hq.out g e e2)))
    have Hnn : Hid (∀ g, (Value.slice pa1 (ts ++ [hk]).length pc1).ownBlock = some g → (Value.slice pa2 (us ++ [hs]).length pc2).ownBlock ≠ some g) := Lib.hid (fun g e e2 => by
     rcases hw g e2 with h9 | h9
     ·exact Hq.out g h9 e
     ·have h8 := (World.ownsRow.lt HP13.out g e).2
      omega)
    refine step_append_run rfl _ _ 35 35 rfl _ _ _ _ rfl rfl hrun ?_
    have HS4 : Hid (K4.cell? ⟨bx, 0, none⟩ = some (.int .i64 hk) ∧ K4.cell? ⟨bx, 2, none⟩ = some (.int .i64 hs)) := Lib.hid ⟨HX4.out.cell 0, HX4.out.cell 2⟩
    clear hrun how hg hw
    refine hK.out _ _ ?_ (fun hHeld => ?_)
    ·exact HS4.out
    clear hK K
    try simp only [Act.put, List.setIfInBounds_toArray, List.set_cons_zero, List.set_cons_succ]
    refine wpAnyH_take (i := 10) (v := ?_) (iatLS (iatSS (iatSS (iatSS (iatSS (iatSS (iatSS (iatSS (iatSS (iatSS (iatSS iatZS))))))))))) (by kernel_rfl) (by kernel_rfl) (by kernel_rfl) (fun _ _ _ h => h) (Or.inl ⟨by rfl, ?_⟩) (by assumption) ?_
    rotate_left
    ·intro w hSw
     try dsimp only at hSw
     go_simp
     all_goals with_reducible rfl
    try simp only [Act.put, List.setIfInBounds_toArray, List.set_cons_zero, List.set_cons_succ]
    refine wpAnyH_take (i := 11) (v := ?_) (iatLS (iatSS (iatSS (iatSS (iatSS (iatSS (iatSS (iatSS (iatSS (iatSS (iatSS (iatSS iatZS)))))))))))) (by kernel_rfl) (by kernel_rfl) (by kernel_rfl) (fun _ _ _ h => h) (Or.inl ⟨by rfl, ?_⟩) (by assumption) ?_
    rotate_left
    ·intro w hSw
     try dsimp only at hSw
     go_simp
     all_goals with_reducible rfl
    try simp only [Act.put, List.setIfInBounds_toArray, List.set_cons_zero, List.set_cons_succ]
    refine wpAnyH_done (by kernel_rfl) ?_ _
    go_wp2_with (fail)
    first | exact ⟨pa1, pc1, pa2, pc2, rfl, ⟨HP14.out, HP24.out, Hnn.out⟩, HB4.out⟩ | exact bodyPost_ret (v := .tuple #[.slice pa1 (ts ++ [hk]).length pc1, .slice pa2 (us ++ [hs]).length pc2]) (by simp [results, Try.results46, go_sem]; try first | rfl | assumption | omega) rfl ⟨pa1, pc1, pa2, pc2, rfl, ⟨HP14.out, HP24.out, Hnn.out⟩, HB4.out⟩
  ·have e1 : y1 ⟨hk, hn, hs⟩ kids = kids.yt := if_neg hk0
   have e2 : y2 ⟨hk, hn, hs⟩ kids = kids.ya := if_neg hk0
   rw [e1] at hl1 ⊢
   rw [e2] at hl2 ⊢
   clear e1 e2
   have x0 := hB.cell 0
   have x3 := hB.cell 3
   have xl := hB.lt
   simp only [List.getElem?_cons_zero, List.getElem?_cons_succ] at x0 x3
   have Hl1 := Lib.hid hl1
   have Hl2 := Lib.hid hl2
   obtain ⟨Q, hQ⟩ : ∃ Q : Ending → World → Prop, Hid ((fun e W => ∃ ta' tc' ua' uc', e = .returned (.tuple #[.slice ta' (ts ++ kids.yt).length tc', .slice ua' (us ++ kids.ya).length uc']) ∧ TwoR W base ta' tc' (ts ++ kids.yt) ua' uc' (us ++ kids.ya) ∧ Below base w W) = Q) := ⟨_, Lib.hid rfl⟩
   rw [hQ.out]
   clear hl1 hl2
   go_enter Try.func46, Try.ntmps46
   go_wp2_with (fail)
   generalize hV : World.alloc w _ = V at hB hb0 x0 x3 xl ⊢
   have HR2 := Lib.hid (HR.out.below hb0)
   have HBV : Hid (Below base w V) := Lib.hid (hb0.mono Hbs.out)
   clear hB hb0 x0 x3 xl hV
   go_loopg [1, 2, 9, 26] L (fun gk v1 v2 _ iv wr => ∃ (k : Nat) (ta' : Option Addr) (tc' : Nat) (ts' : List Int) (ua' : Option Addr) (uc' : Nat) (us' : List Int), Hid (gk = L - k) ∧ k ≤ L ∧ iv = .int .i64 (k : Int) ∧ v1 = .slice ta' ts'.length tc' ∧ v2 = .slice ua' us'.length uc' ∧ Hid (TwoR wr base ta' tc' ts' ua' uc' us') ∧ Hid (ts ++ kids.yt = ts' ++ (kids.drop k).yt) ∧ Hid (us ++ kids.ya = us' ++ (kids.drop k).ya) ∧ Hid (Below base w wr))
   case atStart => exact ⟨0, ta, tc, ts, ua, uc, us, Lib.hid rfl, Nat.zero_le _, rfl, rfl, rfl, HR2, Lib.hid rfl, Lib.hid rfl, HBV⟩
   case round =>
    clear HR2 HBV
    obtain ⟨k, ta', tc', ts', ua', uc', us', Hgk, hk', rfl, rfl, rfl, HT, HE1, HE2, HB⟩ := hrel
    obtain ⟨U, rfl⟩ : ∃ U, U = wr := ⟨_, rfl⟩
    have hn1 := HT.out.o1.le
    have hn2 := HT.out.o2.le
    by_cases hlt : k < L
    ·have hkI : (k : Int) < (L : Int) := by omega
     have hkI0 : (0 : Int) ≤ (k : Int) := by omega
     obtain ⟨b1, off, hd, ks, xa, xcap, rfl, hat⟩ := (trs_base HI.out HB.out).at (k := k) (by rw [HL.out]; exact hlt)
     have HSz := Lib.hid (TrAt.size hat)
     have HC := Lib.hid (yt_cut hat.cut)
     obtain ⟨x0, x1, x2, x3, hIk, _⟩ := hat
     have hbl := World.block_lt_of_cell? _ _ x0
     have hmx : ks.len ≤ xcap ∧ xcap ≤ 9223372036854775807 := ⟨hIk.le, hIk.max⟩
     have hb1 : Below U.heap.size U (U.alloc (.cells #[.int .i64 hd.k, .int .i64 hd.i, .int .i64 hd.a, .slice xa ks.len xcap] 51)) := (Below.refl _ _).alloc (Nat.le_refl _) _
     have hbU : base ≤ U.heap.size := Nat.le_trans Hbs.out HB.out.size
     have hIH := ih hd ks xa xcap (U.alloc (.cells #[.int .i64 hd.k, .int .i64 hd.i, .int .i64 hd.a, .slice xa ks.len xcap] 51)) ta' tc' ts' ua' uc' us' (by have := HSz.out; omega) (Nat.le_trans hbU hb1.size) (hIk.grown hb1) (HT.out.below hb1)
      (by have h9 := Hl1.out; have h8 := congrArg List.length HE1.out; rw [HC.out.1] at h8; simp only [List.length_append] at h8; omega) (by have h9 := Hl2.out; have h8 := congrArg List.length HE2.out; rw [HC.out.2] at h8; simp only [List.length_append] at h8; omega)
     obtain ⟨xn, hxn⟩ : ∃ q, Hid (ks.len = q) := ⟨_, Lib.hid rfl⟩
     rw [hxn.out] at hIH x3 hmx hb1
     have HIH := Lib.hid hIH
     have HB1 := Lib.hid (HB.out.trans (hb1.mono hbU))
     clear hIH hIk hb1
     go_wp2_with (fail)
     refine HIH.out.mono ?_
     rintro e5 w5 ⟨ta5, tc5, ua5, uc5, rfl, hT5, hb5⟩
     have HT5 := Lib.hid hT5
     have HB5 := Lib.hid (HB1.out.trans hb5)
     clear hT5 hb5 HIH HB1 x0 x1 x2 x3
     go_wp2_with (fail)
     go_roundg (L - (k + 1))
     case measure => have := Hgk.out; omega
     case rel => exact ⟨k + 1, ta5, tc5, ts' ++ y1 hd ks, ua5, uc5, us' ++ y2 hd ks, Lib.hid rfl, by omega, by go_num, by simp only [List.length_append], by simp only [List.length_append], HT5, Lib.hid (by rw [HE1.out, HC.out.1, List.append_assoc]), Lib.hid (by rw [HE2.out, HC.out.2, List.append_assoc]), HB5⟩
    ·obtain rfl : k = L := by omega
     have hkI : ¬ (k : Int) < (k : Int) := by omega
     have e1 : ts' = ts ++ kids.yt := by rw [HE1.out, TrF.drop_all (by rw [HL.out]; exact Nat.le_refl _)]; simp [TrF.yt]
     have e2 : us' = us ++ kids.ya := by rw [HE2.out, TrF.drop_all (by rw [HL.out]; exact Nat.le_refl _)]; simp [TrF.ya]
     have HF : Hid (Q (.returned (.tuple #[.slice ta' ts'.length tc', .slice ua' us'.length uc'])) U) := Lib.hid (by
      rw [← hQ.out]
      have hT := HT.out
      rw [e1, e2] at hT ⊢
      exact ⟨ta', tc', ua', uc', rfl, hT, HB.out⟩)
     clear e1 e2
     go_wp2_with (fail)
     first | exact HF.out | exact bodyPost_ret (v := .tuple #[.slice ta' ts'.length tc', .slice ua' us'.length uc']) (by simp [results, Try.results46, go_sem]; try first | rfl | assumption | omega) rfl HF.out
end Go.Proofs.Ytfdhaochnbfndaa
