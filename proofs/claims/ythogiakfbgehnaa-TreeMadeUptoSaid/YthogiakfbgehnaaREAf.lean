/- Texts joined: Is Jc Jd Oz Oc Od Oe Of. -/
import Derived.Test.YthogiakfbgehnaaREAe
import Derived.Test.YthogiakfbgehnaaREAa
import Derived.BigQuiet
import Derived.Test.YthogiakfbgehnaaREAd
import Derived.Maps.AppendAt
import Derived.Deep.LoopGhost
import Derived.Deep.RegionHeld3
set_option linter.unusedVariables false
set_option linter.unusedSimpArgs false
namespace Go.Proofs.Ythogiakfbgehnaa
open Go.RowKit

attribute [local go_sem] Oper.semAt_some

set_option maxRecDepth 100000 in
set_option maxHeartbeats 1000000 in
theorem sameInts8_any (a b : Option Addr) (ac bc : Nat) (l m : List Int) (w : World) (hl : Ints w a ac l) (hm : Ints w b bc m) :
    Calls Try.prog 25 #[.slice a l.length ac, .slice b m.length bc] w fun e w' => e = .returned (.bool (decide (l = m))) ∧ Below w.heap.size w w' := by
  have hle : l.length ≤ ac := by have := hl.le; rwa [List.length_map] at this
  have hmx := hl.max
  have hle2 : m.length ≤ bc := by have := hm.le; rwa [List.length_map] at this
  have hmx2 := hm.max
  obtain ⟨R, hR⟩ : ∃ R, Hid (decide (l = m) = R) := ⟨_, Lib.hid rfl⟩
  rw [hR.out]
  obtain ⟨L, HL⟩ : ∃ L, Hid (l.length = L) := ⟨_, Lib.hid rfl⟩
  obtain ⟨M, HM⟩ : ∃ L, Hid (m.length = L) := ⟨_, Lib.hid rfl⟩
  rw [HL.out] at hle ⊢
  rw [HM.out] at hle2 ⊢
  by_cases hLM : L = M
  · subst hLM
    go_enter Try.func25, Try.ntmps25
    go_wp2_with (fail)
    go_loopw [5, 13] (fun _ i wr => ∃ (k : Nat), k ≤ L ∧ i = .int .i64 (k : Int) ∧ Hid (l.take k = m.take k) ∧ Below w.heap.size w wr) (fun _ i _ => L - (intOf i).toNat)
    case atStart => exact ⟨0, by omega, rfl, Lib.hid rfl, Below.refl _ w⟩
    case round =>
      obtain ⟨k, hk, rfl, HR, hbr⟩ := hrel
      by_cases hlt : k < L
      · have hkl : k < l.length := by rw [HL.out]; exact hlt
        have hkm : k < m.length := by rw [HM.out]; exact hlt
        have hkI : (k : Int) < (L : Int) := by omega
        have hkI0 : (0 : Int) ≤ (k : Int) := by omega
        obtain ⟨b1, o1, rfl⟩ := hl.at_ k (by rw [List.length_map]; exact hkl)
        obtain ⟨b2, o2, rfl⟩ := hm.at_ k (by rw [List.length_map]; exact hkm)
        have c0 := (hl.grown hbr).cell b1 o1 rfl k (by rw [List.length_map]; exact hkl)
        have d0 := (hm.grown hbr).cell b2 o2 rfl k (by rw [List.length_map]; exact hkm)
        rw [List.getElem_map] at c0 d0
        obtain ⟨s, HS⟩ : ∃ s, Hid (l[k] = s) := ⟨_, Lib.hid rfl⟩
        obtain ⟨t, HT⟩ : ∃ s, Hid (m[k] = s) := ⟨_, Lib.hid rfl⟩
        rw [HS.out] at c0
        rw [HT.out] at d0
        have hmore : Hid (l.take (k + 1) = l.take k ++ [s] ∧ m.take (k + 1) = m.take k ++ [t]) := Lib.hid ⟨by rw [List.take_add_one, List.getElem?_eq_getElem hkl, HS.out]; rfl, by rw [List.take_add_one, List.getElem?_eq_getElem hkm, HT.out]; rfl⟩
        have hne : Hid (s ≠ t → R = false) := Lib.hid (fun h => by rw [← hR.out]; exact decide_eq_false (fun e => h (by rw [← HS.out, ← HT.out]; subst e; rfl)))
        have Hbd := Lib.hid hbr.drew
        have HSc : Hid (wr.drew.cell? ⟨b1, o1 + k, none⟩ = some (.int .i64 s) ∧ wr.drew.cell? ⟨b2, o2 + k, none⟩ = some (.int .i64 t)) := Lib.hid ⟨c0, d0⟩
        clear c0 d0 hl hm hbr
        by_cases e1 : s = t
        · subst e1
          go_wp2_with (fail)
          refine wp_region_held_drew (S := fun w' => (w'.cell? ⟨b1, o1 + k, none⟩ = some (.int .i64 s) ∧ w'.cell? ⟨b2, o2 + k, none⟩ = some (.int .i64 s))) (by kernel_rfl) ?_ (fun hHeld => ?_)
          · exact HSc.out
          refine wpAnyH_take (i := 0) (v := ?_) (iatLS iatZS) (by kernel_rfl) (by kernel_rfl) (by kernel_rfl) (fun _ _ _ h => h) (Or.inl ⟨by rfl, ?_⟩) (by assumption) ?_
          rotate_left
          · intro w hSw
            try dsimp only at hSw
            go_simp
            all_goals with_reducible rfl
          try simp only [Act.put, List.setIfInBounds_toArray, List.set_cons_zero, List.set_cons_succ]
          refine wpAnyH_take (i := 1) (v := ?_) (iatLS (iatSS iatZS)) (by kernel_rfl) (by kernel_rfl) (by kernel_rfl) (fun _ _ _ h => h) (Or.inl ⟨by rfl, ?_⟩) (by assumption) ?_
          rotate_left
          · intro w hSw
            try dsimp only at hSw
            go_simp
            all_goals with_reducible rfl
          try simp only [Act.put, List.setIfInBounds_toArray, List.set_cons_zero, List.set_cons_succ]
          refine wpAnyH_take (i := 2) (v := ?_) (iatLS (iatSS (iatSS iatZS))) (by kernel_rfl) (by kernel_rfl) (by kernel_rfl) (fun _ _ _ h => h) (Or.inl ⟨by rfl, ?_⟩) (by assumption) ?_
          rotate_left
          · intro w hSw
            try dsimp only at hSw
            go_simp
            all_goals with_reducible rfl
          try simp only [Act.put, List.setIfInBounds_toArray, List.set_cons_zero, List.set_cons_succ]
          refine wpAnyH_take (i := 3) (v := ?_) (iatLS (iatSS (iatSS (iatSS iatZS)))) (by kernel_rfl) (by kernel_rfl) (by kernel_rfl) (fun _ _ _ h => h) (Or.inl ⟨by rfl, ?_⟩) (by assumption) ?_
          rotate_left
          · intro w hSw
            try dsimp only at hSw
            go_simp
            all_goals with_reducible rfl
          try simp only [Act.put, List.setIfInBounds_toArray, List.set_cons_zero, List.set_cons_succ]
          refine wpAnyH_take (i := 4) (v := ?_) (iatLS (iatSS (iatSS (iatSS (iatSS iatZS))))) (by kernel_rfl) (by kernel_rfl) (by kernel_rfl) (fun _ _ _ h => h) (Or.inl ⟨by rfl, ?_⟩) (by assumption) ?_
          rotate_left
          · intro w hSw
            try dsimp only at hSw
            go_simp
            all_goals with_reducible rfl
          try simp only [Act.put, List.setIfInBounds_toArray, List.set_cons_zero, List.set_cons_succ]
          refine wpAnyH_take (i := 5) (v := ?_) (iatLS (iatSS (iatSS (iatSS (iatSS (iatSS iatZS)))))) (by kernel_rfl) (by kernel_rfl) (by kernel_rfl) (fun _ _ _ h => h) (Or.inl ⟨by rfl, ?_⟩) (by assumption) ?_
          rotate_left
          · intro w hSw
            try dsimp only at hSw
            go_simp
            all_goals with_reducible rfl
          try simp only [Act.put, List.setIfInBounds_toArray, List.set_cons_zero, List.set_cons_succ]
          refine wpAnyH_take (i := 6) (v := ?_) (iatLS (iatSS (iatSS (iatSS (iatSS (iatSS (iatSS iatZS))))))) (by kernel_rfl) (by kernel_rfl) (by kernel_rfl) (fun _ _ _ h => h) (Or.inl ⟨by rfl, ?_⟩) (by assumption) ?_
          rotate_left
          · intro w hSw
            try dsimp only at hSw
            go_simp
            all_goals with_reducible rfl
          try simp only [Act.put, List.setIfInBounds_toArray, List.set_cons_zero, List.set_cons_succ]
          refine wpAnyH_take (i := 7) (v := ?_) (iatLS (iatSS (iatSS (iatSS (iatSS (iatSS (iatSS (iatSS iatZS)))))))) (by kernel_rfl) (by kernel_rfl) (by kernel_rfl) (fun _ _ _ h => h) (Or.inl ⟨by rfl, ?_⟩) (by assumption) ?_
          rotate_left
          · intro w hSw
            try dsimp only at hSw
            go_simp
            all_goals with_reducible rfl
          try simp only [Act.put, List.setIfInBounds_toArray, List.set_cons_zero, List.set_cons_succ]
          refine wpAnyH_take (i := 8) (v := ?_) (iatLS (iatSS (iatSS (iatSS (iatSS (iatSS (iatSS (iatSS (iatSS iatZS))))))))) (by kernel_rfl) (by kernel_rfl) (by kernel_rfl) (fun _ _ _ h => h) (Or.inl ⟨by rfl, ?_⟩) (by assumption) ?_
          rotate_left
          · intro w hSw
            try dsimp only at hSw
            go_simp
            all_goals with_reducible rfl
          try simp only [Act.put, List.setIfInBounds_toArray, List.set_cons_zero, List.set_cons_succ]
          refine wpAnyH_done (by kernel_rfl) ?_ _
          go_wp2_with (fail)
          exact ⟨⟨k + 1, by omega, by go_num, Lib.hid (by rw [hmore.out.1, hmore.out.2, HR.out]), Hbd.out⟩, by simp [intOf]; omega⟩
        · have e3 : (s != t) = true := by rw [bne_iff_ne]; exact e1
          have hF := Lib.hid (hne.out e1)
          clear e1
          go_wp2_with (fail)
          refine wp_region_held_drew (S := fun w' => (w'.cell? ⟨b1, o1 + k, none⟩ = some (.int .i64 s) ∧ w'.cell? ⟨b2, o2 + k, none⟩ = some (.int .i64 t))) (by kernel_rfl) ?_ (fun hHeld => ?_)
          · exact HSc.out
          refine wpAnyH_take (i := 0) (v := ?_) (iatLS iatZS) (by kernel_rfl) (by kernel_rfl) (by kernel_rfl) (fun _ _ _ h => h) (Or.inl ⟨by rfl, ?_⟩) (by assumption) ?_
          rotate_left
          · intro w hSw
            try dsimp only at hSw
            go_simp
            all_goals with_reducible rfl
          try simp only [Act.put, List.setIfInBounds_toArray, List.set_cons_zero, List.set_cons_succ]
          refine wpAnyH_take (i := 1) (v := ?_) (iatLS (iatSS iatZS)) (by kernel_rfl) (by kernel_rfl) (by kernel_rfl) (fun _ _ _ h => h) (Or.inl ⟨by rfl, ?_⟩) (by assumption) ?_
          rotate_left
          · intro w hSw
            try dsimp only at hSw
            go_simp
            all_goals with_reducible rfl
          try simp only [Act.put, List.setIfInBounds_toArray, List.set_cons_zero, List.set_cons_succ]
          refine wpAnyH_take (i := 2) (v := ?_) (iatLS (iatSS (iatSS iatZS))) (by kernel_rfl) (by kernel_rfl) (by kernel_rfl) (fun _ _ _ h => h) (Or.inl ⟨by rfl, ?_⟩) (by assumption) ?_
          rotate_left
          · intro w hSw
            try dsimp only at hSw
            go_simp
            all_goals with_reducible rfl
          try simp only [Act.put, List.setIfInBounds_toArray, List.set_cons_zero, List.set_cons_succ]
          refine wpAnyH_take (i := 3) (v := ?_) (iatLS (iatSS (iatSS (iatSS iatZS)))) (by kernel_rfl) (by kernel_rfl) (by kernel_rfl) (fun _ _ _ h => h) (Or.inl ⟨by rfl, ?_⟩) (by assumption) ?_
          rotate_left
          · intro w hSw
            try dsimp only at hSw
            go_simp
            all_goals with_reducible rfl
          try simp only [Act.put, List.setIfInBounds_toArray, List.set_cons_zero, List.set_cons_succ]
          refine wpAnyH_take (i := 4) (v := ?_) (iatLS (iatSS (iatSS (iatSS (iatSS iatZS))))) (by kernel_rfl) (by kernel_rfl) (by kernel_rfl) (fun _ _ _ h => h) (Or.inl ⟨by rfl, ?_⟩) (by assumption) ?_
          rotate_left
          · intro w hSw
            try dsimp only at hSw
            go_simp
            all_goals with_reducible rfl
          try simp only [Act.put, List.setIfInBounds_toArray, List.set_cons_zero, List.set_cons_succ]
          refine wpAnyH_take (i := 5) (v := ?_) (iatLS (iatSS (iatSS (iatSS (iatSS (iatSS iatZS)))))) (by kernel_rfl) (by kernel_rfl) (by kernel_rfl) (fun _ _ _ h => h) (Or.inl ⟨by rfl, ?_⟩) (by assumption) ?_
          rotate_left
          · intro w hSw
            try dsimp only at hSw
            go_simp
            all_goals with_reducible rfl
          try simp only [Act.put, List.setIfInBounds_toArray, List.set_cons_zero, List.set_cons_succ]
          refine wpAnyH_take (i := 6) (v := ?_) (iatLS (iatSS (iatSS (iatSS (iatSS (iatSS (iatSS iatZS))))))) (by kernel_rfl) (by kernel_rfl) (by kernel_rfl) (fun _ _ _ h => h) (Or.inl ⟨by rfl, ?_⟩) (by assumption) ?_
          rotate_left
          · intro w hSw
            try dsimp only at hSw
            go_simp
            all_goals with_reducible rfl
          try simp only [Act.put, List.setIfInBounds_toArray, List.set_cons_zero, List.set_cons_succ]
          refine wpAnyH_take (i := 7) (v := ?_) (iatLS (iatSS (iatSS (iatSS (iatSS (iatSS (iatSS (iatSS iatZS)))))))) (by kernel_rfl) (by kernel_rfl) (by kernel_rfl) (fun _ _ _ h => h) (Or.inl ⟨by rfl, ?_⟩) (by assumption) ?_
          rotate_left
          · intro w hSw
            try dsimp only at hSw
            go_simp
            all_goals with_reducible rfl
          try simp only [Act.put, List.setIfInBounds_toArray, List.set_cons_zero, List.set_cons_succ]
          refine wpAnyH_take (i := 8) (v := ?_) (iatLS (iatSS (iatSS (iatSS (iatSS (iatSS (iatSS (iatSS (iatSS iatZS))))))))) (by kernel_rfl) (by kernel_rfl) (by kernel_rfl) (fun _ _ _ h => h) (Or.inl ⟨by rfl, ?_⟩) (by assumption) ?_
          rotate_left
          · intro w hSw
            try dsimp only at hSw
            go_simp
            all_goals with_reducible rfl
          try simp only [Act.put, List.setIfInBounds_toArray, List.set_cons_zero, List.set_cons_succ]
          refine wpAnyH_done (by kernel_rfl) ?_ _
          go_wp2_with (fail)
          exact bodyPost_ret (v := .bool false) (by simp [results, Try.results25, go_sem]; try first | rfl | assumption | omega) rfl ⟨by rw [hF.out], Hbd.out⟩
      · obtain rfl : k = L := by omega
        have hkI : ¬ (k : Int) < (k : Int) := by omega
        have hT : Hid (R = true) := Lib.hid (by rw [← hR.out]; exact decide_eq_true (by have := HR.out; rwa [List.take_of_length_le (by rw [HL.out]; exact Nat.le_refl _), List.take_of_length_le (by rw [HM.out]; exact Nat.le_refl _)] at this))
        go_wp2_with (fail)
        exact bodyPost_ret (v := .bool true) (by simp [results, Try.results25, go_sem]; try first | rfl | assumption | omega) rfl ⟨by rw [hT.out], hbr⟩
  · have hF : Hid (R = false) := Lib.hid (by rw [← hR.out]; exact decide_eq_false (fun e => hLM (by rw [← HL.out, ← HM.out, e])))
    have hne : ((L : Int) != (M : Int)) = true := by rw [bne_iff_ne]; omega
    clear hLM
    go_enter Try.func25, Try.ntmps25
    go_wp2_with (fail)
    exact bodyPost_ret (v := .bool false) (by simp [results, Try.results25, go_sem]; try first | rfl | assumption | omega) rfl ⟨by rw [hF.out], Below.refl _ _⟩

set_option maxRecDepth 100000 in
set_option maxHeartbeats 8000000 in
theorem same8_any (x y : CfD) (w : World) (hx : CfAt w x) (hy : CfAt w y) :
    Calls Try.prog 101 #[x.v, y.v] w fun e w' => e = .returned (.bool (decide (x.p = y.p))) ∧ Below w.heap.size w w' := by
  obtain ⟨R, hR⟩ : ∃ R, Hid (decide (x.p = y.p) = R) := ⟨_, Lib.hid rfl⟩
  rw [hR.out]
  obtain ⟨xt, xta, xtc, xn, xna, xnc, xa, xaa, xac⟩ := x
  obtain ⟨yt, yta, ytc, yn, yna, ync, ya, yaa, yac⟩ := y
  dsimp only [CfD.v]
  obtain ⟨hx1, hx2, hx3, hx4⟩ := hx
  obtain ⟨hy1, hy2, hy3, hy4⟩ := hy
  dsimp only at *
  have hb1 : Below w.heap.size w (w.alloc (.cells #[.slice xta xt.length xtc, .slice xna xn.length xnc, .slice xaa xa.length xac] 25)) := (Below.refl _ w).alloc (Nat.le_refl _) _
  have hb2 : Below w.heap.size w ((w.alloc (.cells #[.slice xta xt.length xtc, .slice xna xn.length xnc, .slice xaa xa.length xac] 25)).alloc (.cells #[.slice yta yt.length ytc, .slice yna yn.length ync, .slice yaa ya.length yac] 25)) := hb1.alloc hb1.size _
  have hA := (Blk.new w 25 #[.slice xta xt.length xtc, .slice xna xn.length xnc, .slice xaa xa.length xac]).alloc (.cells #[.slice yta yt.length ytc, .slice yna yn.length ync, .slice yaa ya.length yac] 25)
  have hB := Blk.new (w.alloc (.cells #[.slice xta xt.length xtc, .slice xna xn.length xnc, .slice xaa xa.length xac] 25)) 25 #[.slice yta yt.length ytc, .slice yna yn.length ync, .slice yaa ya.length yac]
  rw [show (w.alloc (.cells #[.slice xta xt.length xtc, .slice xna xn.length xnc, .slice xaa xa.length xac] 25)).heap.size = w.heap.size + 1 by simp] at hB
  have hxm : xa.length ≤ xac ∧ xac ≤ 9223372036854775807 := ⟨by have := hx3.le; rwa [List.length_map] at this, hx3.max⟩
  have hym : ya.length ≤ yac ∧ yac ≤ 9223372036854775807 := ⟨by have := hy3.le; rwa [List.length_map] at this, hy3.max⟩
  have hRt : Hid (R = (decide (xt = yt) && decide (xn = yn) && decide (xa.map IrD.p = ya.map IrD.p))) := Lib.hid (by
    rw [← hR.out, Bool.eq_iff_iff]
    simp [CfD.p, and_assoc])
  have Hn1 := Lib.hid (fun W (hb : Below w.heap.size w W) => sameNames_any xta yta xtc ytc xt yt W (hx1.grown hb) (hy1.grown hb))
  have Hn2 := Lib.hid (fun W (hb : Below w.heap.size w W) => sameNames_any xna yna xnc ync xn yn W (hx2.grown hb) (hy2.grown hb))
  obtain ⟨q1, hq1⟩ : ∃ q, Hid (decide (xt = yt) = q) := ⟨_, Lib.hid rfl⟩
  obtain ⟨q2, hq2⟩ : ∃ q, Hid (decide (xn = yn) = q) := ⟨_, Lib.hid rfl⟩
  rw [hq1.out] at hRt Hn1
  rw [hq2.out] at hRt Hn2
  have hlen : Hid (xa.length ≠ ya.length → R = false) := Lib.hid (fun h => by
    rw [hRt.out]
    have : decide (xa.map IrD.p = ya.map IrD.p) = false := decide_eq_false (fun e => h (by have := congrArg List.length e; rwa [List.length_map, List.length_map] at this))
    rw [this]; simp)
  obtain ⟨T1, HT1⟩ : ∃ L, Hid (xt.length = L) := ⟨_, Lib.hid rfl⟩
  obtain ⟨T2, HT2⟩ : ∃ L, Hid (yt.length = L) := ⟨_, Lib.hid rfl⟩
  obtain ⟨N1, HN1⟩ : ∃ L, Hid (xn.length = L) := ⟨_, Lib.hid rfl⟩
  obtain ⟨N2, HN2⟩ : ∃ L, Hid (yn.length = L) := ⟨_, Lib.hid rfl⟩
  obtain ⟨L, HL⟩ : ∃ L, Hid (xa.length = L) := ⟨_, Lib.hid rfl⟩
  obtain ⟨M, HM⟩ : ∃ L, Hid (ya.length = L) := ⟨_, Lib.hid rfl⟩
  rw [HT1.out, HT2.out] at Hn1
  rw [HN1.out, HN2.out] at Hn2
  have Hn1' : Hid (∀ W, Below w.heap.size w W → Calls Try.prog 141 #[.slice xta T1 xtc, .slice yta T2 ytc] W fun e w' => e = .returned (.bool q1) ∧ Below W.heap.size W w') := Hn1
  have Hn2' : Hid (∀ W, Below w.heap.size w W → Calls Try.prog 141 #[.slice xna N1 xnc, .slice yna N2 ync] W fun e w' => e = .returned (.bool q2) ∧ Below W.heap.size W w') := Hn2
  rw [HT1.out, HN1.out, HL.out] at hA hB hb1 hb2
  rw [HT2.out, HN2.out, HM.out] at hA hB hb2
  rw [HL.out] at hxm hlen
  rw [HM.out] at hym hlen
  rw [HT1.out, HN1.out, HL.out, HT2.out, HN2.out, HM.out]
  clear Hn1 Hn2
  have x0 := hA.cell 0
  have x1 := hA.cell 1
  have x2 := hA.cell 2
  have xl := hA.lt
  have y0 := hB.cell 0
  have y1 := hB.cell 1
  have y2 := hB.cell 2
  have yl := hB.lt
  simp only [List.getElem?_cons_zero, List.getElem?_cons_succ] at x0 x1 x2 y0 y1 y2
  have HA := Lib.hid hA
  have HB := Lib.hid hB
  have Hb2 := Lib.hid hb2
  have HX3 := Lib.hid hx3
  have HY3 := Lib.hid hy3
  clear hA hB hb1 hb2 hx1 hx2 hy1 hy2 hx3 hy3
  obtain ⟨bx, hbx⟩ : ∃ q, Hid (w.heap.size = q) := ⟨_, Lib.hid rfl⟩
  have hbW : bx ≤ w.heap.size := by rw [hbx.out]; exact Nat.le_refl _
  go_enter Try.func101, Try.ntmps101
  go_wp2_with (fail)
  have Hc1 := Lib.hid (Hn1'.out _ Hb2.out)
  rw [hbx.out] at HA HB ⊢
  generalize hV : World.alloc (World.alloc w _) _ = V at HA HB Hb2 Hc1 ⊢
  clear hV x0 x1 x2 xl y0 y1 y2 yl
  refine Hc1.out.mono ?_
  clear Hc1
  rintro e w3 ⟨rfl, hb3⟩
  have HA3 := Lib.hid (HA.out.below hb3 HA.out.lt)
  have HB3 := Lib.hid (HB.out.below hb3 HB.out.lt)
  have Hb3 := Lib.hid (Hb2.out.trans (hb3.mono Hb2.out.size))
  clear hb3 HA HB Hb2
  cases q1
  case false =>
    have hF : Hid (R = false) := Lib.hid (by rw [hRt.out]; rfl)
    clear hRt
    go_wp2_with (fail)
    exact bodyPost_ret (v := .bool false) (by simp [results, Try.results101, go_sem]; try first | rfl | assumption | omega) rfl ⟨by rw [hF.out], Hb3.out⟩
  case true =>
  have x1 := HA3.out.cell 1
  have xl := HA3.out.lt
  have y1 := HB3.out.cell 1
  have yl := HB3.out.lt
  simp only [List.getElem?_cons_zero, List.getElem?_cons_succ] at x1 y1
  have Hc2 := Lib.hid (Hn2'.out w3 Hb3.out)
  have HRt := Lib.hid hRt
  clear hRt
  go_wp2_with (fail)
  refine Hc2.out.mono ?_
  clear Hc2
  rintro e w5 ⟨rfl, hb5⟩
  have HA5 := Lib.hid (HA3.out.below hb5 HA3.out.lt)
  have HB5 := Lib.hid (HB3.out.below hb5 HB3.out.lt)
  have Hb5 := Lib.hid (Hb3.out.trans (hb5.mono Hb3.out.size))
  clear hb5 HA3 HB3 Hb3 x1 xl y1 yl
  cases q2
  case false =>
    have hF : Hid (R = false) := Lib.hid (by rw [HRt.out.out]; rfl)
    go_wp2_with (fail)
    exact bodyPost_ret (v := .bool false) (by simp [results, Try.results101, go_sem]; try first | rfl | assumption | omega) rfl ⟨by rw [hF.out], Hb5.out⟩
  case true =>
  have hRr : Hid (R = decide (xa.map IrD.p = ya.map IrD.p)) := Lib.hid (by rw [HRt.out.out]; rfl)
  have x2 := HA5.out.cell 2
  have xl := HA5.out.lt
  have y2 := HB5.out.cell 2
  have yl := HB5.out.lt
  simp only [List.getElem?_cons_zero, List.getElem?_cons_succ] at x2 y2
  clear HRt
  by_cases hLM : L = M
  case neg =>
    have hF : Hid (R = false) := Lib.hid (hlen.out hLM)
    have hne : ((L : Int) != (M : Int)) = true := by rw [bne_iff_ne]; omega
    clear hLM
    go_wp2_with (fail)
    exact bodyPost_ret (v := .bool false) (by simp [results, Try.results101, go_sem]; try first | rfl | assumption | omega) rfl ⟨by rw [hF.out], Hb5.out⟩
  case pos =>
  subst hLM
  go_wp2_with (fail)
  go_loopw [5, 33] (fun _ iv wr => ∃ (k : Nat), k ≤ L ∧ iv = .int .i64 (k : Int) ∧ Hid ((xa.take k).map IrD.p = (ya.take k).map IrD.p) ∧ Below w5.heap.size w5 wr) (fun _ iv _ => L - (intOf iv).toNat)
  case atStart => exact ⟨0, Nat.zero_le _, rfl, Lib.hid rfl, Below.refl _ _⟩
  case round =>
    clear x2 xl y2 yl
    obtain ⟨k, hk, rfl, HR, hbr⟩ := hrel
    have hA6 := HA5.out.below hbr HA5.out.lt
    have hB6 := HB5.out.below hbr HB5.out.lt
    have hbw := Hb5.out.trans (hbr.mono Hb5.out.size)
    by_cases hlt : k < L
    · have hkl : k < xa.length := by rw [HL.out]; exact hlt
      have hkm : k < ya.length := by rw [HM.out]; exact hlt
      have hkI : (k : Int) < (L : Int) := by omega
      have hkI0 : (0 : Int) ≤ (k : Int) := by omega
      obtain ⟨b1, o1, ha1⟩ := HX3.out.at_ k (by rw [List.length_map]; exact hkl)
      obtain ⟨b2, o2, ha2⟩ := HY3.out.at_ k (by rw [List.length_map]; exact hkm)
      have c0 := (HX3.out.grown hbw).cell b1 o1 ha1 k (by rw [List.length_map]; exact hkl)
      have d0 := (HY3.out.grown hbw).cell b2 o2 ha2 k (by rw [List.length_map]; exact hkm)
      rw [List.getElem_map] at c0 d0
      have m1 : xa[k] ∈ xa := List.getElem_mem hkl
      have m2 : ya[k] ∈ ya := List.getElem_mem hkm
      have hmoreA : (xa.take (k + 1)).map IrD.p = (xa.take k).map IrD.p ++ [xa[k].p] := by rw [List.take_add_one, List.getElem?_eq_getElem hkl, List.map_append]; rfl
      have hmoreB : (ya.take (k + 1)).map IrD.p = (ya.take k).map IrD.p ++ [ya[k].p] := by rw [List.take_add_one, List.getElem?_eq_getElem hkm, List.map_append]; rfl
      have hne0 : xa[k].p ≠ ya[k].p → R = false := fun h => by
        rw [hRr.out]
        refine decide_eq_false (fun e => h ?_)
        have h1 : (xa.map IrD.p)[k]'(by rw [List.length_map]; exact hkl) = xa[k].p := List.getElem_map ..
        have h2 : (ya.map IrD.p)[k]'(by rw [List.length_map]; exact hkm) = ya[k].p := List.getElem_map ..
        rw [← h1, ← h2]
        simp only [e]
      obtain ⟨s, HS⟩ : ∃ s, Hid (xa[k] = s) := ⟨_, Lib.hid rfl⟩
      obtain ⟨t, HT⟩ : ∃ s, Hid (ya[k] = s) := ⟨_, Lib.hid rfl⟩
      rw [HS.out] at c0 m1 hmoreA hne0
      rw [HT.out] at d0 m2 hmoreB hne0
      obtain ⟨sd, sa, sc⟩ := s
      obtain ⟨td, sb, sc2⟩ := t
      change _ = some (Value.slice sa sd.length sc) at c0
      change _ = some (Value.slice sb td.length sc2) at d0
      have hmore : Hid ((xa.take (k + 1)).map IrD.p = (xa.take k).map IrD.p ++ [sd.map (fun d => d.l)] ∧ (ya.take (k + 1)).map IrD.p = (ya.take k).map IrD.p ++ [td.map (fun d => d.l)]) := Lib.hid ⟨hmoreA, hmoreB⟩
      have hne : Hid (sd.map (fun d => d.l) ≠ td.map (fun d => d.l) → R = false) := Lib.hid hne0
      have hs : AltsI w sa sc sd := hx4 _ m1
      have ht : AltsI w sb sc2 td := hy4 _ m2
      have hsm : sd.length ≤ sc ∧ sc ≤ 9223372036854775807 := ⟨by have := hs.row.le; rwa [List.length_map] at this, hs.row.max⟩
      have htm : td.length ≤ sc2 ∧ sc2 ≤ 9223372036854775807 := ⟨by have := ht.row.le; rwa [List.length_map] at this, ht.row.max⟩
      have Hs := Lib.hid hs
      have Ht := Lib.hid ht
      have hlen2 : Hid (sd.length ≠ td.length → R = false) := Lib.hid (fun h => hne.out (fun e => h (by have := congrArg List.length e; rwa [List.length_map, List.length_map] at this)))
      obtain ⟨SL, HSL⟩ : ∃ q, Hid (sd.length = q) := ⟨_, Lib.hid rfl⟩
      obtain ⟨TL, HTL⟩ : ∃ q, Hid (td.length = q) := ⟨_, Lib.hid rfl⟩
      rw [HSL.out] at c0 hsm hlen2
      rw [HTL.out] at d0 htm hlen2
      have Hhr := Lib.hid hbr
      subst ha1
      subst ha2
      have x2 := hA6.cell 2
      have xl := hA6.lt
      have y2 := hB6.cell 2
      have yl := hB6.lt
      simp only [List.getElem?_cons_zero, List.getElem?_cons_succ] at x2 y2
      have HS6 : Hid (wr.drew.cell? ⟨bx, 2, none⟩ = some (.slice (some ⟨b1, o1, none⟩) L xac) ∧ wr.drew.cell? ⟨bx + 1, 2, none⟩ = some (.slice (some ⟨b2, o2, none⟩) L yac) ∧ wr.drew.cell? ⟨b1, o1 + k, none⟩ = some (.slice sa SL sc) ∧ wr.drew.cell? ⟨b2, o2 + k, none⟩ = some (.slice sb TL sc2)) := Lib.hid ⟨x2, y2, c0, d0⟩
      clear hmoreA hmoreB hne0 hs ht m1 m2 hA6 hB6 hbr hbw x2 xl y2 yl c0 d0
      by_cases hST : SL = TL
      case neg =>
        have hF : Hid (R = false) := Lib.hid (hlen2.out hST)
        have hne2 : ((SL : Int) != (TL : Int)) = true := by rw [bne_iff_ne]; omega
        have Hbw := Lib.hid ((Hb5.out.trans (Hhr.out.mono Hb5.out.size)).drew)
        clear hST
        go_wp2_with (fail)
        refine wp_region_held_drew (S := fun w' => (w'.cell? ⟨bx, 2, none⟩ = some (.slice (some ⟨b1, o1, none⟩) L xac) ∧ w'.cell? ⟨bx + 1, 2, none⟩ = some (.slice (some ⟨b2, o2, none⟩) L yac) ∧ w'.cell? ⟨b1, o1 + k, none⟩ = some (.slice sa SL sc) ∧ w'.cell? ⟨b2, o2 + k, none⟩ = some (.slice sb TL sc2))) (by kernel_rfl) ?_ (fun hHeld => ?_)
        · exact HS6.out
        refine wpAnyH_take (i := 0) (v := ?_) (iatLS iatZS) (by kernel_rfl) (by kernel_rfl) (by kernel_rfl) (fun _ _ _ h => h) (Or.inl ⟨by rfl, ?_⟩) (by assumption) ?_
        rotate_left
        · intro w hSw
          try dsimp only at hSw
          go_simp
          all_goals with_reducible rfl
        try simp only [Act.put, List.setIfInBounds_toArray, List.set_cons_zero, List.set_cons_succ]
        refine wpAnyH_take (i := 1) (v := ?_) (iatLS (iatSS iatZS)) (by kernel_rfl) (by kernel_rfl) (by kernel_rfl) (fun _ _ _ h => h) (Or.inl ⟨by rfl, ?_⟩) (by assumption) ?_
        rotate_left
        · intro w hSw
          try dsimp only at hSw
          go_simp
          all_goals with_reducible rfl
        try simp only [Act.put, List.setIfInBounds_toArray, List.set_cons_zero, List.set_cons_succ]
        refine wpAnyH_take (i := 2) (v := ?_) (iatLS (iatSS (iatSS iatZS))) (by kernel_rfl) (by kernel_rfl) (by kernel_rfl) (fun _ _ _ h => h) (Or.inl ⟨by rfl, ?_⟩) (by assumption) ?_
        rotate_left
        · intro w hSw
          try dsimp only at hSw
          go_simp
          all_goals with_reducible rfl
        try simp only [Act.put, List.setIfInBounds_toArray, List.set_cons_zero, List.set_cons_succ]
        refine wpAnyH_take (i := 3) (v := ?_) (iatLS (iatSS (iatSS (iatSS iatZS)))) (by kernel_rfl) (by kernel_rfl) (by kernel_rfl) (fun _ _ _ h => h) (Or.inl ⟨by rfl, ?_⟩) (by assumption) ?_
        rotate_left
        · intro w hSw
          try dsimp only at hSw
          go_simp
          all_goals with_reducible rfl
        try simp only [Act.put, List.setIfInBounds_toArray, List.set_cons_zero, List.set_cons_succ]
        refine wpAnyH_take (i := 4) (v := ?_) (iatLS (iatSS (iatSS (iatSS (iatSS iatZS))))) (by kernel_rfl) (by kernel_rfl) (by kernel_rfl) (fun _ _ _ h => h) (Or.inl ⟨by rfl, ?_⟩) (by assumption) ?_
        rotate_left
        · intro w hSw
          try dsimp only at hSw
          go_simp
          all_goals with_reducible rfl
        try simp only [Act.put, List.setIfInBounds_toArray, List.set_cons_zero, List.set_cons_succ]
        refine wpAnyH_take (i := 5) (v := ?_) (iatLS (iatSS (iatSS (iatSS (iatSS (iatSS iatZS)))))) (by kernel_rfl) (by kernel_rfl) (by kernel_rfl) (fun _ _ _ h => h) (Or.inl ⟨by rfl, ?_⟩) (by assumption) ?_
        rotate_left
        · intro w hSw
          try dsimp only at hSw
          go_simp
          all_goals with_reducible rfl
        try simp only [Act.put, List.setIfInBounds_toArray, List.set_cons_zero, List.set_cons_succ]
        refine wpAnyH_take (i := 6) (v := ?_) (iatLS (iatSS (iatSS (iatSS (iatSS (iatSS (iatSS iatZS))))))) (by kernel_rfl) (by kernel_rfl) (by kernel_rfl) (fun _ _ _ h => h) (Or.inl ⟨by rfl, ?_⟩) (by assumption) ?_
        rotate_left
        · intro w hSw
          try dsimp only at hSw
          go_simp
          all_goals with_reducible rfl
        try simp only [Act.put, List.setIfInBounds_toArray, List.set_cons_zero, List.set_cons_succ]
        refine wpAnyH_take (i := 7) (v := ?_) (iatLS (iatSS (iatSS (iatSS (iatSS (iatSS (iatSS (iatSS iatZS)))))))) (by kernel_rfl) (by kernel_rfl) (by kernel_rfl) (fun _ _ _ h => h) (Or.inl ⟨by rfl, ?_⟩) (by assumption) ?_
        rotate_left
        · intro w hSw
          try dsimp only at hSw
          go_simp
          all_goals with_reducible rfl
        try simp only [Act.put, List.setIfInBounds_toArray, List.set_cons_zero, List.set_cons_succ]
        refine wpAnyH_take (i := 8) (v := ?_) (iatLS (iatSS (iatSS (iatSS (iatSS (iatSS (iatSS (iatSS (iatSS iatZS))))))))) (by kernel_rfl) (by kernel_rfl) (by kernel_rfl) (fun _ _ _ h => h) (Or.inl ⟨by rfl, ?_⟩) (by assumption) ?_
        rotate_left
        · intro w hSw
          try dsimp only at hSw
          go_simp
          all_goals with_reducible rfl
        try simp only [Act.put, List.setIfInBounds_toArray, List.set_cons_zero, List.set_cons_succ]
        refine wpAnyH_take (i := 9) (v := ?_) (iatLS (iatSS (iatSS (iatSS (iatSS (iatSS (iatSS (iatSS (iatSS (iatSS iatZS)))))))))) (by kernel_rfl) (by kernel_rfl) (by kernel_rfl) (fun _ _ _ h => h) (Or.inl ⟨by rfl, ?_⟩) (by assumption) ?_
        rotate_left
        · intro w hSw
          try dsimp only at hSw
          go_simp
          all_goals with_reducible rfl
        try simp only [Act.put, List.setIfInBounds_toArray, List.set_cons_zero, List.set_cons_succ]
        refine wpAnyH_take (i := 10) (v := ?_) (iatLS (iatSS (iatSS (iatSS (iatSS (iatSS (iatSS (iatSS (iatSS (iatSS (iatSS iatZS))))))))))) (by kernel_rfl) (by kernel_rfl) (by kernel_rfl) (fun _ _ _ h => h) (Or.inl ⟨by rfl, ?_⟩) (by assumption) ?_
        rotate_left
        · intro w hSw
          try dsimp only at hSw
          go_simp
          all_goals with_reducible rfl
        try simp only [Act.put, List.setIfInBounds_toArray, List.set_cons_zero, List.set_cons_succ]
        refine wpAnyH_take (i := 11) (v := ?_) (iatLS (iatSS (iatSS (iatSS (iatSS (iatSS (iatSS (iatSS (iatSS (iatSS (iatSS (iatSS iatZS)))))))))))) (by kernel_rfl) (by kernel_rfl) (by kernel_rfl) (fun _ _ _ h => h) (Or.inl ⟨by rfl, ?_⟩) (by assumption) ?_
        rotate_left
        · intro w hSw
          try dsimp only at hSw
          go_simp
          all_goals with_reducible rfl
        try simp only [Act.put, List.setIfInBounds_toArray, List.set_cons_zero, List.set_cons_succ]
        refine wpAnyH_take (i := 12) (v := ?_) (iatLS (iatSS (iatSS (iatSS (iatSS (iatSS (iatSS (iatSS (iatSS (iatSS (iatSS (iatSS (iatSS iatZS))))))))))))) (by kernel_rfl) (by kernel_rfl) (by kernel_rfl) (fun _ _ _ h => h) (Or.inl ⟨by rfl, ?_⟩) (by assumption) ?_
        rotate_left
        · intro w hSw
          try dsimp only at hSw
          go_simp
          all_goals with_reducible rfl
        try simp only [Act.put, List.setIfInBounds_toArray, List.set_cons_zero, List.set_cons_succ]
        refine wpAnyH_done (by kernel_rfl) ?_ _
        go_wp2_with (fail)
        exact bodyPost_ret (v := .bool false) (by simp [results, Try.results101, go_sem]; try first | rfl | assumption | omega) rfl ⟨by rw [hF.out], Hbw.out⟩
      case pos =>
      subst hST
      go_wp2_with (fail)
      refine wp_region_held_drew (S := fun w' => (w'.cell? ⟨bx, 2, none⟩ = some (.slice (some ⟨b1, o1, none⟩) L xac) ∧ w'.cell? ⟨bx + 1, 2, none⟩ = some (.slice (some ⟨b2, o2, none⟩) L yac) ∧ w'.cell? ⟨b1, o1 + k, none⟩ = some (.slice sa SL sc) ∧ w'.cell? ⟨b2, o2 + k, none⟩ = some (.slice sb SL sc2))) (by kernel_rfl) ?_ (fun hHeld => ?_)
      · exact HS6.out
      refine wpAnyH_take (i := 0) (v := ?_) (iatLS iatZS) (by kernel_rfl) (by kernel_rfl) (by kernel_rfl) (fun _ _ _ h => h) (Or.inl ⟨by rfl, ?_⟩) (by assumption) ?_
      rotate_left
      · intro w hSw
        try dsimp only at hSw
        go_simp
        all_goals with_reducible rfl
      try simp only [Act.put, List.setIfInBounds_toArray, List.set_cons_zero, List.set_cons_succ]
      refine wpAnyH_take (i := 1) (v := ?_) (iatLS (iatSS iatZS)) (by kernel_rfl) (by kernel_rfl) (by kernel_rfl) (fun _ _ _ h => h) (Or.inl ⟨by rfl, ?_⟩) (by assumption) ?_
      rotate_left
      · intro w hSw
        try dsimp only at hSw
        go_simp
        all_goals with_reducible rfl
      try simp only [Act.put, List.setIfInBounds_toArray, List.set_cons_zero, List.set_cons_succ]
      refine wpAnyH_take (i := 2) (v := ?_) (iatLS (iatSS (iatSS iatZS))) (by kernel_rfl) (by kernel_rfl) (by kernel_rfl) (fun _ _ _ h => h) (Or.inl ⟨by rfl, ?_⟩) (by assumption) ?_
      rotate_left
      · intro w hSw
        try dsimp only at hSw
        go_simp
        all_goals with_reducible rfl
      try simp only [Act.put, List.setIfInBounds_toArray, List.set_cons_zero, List.set_cons_succ]
      refine wpAnyH_take (i := 3) (v := ?_) (iatLS (iatSS (iatSS (iatSS iatZS)))) (by kernel_rfl) (by kernel_rfl) (by kernel_rfl) (fun _ _ _ h => h) (Or.inl ⟨by rfl, ?_⟩) (by assumption) ?_
      rotate_left
      · intro w hSw
        try dsimp only at hSw
        go_simp
        all_goals with_reducible rfl
      try simp only [Act.put, List.setIfInBounds_toArray, List.set_cons_zero, List.set_cons_succ]
      refine wpAnyH_take (i := 4) (v := ?_) (iatLS (iatSS (iatSS (iatSS (iatSS iatZS))))) (by kernel_rfl) (by kernel_rfl) (by kernel_rfl) (fun _ _ _ h => h) (Or.inl ⟨by rfl, ?_⟩) (by assumption) ?_
      rotate_left
      · intro w hSw
        try dsimp only at hSw
        go_simp
        all_goals with_reducible rfl
      try simp only [Act.put, List.setIfInBounds_toArray, List.set_cons_zero, List.set_cons_succ]
      refine wpAnyH_take (i := 5) (v := ?_) (iatLS (iatSS (iatSS (iatSS (iatSS (iatSS iatZS)))))) (by kernel_rfl) (by kernel_rfl) (by kernel_rfl) (fun _ _ _ h => h) (Or.inl ⟨by rfl, ?_⟩) (by assumption) ?_
      rotate_left
      · intro w hSw
        try dsimp only at hSw
        go_simp
        all_goals with_reducible rfl
      try simp only [Act.put, List.setIfInBounds_toArray, List.set_cons_zero, List.set_cons_succ]
      refine wpAnyH_take (i := 6) (v := ?_) (iatLS (iatSS (iatSS (iatSS (iatSS (iatSS (iatSS iatZS))))))) (by kernel_rfl) (by kernel_rfl) (by kernel_rfl) (fun _ _ _ h => h) (Or.inl ⟨by rfl, ?_⟩) (by assumption) ?_
      rotate_left
      · intro w hSw
        try dsimp only at hSw
        go_simp
        all_goals with_reducible rfl
      try simp only [Act.put, List.setIfInBounds_toArray, List.set_cons_zero, List.set_cons_succ]
      refine wpAnyH_take (i := 7) (v := ?_) (iatLS (iatSS (iatSS (iatSS (iatSS (iatSS (iatSS (iatSS iatZS)))))))) (by kernel_rfl) (by kernel_rfl) (by kernel_rfl) (fun _ _ _ h => h) (Or.inl ⟨by rfl, ?_⟩) (by assumption) ?_
      rotate_left
      · intro w hSw
        try dsimp only at hSw
        go_simp
        all_goals with_reducible rfl
      try simp only [Act.put, List.setIfInBounds_toArray, List.set_cons_zero, List.set_cons_succ]
      refine wpAnyH_take (i := 8) (v := ?_) (iatLS (iatSS (iatSS (iatSS (iatSS (iatSS (iatSS (iatSS (iatSS iatZS))))))))) (by kernel_rfl) (by kernel_rfl) (by kernel_rfl) (fun _ _ _ h => h) (Or.inl ⟨by rfl, ?_⟩) (by assumption) ?_
      rotate_left
      · intro w hSw
        try dsimp only at hSw
        go_simp
        all_goals with_reducible rfl
      try simp only [Act.put, List.setIfInBounds_toArray, List.set_cons_zero, List.set_cons_succ]
      refine wpAnyH_take (i := 9) (v := ?_) (iatLS (iatSS (iatSS (iatSS (iatSS (iatSS (iatSS (iatSS (iatSS (iatSS iatZS)))))))))) (by kernel_rfl) (by kernel_rfl) (by kernel_rfl) (fun _ _ _ h => h) (Or.inl ⟨by rfl, ?_⟩) (by assumption) ?_
      rotate_left
      · intro w hSw
        try dsimp only at hSw
        go_simp
        all_goals with_reducible rfl
      try simp only [Act.put, List.setIfInBounds_toArray, List.set_cons_zero, List.set_cons_succ]
      refine wpAnyH_take (i := 10) (v := ?_) (iatLS (iatSS (iatSS (iatSS (iatSS (iatSS (iatSS (iatSS (iatSS (iatSS (iatSS iatZS))))))))))) (by kernel_rfl) (by kernel_rfl) (by kernel_rfl) (fun _ _ _ h => h) (Or.inl ⟨by rfl, ?_⟩) (by assumption) ?_
      rotate_left
      · intro w hSw
        try dsimp only at hSw
        go_simp
        all_goals with_reducible rfl
      try simp only [Act.put, List.setIfInBounds_toArray, List.set_cons_zero, List.set_cons_succ]
      refine wpAnyH_take (i := 11) (v := ?_) (iatLS (iatSS (iatSS (iatSS (iatSS (iatSS (iatSS (iatSS (iatSS (iatSS (iatSS (iatSS iatZS)))))))))))) (by kernel_rfl) (by kernel_rfl) (by kernel_rfl) (fun _ _ _ h => h) (Or.inl ⟨by rfl, ?_⟩) (by assumption) ?_
      rotate_left
      · intro w hSw
        try dsimp only at hSw
        go_simp
        all_goals with_reducible rfl
      try simp only [Act.put, List.setIfInBounds_toArray, List.set_cons_zero, List.set_cons_succ]
      refine wpAnyH_take (i := 12) (v := ?_) (iatLS (iatSS (iatSS (iatSS (iatSS (iatSS (iatSS (iatSS (iatSS (iatSS (iatSS (iatSS (iatSS iatZS))))))))))))) (by kernel_rfl) (by kernel_rfl) (by kernel_rfl) (fun _ _ _ h => h) (Or.inl ⟨by rfl, ?_⟩) (by assumption) ?_
      rotate_left
      · intro w hSw
        try dsimp only at hSw
        go_simp
        all_goals with_reducible rfl
      try simp only [Act.put, List.setIfInBounds_toArray, List.set_cons_zero, List.set_cons_succ]
      refine wpAnyH_done (by kernel_rfl) ?_ _
      have g1 := HS6.out.1
      have g2 := HS6.out.2.2.1
      have gl1 := World.block_lt_of_cell? _ _ g1
      have gl2 := World.block_lt_of_cell? _ _ g2
      obtain ⟨wd, hwd⟩ : ∃ q, Hid (wr.drew = q) := ⟨_, Lib.hid rfl⟩
      have Hbd : Hid (Below w.heap.size w wd) := Lib.hid (by rw [← hwd.out]; exact (Hb5.out.trans (Hhr.out.mono Hb5.out.size)).drew)
      have Hbe : Hid (Below w5.heap.size w5 wd) := Lib.hid (by rw [← hwd.out]; exact Hhr.out.drew)
      rw [hwd.out] at HS6 g1 g2 gl1 gl2 ⊢
      clear hwd Hhr
      go_wp2_with (fail)
      go_loopw [6, 55] (fun _ jv wv => ∃ (j : Nat), j ≤ SL ∧ jv = .int .i64 (j : Int) ∧ Hid ((sd.take j).map (fun d => d.l) = (td.take j).map (fun d => d.l)) ∧ Below wd.heap.size wd wv) (fun _ jv _ => SL - (intOf jv).toNat)
      case atStart => exact ⟨0, Nat.zero_le _, rfl, Lib.hid rfl, Below.refl _ _⟩
      case round =>
        clear g1 g2 gl1 gl2
        obtain ⟨j, hj, rfl, HRj, hbj⟩ := hrel
        have hbv := Hbd.out.trans (hbj.mono Hbd.out.size)
        by_cases hltj : j < SL
        · have hjI : (j : Int) < (SL : Int) := by omega
          have hjI0 : (0 : Int) ≤ (j : Int) := by omega
          have hjl : j < sd.length := by rw [HSL.out]; exact hltj
          have hjm : j < td.length := by rw [HTL.out]; exact hltj
          obtain ⟨b3, o3, ha3⟩ := Hs.out.row.at_ j (by rw [List.length_map]; exact hjl)
          obtain ⟨b4, o4, ha4⟩ := Ht.out.row.at_ j (by rw [List.length_map]; exact hjm)
          have e0 := (Hs.out.row.grown hbv).cell b3 o3 ha3 j (by rw [List.length_map]; exact hjl)
          have f0 := (Ht.out.row.grown hbv).cell b4 o4 ha4 j (by rw [List.length_map]; exact hjm)
          rw [List.getElem_map] at e0 f0
          have m3 : sd[j] ∈ sd := List.getElem_mem hjl
          have m4 : td[j] ∈ td := List.getElem_mem hjm
          have hmA : (sd.take (j + 1)).map (fun d => d.l) = (sd.take j).map (fun d => d.l) ++ [sd[j].l] := by rw [List.take_add_one, List.getElem?_eq_getElem hjl, List.map_append]; rfl
          have hmB : (td.take (j + 1)).map (fun d => d.l) = (td.take j).map (fun d => d.l) ++ [td[j].l] := by rw [List.take_add_one, List.getElem?_eq_getElem hjm, List.map_append]; rfl
          have hnj : sd[j].l ≠ td[j].l → R = false := fun h => by
            refine hne.out (fun e => h ?_)
            have h1 : (sd.map (fun d => d.l))[j]'(by rw [List.length_map]; exact hjl) = sd[j].l := List.getElem_map ..
            have h2 : (td.map (fun d => d.l))[j]'(by rw [List.length_map]; exact hjm) = td[j].l := List.getElem_map ..
            rw [← h1, ← h2]
            simp only [e]
          obtain ⟨d1, hd1⟩ : ∃ v, Hid (sd[j] = v) := ⟨_, Lib.hid rfl⟩
          obtain ⟨d2, hd2⟩ : ∃ v, Hid (td[j] = v) := ⟨_, Lib.hid rfl⟩
          rw [hd1.out] at e0 m3 hmA hnj
          rw [hd2.out] at f0 m4 hmB hnj
          change _ = some (Value.slice d1.a d1.l.length d1.c) at e0
          change _ = some (Value.slice d2.a d2.l.length d2.c) at f0
          have Hc := Lib.hid (sameInts8_any d1.a d2.a d1.c d2.c d1.l d2.l wr.drew ((Vs.grown (Hs.out.nms d1 m3) hbv.drew)) ((Vs.grown (Ht.out.nms d2 m4) hbv.drew)))
          obtain ⟨D1, hD1⟩ : ∃ q, Hid (d1.l.length = q) := ⟨_, Lib.hid rfl⟩
          obtain ⟨D2, hD2⟩ : ∃ q, Hid (d2.l.length = q) := ⟨_, Lib.hid rfl⟩
          rw [hD1.out, hD2.out] at Hc
          rw [hD1.out] at e0
          rw [hD2.out] at f0
          have HS11 : Hid (wr.drew.cell? ⟨bx, 2, none⟩ = some (.slice (some ⟨b1, o1, none⟩) L xac) ∧ wr.drew.cell? ⟨bx + 1, 2, none⟩ = some (.slice (some ⟨b2, o2, none⟩) L yac) ∧ wr.drew.cell? ⟨b1, o1 + k, none⟩ = some (.slice sa SL sc) ∧ wr.drew.cell? ⟨b2, o2 + k, none⟩ = some (.slice sb SL sc2) ∧ wr.drew.cell? ⟨b3, o3 + j, none⟩ = some (.slice d1.a D1 d1.c) ∧ wr.drew.cell? ⟨b4, o4 + j, none⟩ = some (.slice d2.a D2 d2.c)) := Lib.hid ⟨cell_up hbj HS6.out.1, cell_up hbj HS6.out.2.1, cell_up hbj HS6.out.2.2.1, cell_up hbj HS6.out.2.2.2, e0, f0⟩
          have hma : Hid ((sd.take (j + 1)).map (fun d => d.l) = (sd.take j).map (fun d => d.l) ++ [d1.l] ∧ (td.take (j + 1)).map (fun d => d.l) = (td.take j).map (fun d => d.l) ++ [d2.l]) := Lib.hid ⟨hmA, hmB⟩
          have Hnj := Lib.hid hnj
          obtain ⟨q3, hq3⟩ : ∃ q, Hid (decide (d1.l = d2.l) = q) := ⟨_, Lib.hid rfl⟩
          rw [hq3.out] at Hc
          have Hbjd := Lib.hid hbj.drew
          subst ha3
          subst ha4
          clear e0 f0 m3 m4 hmA hmB hnj hbj hbv
          go_wp2_with (fail)
          refine wp_region_held_drew (S := fun w' => (w'.cell? ⟨bx, 2, none⟩ = some (.slice (some ⟨b1, o1, none⟩) L xac) ∧ w'.cell? ⟨bx + 1, 2, none⟩ = some (.slice (some ⟨b2, o2, none⟩) L yac) ∧ w'.cell? ⟨b1, o1 + k, none⟩ = some (.slice (some ⟨b3, o3, none⟩) SL sc) ∧ w'.cell? ⟨b2, o2 + k, none⟩ = some (.slice (some ⟨b4, o4, none⟩) SL sc2) ∧ w'.cell? ⟨b3, o3 + j, none⟩ = some (.slice d1.a D1 d1.c) ∧ w'.cell? ⟨b4, o4 + j, none⟩ = some (.slice d2.a D2 d2.c))) (by kernel_rfl) ?_ (fun hHeld => ?_)
          · exact HS11.out
          refine wpAnyH_take (i := 0) (v := ?_) (iatLS iatZS) (by kernel_rfl) (by kernel_rfl) (by kernel_rfl) (fun _ _ _ h => h) (Or.inl ⟨by rfl, ?_⟩) (by assumption) ?_
          rotate_left
          · intro w hSw
            try dsimp only at hSw
            go_simp
            all_goals with_reducible rfl
          try simp only [Act.put, List.setIfInBounds_toArray, List.set_cons_zero, List.set_cons_succ]
          refine wpAnyH_take (i := 1) (v := ?_) (iatLS (iatSS iatZS)) (by kernel_rfl) (by kernel_rfl) (by kernel_rfl) (fun _ _ _ h => h) (Or.inl ⟨by rfl, ?_⟩) (by assumption) ?_
          rotate_left
          · intro w hSw
            try dsimp only at hSw
            go_simp
            all_goals with_reducible rfl
          try simp only [Act.put, List.setIfInBounds_toArray, List.set_cons_zero, List.set_cons_succ]
          refine wpAnyH_take (i := 2) (v := ?_) (iatLS (iatSS (iatSS iatZS))) (by kernel_rfl) (by kernel_rfl) (by kernel_rfl) (fun _ _ _ h => h) (Or.inl ⟨by rfl, ?_⟩) (by assumption) ?_
          rotate_left
          · intro w hSw
            try dsimp only at hSw
            go_simp
            all_goals with_reducible rfl
          try simp only [Act.put, List.setIfInBounds_toArray, List.set_cons_zero, List.set_cons_succ]
          refine wpAnyH_take (i := 3) (v := ?_) (iatLS (iatSS (iatSS (iatSS iatZS)))) (by kernel_rfl) (by kernel_rfl) (by kernel_rfl) (fun _ _ _ h => h) (Or.inl ⟨by rfl, ?_⟩) (by assumption) ?_
          rotate_left
          · intro w hSw
            try dsimp only at hSw
            go_simp
            all_goals with_reducible rfl
          try simp only [Act.put, List.setIfInBounds_toArray, List.set_cons_zero, List.set_cons_succ]
          refine wpAnyH_take (i := 4) (v := ?_) (iatLS (iatSS (iatSS (iatSS (iatSS iatZS))))) (by kernel_rfl) (by kernel_rfl) (by kernel_rfl) (fun _ _ _ h => h) (Or.inl ⟨by rfl, ?_⟩) (by assumption) ?_
          rotate_left
          · intro w hSw
            try dsimp only at hSw
            go_simp
            all_goals with_reducible rfl
          try simp only [Act.put, List.setIfInBounds_toArray, List.set_cons_zero, List.set_cons_succ]
          refine wpAnyH_take (i := 5) (v := ?_) (iatLS (iatSS (iatSS (iatSS (iatSS (iatSS iatZS)))))) (by kernel_rfl) (by kernel_rfl) (by kernel_rfl) (fun _ _ _ h => h) (Or.inl ⟨by rfl, ?_⟩) (by assumption) ?_
          rotate_left
          · intro w hSw
            try dsimp only at hSw
            go_simp
            all_goals with_reducible rfl
          try simp only [Act.put, List.setIfInBounds_toArray, List.set_cons_zero, List.set_cons_succ]
          refine wpAnyH_take (i := 6) (v := ?_) (iatLS (iatSS (iatSS (iatSS (iatSS (iatSS (iatSS iatZS))))))) (by kernel_rfl) (by kernel_rfl) (by kernel_rfl) (fun _ _ _ h => h) (Or.inl ⟨by rfl, ?_⟩) (by assumption) ?_
          rotate_left
          · intro w hSw
            try dsimp only at hSw
            go_simp
            all_goals with_reducible rfl
          try simp only [Act.put, List.setIfInBounds_toArray, List.set_cons_zero, List.set_cons_succ]
          refine wpAnyH_take (i := 7) (v := ?_) (iatLS (iatSS (iatSS (iatSS (iatSS (iatSS (iatSS (iatSS iatZS)))))))) (by kernel_rfl) (by kernel_rfl) (by kernel_rfl) (fun _ _ _ h => h) (Or.inl ⟨by rfl, ?_⟩) (by assumption) ?_
          rotate_left
          · intro w hSw
            try dsimp only at hSw
            go_simp
            all_goals with_reducible rfl
          try simp only [Act.put, List.setIfInBounds_toArray, List.set_cons_zero, List.set_cons_succ]
          refine wpAnyH_take (i := 8) (v := ?_) (iatLS (iatSS (iatSS (iatSS (iatSS (iatSS (iatSS (iatSS (iatSS iatZS))))))))) (by kernel_rfl) (by kernel_rfl) (by kernel_rfl) (fun _ _ _ h => h) (Or.inl ⟨by rfl, ?_⟩) (by assumption) ?_
          rotate_left
          · intro w hSw
            try dsimp only at hSw
            go_simp
            all_goals with_reducible rfl
          try simp only [Act.put, List.setIfInBounds_toArray, List.set_cons_zero, List.set_cons_succ]
          refine wpAnyH_take (i := 9) (v := ?_) (iatLS (iatSS (iatSS (iatSS (iatSS (iatSS (iatSS (iatSS (iatSS (iatSS iatZS)))))))))) (by kernel_rfl) (by kernel_rfl) (by kernel_rfl) (fun _ _ _ h => h) (Or.inl ⟨by rfl, ?_⟩) (by assumption) ?_
          rotate_left
          · intro w hSw
            try dsimp only at hSw
            go_simp
            all_goals with_reducible rfl
          try simp only [Act.put, List.setIfInBounds_toArray, List.set_cons_zero, List.set_cons_succ]
          refine wpAnyH_take (i := 10) (v := ?_) (iatLS (iatSS (iatSS (iatSS (iatSS (iatSS (iatSS (iatSS (iatSS (iatSS (iatSS iatZS))))))))))) (by kernel_rfl) (by kernel_rfl) (by kernel_rfl) (fun _ _ _ h => h) (Or.inl ⟨by rfl, ?_⟩) (by assumption) ?_
          rotate_left
          · intro w hSw
            try dsimp only at hSw
            go_simp
            all_goals with_reducible rfl
          try simp only [Act.put, List.setIfInBounds_toArray, List.set_cons_zero, List.set_cons_succ]
          refine wpAnyH_take (i := 11) (v := ?_) (iatLS (iatSS (iatSS (iatSS (iatSS (iatSS (iatSS (iatSS (iatSS (iatSS (iatSS (iatSS iatZS)))))))))))) (by kernel_rfl) (by kernel_rfl) (by kernel_rfl) (fun _ _ _ h => h) (Or.inl ⟨by rfl, ?_⟩) (by assumption) ?_
          rotate_left
          · intro w hSw
            try dsimp only at hSw
            go_simp
            all_goals with_reducible rfl
          try simp only [Act.put, List.setIfInBounds_toArray, List.set_cons_zero, List.set_cons_succ]
          refine wpAnyH_take (i := 12) (v := ?_) (iatLS (iatSS (iatSS (iatSS (iatSS (iatSS (iatSS (iatSS (iatSS (iatSS (iatSS (iatSS (iatSS iatZS))))))))))))) (by kernel_rfl) (by kernel_rfl) (by kernel_rfl) (fun _ _ _ h => h) (Or.inl ⟨by rfl, ?_⟩) (by assumption) ?_
          rotate_left
          · intro w hSw
            try dsimp only at hSw
            go_simp
            all_goals with_reducible rfl
          try simp only [Act.put, List.setIfInBounds_toArray, List.set_cons_zero, List.set_cons_succ]
          refine wpAnyH_take (i := 13) (v := ?_) (iatLS (iatSS (iatSS (iatSS (iatSS (iatSS (iatSS (iatSS (iatSS (iatSS (iatSS (iatSS (iatSS (iatSS iatZS)))))))))))))) (by kernel_rfl) (by kernel_rfl) (by kernel_rfl) (fun _ _ _ h => h) (Or.inl ⟨by rfl, ?_⟩) (by assumption) ?_
          rotate_left
          · intro w hSw
            try dsimp only at hSw
            go_simp
            all_goals with_reducible rfl
          try simp only [Act.put, List.setIfInBounds_toArray, List.set_cons_zero, List.set_cons_succ]
          refine wpAnyH_take (i := 14) (v := ?_) (iatLS (iatSS (iatSS (iatSS (iatSS (iatSS (iatSS (iatSS (iatSS (iatSS (iatSS (iatSS (iatSS (iatSS (iatSS iatZS))))))))))))))) (by kernel_rfl) (by kernel_rfl) (by kernel_rfl) (fun _ _ _ h => h) (Or.inl ⟨by rfl, ?_⟩) (by assumption) ?_
          rotate_left
          · intro w hSw
            try dsimp only at hSw
            go_simp
            all_goals with_reducible rfl
          try simp only [Act.put, List.setIfInBounds_toArray, List.set_cons_zero, List.set_cons_succ]
          refine wpAnyH_take (i := 15) (v := ?_) (iatLS (iatSS (iatSS (iatSS (iatSS (iatSS (iatSS (iatSS (iatSS (iatSS (iatSS (iatSS (iatSS (iatSS (iatSS (iatSS iatZS)))))))))))))))) (by kernel_rfl) (by kernel_rfl) (by kernel_rfl) (fun _ _ _ h => h) (Or.inl ⟨by rfl, ?_⟩) (by assumption) ?_
          rotate_left
          · intro w hSw
            try dsimp only at hSw
            go_simp
            all_goals with_reducible rfl
          try simp only [Act.put, List.setIfInBounds_toArray, List.set_cons_zero, List.set_cons_succ]
          refine wpAnyH_ready (rs := [16]) (by kernel_rfl) (by simp) ?_
          refine AllReadyH.cons (iatLS (iatSS (iatSS (iatSS (iatSS (iatSS (iatSS (iatSS (iatSS (iatSS (iatSS (iatSS (iatSS (iatSS (iatSS (iatSS (iatSS iatZS))))))))))))))))) (fun K hK => ?_) AllReadyH.nil
          go_simp
          go_at_call 25
          (with_reducible refine Hc.out.mono ?_)
          rintro e4 V4 ⟨rfl, hb4⟩
          have HS11b : Hid (V4.cell? ⟨bx, 2, none⟩ = some (.slice (some ⟨b1, o1, none⟩) L xac) ∧ V4.cell? ⟨bx + 1, 2, none⟩ = some (.slice (some ⟨b2, o2, none⟩) L yac) ∧ V4.cell? ⟨b1, o1 + k, none⟩ = some (.slice (some ⟨b3, o3, none⟩) SL sc) ∧ V4.cell? ⟨b2, o2 + k, none⟩ = some (.slice (some ⟨b4, o4, none⟩) SL sc2) ∧ V4.cell? ⟨b3, o3 + j, none⟩ = some (.slice d1.a D1 d1.c) ∧ V4.cell? ⟨b4, o4 + j, none⟩ = some (.slice d2.a D2 d2.c)) := Lib.hid ⟨cell_up hb4 HS11.out.1, cell_up hb4 HS11.out.2.1, cell_up hb4 HS11.out.2.2.1, cell_up hb4 HS11.out.2.2.2.1, cell_up hb4 HS11.out.2.2.2.2.1, cell_up hb4 HS11.out.2.2.2.2.2⟩
          have Hb4 := Lib.hid (Hbjd.out.trans (hb4.mono Hbjd.out.size))
          clear hb4
          try dsimp only
          refine hK.out _ _ ?_ (fun hHeld => ?_)
          · exact HS11b.out
          clear hK K
          try simp only [Act.put, List.setIfInBounds_toArray, List.set_cons_zero, List.set_cons_succ]
          refine wpAnyH_take (i := 17) (v := ?_) (iatLS (iatSS (iatSS (iatSS (iatSS (iatSS (iatSS (iatSS (iatSS (iatSS (iatSS (iatSS (iatSS (iatSS (iatSS (iatSS (iatSS (iatSS iatZS)))))))))))))))))) (by kernel_rfl) (by kernel_rfl) (by kernel_rfl) (fun _ _ _ h => h) (Or.inl ⟨by rfl, ?_⟩) (by assumption) ?_
          rotate_left
          · intro w hSw
            try dsimp only at hSw
            go_simp
            all_goals with_reducible rfl
          try simp only [Act.put, List.setIfInBounds_toArray, List.set_cons_zero, List.set_cons_succ]
          refine wpAnyH_done (by kernel_rfl) ?_ _
          cases q3
          · have hF : Hid (R = false) := Lib.hid (Hnj.out (of_decide_eq_false hq3.out))
            have Hb8 := Lib.hid (Hbd.out.trans (Hb4.out.mono Hbd.out.size))
            go_wp2_with (fail)
            exact bodyPost_ret (v := .bool false) (by simp [results, Try.results101, go_sem]; try first | rfl | assumption | omega) rfl ⟨by rw [hF.out], Hb8.out⟩
          · have hde : Hid (d1.l = d2.l) := Lib.hid (of_decide_eq_true hq3.out)
            go_wp2_with (fail)
            exact ⟨⟨j + 1, by omega, by go_num, Lib.hid (by rw [hma.out.1, hma.out.2, HRj.out, hde.out]), Hb4.out⟩, by simp [intOf]; omega⟩
        · obtain rfl : j = SL := by omega
          have hjI : ¬ (j : Int) < (j : Int) := by omega
          have hee : Hid (sd.map (fun d => d.l) = td.map (fun d => d.l)) := Lib.hid (by have := HRj.out; rwa [List.take_of_length_le (by rw [HSL.out]; exact Nat.le_refl _), List.take_of_length_le (by rw [HTL.out]; exact Nat.le_refl _)] at this)
          have Hbj := Lib.hid (Hbe.out.trans (hbj.mono Hbe.out.size))
          clear hbj hbv
          go_wp2_with (fail)
          exact ⟨⟨k + 1, by omega, by go_num, Lib.hid (by rw [hmore.out.1, hmore.out.2, HR.out, hee.out]), Hbj.out⟩, by simp [intOf]; omega⟩
    · obtain rfl : k = L := by omega
      have hkI : ¬ (k : Int) < (k : Int) := by omega
      have hT : Hid (R = true) := Lib.hid (by rw [hRr.out]; exact decide_eq_true (by have := HR.out; rwa [List.take_of_length_le (by rw [HL.out]; exact Nat.le_refl _), List.take_of_length_le (by rw [HM.out]; exact Nat.le_refl _)] at this))
      go_wp2_with (fail)
      exact bodyPost_ret (v := .bool true) (by simp [results, Try.results101, go_sem]; try first | rfl | assumption | omega) rfl ⟨by rw [hT.out], hbw⟩
end Go.Proofs.Ythogiakfbgehnaa

namespace Go.Proofs.Ythogiakfbgehnaa
open Go.RowKit Go.Maps

attribute [local go_sem] Oper.semAt_some

end Go.Proofs.Ythogiakfbgehnaa

namespace Go.Proofs.Ythogiakfbgehnaa
open Go.RowKit Go.Maps

attribute [local go_sem] Oper.semAt_some

end Go.Proofs.Ythogiakfbgehnaa

namespace Go.Proofs.Ythogiakfbgehnaa
open Go.RowKit Go.Maps Go.WideMaps

end Go.Proofs.Ythogiakfbgehnaa

namespace Go.Proofs.Ythogiakfbgehnaa
open Go.RowKit Go.Maps Go.WideMaps


end Go.Proofs.Ythogiakfbgehnaa

namespace Go.Proofs.Ythogiakfbgehnaa
open Go.RowKit Go.Maps Go.WideMaps

end Go.Proofs.Ythogiakfbgehnaa

namespace Go.Proofs.Ythogiakfbgehnaa
open Go.RowKit Go.Maps

attribute [local go_sem] Oper.semAt_some

end Go.Proofs.Ythogiakfbgehnaa

namespace Go.Proofs.Ythogiakfbgehnaa
open Go.RowKit Go.Maps

attribute [local go_sem] Oper.semAt_some


end Go.Proofs.Ythogiakfbgehnaa

