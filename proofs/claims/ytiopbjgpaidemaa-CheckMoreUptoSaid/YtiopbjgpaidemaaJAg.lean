/- Texts joined: Il Bn Bo Bp Bq Br Im. -/
import Derived.Test.YtiopbjgpaidemaaJAf
import Derived.Test.YtiopbjgpaidemaaJAc
import Derived.DeepKeys4
set_option linter.unusedVariables false
set_option linter.unusedSimpArgs false
namespace Go.Proofs.Ytiopbjgpaidemaa
open Go.RowKit Go.Maps

attribute [local go_sem] Oper.semAt_some

set_option maxRecDepth 100000 in
set_option maxHeartbeats 8000000 in
theorem led_any (rs : List RlD) (a : Option Addr) (cap : Nat) (w : World) (hl : Rls w a cap rs) (hf : FitG rs []) (hfew : rs.length ≤ 1000) (hfew2 : (namesR (grP rs)).length ≤ 90000) :
    Calls Try.prog 58 #[.agg #[.slice a rs.length cap]] w (SetQS w (fun s => ∃ r, rs.head? = some r ∧ Lead (grP rs) r.n s)) := by
  have hlm : rs.length ≤ cap ∧ cap ≤ 9223372036854775807 := ⟨hl.le, hl.max⟩
  have hA0 := Blk.new w 24 #[.slice a rs.length cap]
  have hs0 : (w.alloc (.cells #[.slice a rs.length cap] 24)).heap.size = w.heap.size + 1 := by simp
  have hG0 := (GrpAt.new (w.alloc (.cells #[.slice a rs.length cap] 24)) w.heap.size (by rw [hs0]; omega)).kept (World.grownBy_alloc _ (.cells #[.map (some (w.heap.size + 1))] 134) none) (fun g e => by cases e)
  have hB0 := Blk.new ((w.alloc (.cells #[.slice a rs.length cap] 24)).alloc (.map #[] 0)) 134 #[.map (some (w.heap.size + 1))]
  have hA1 := (hA0.alloc (.map #[] 0)).alloc (.cells #[.map (some (w.heap.size + 1))] 134)
  have hb1 : Below w.heap.size w (((w.alloc (.cells #[.slice a rs.length cap] 24)).alloc (.map #[] 0)).alloc (.cells #[.map (some (w.heap.size + 1))] 134)) := (((Below.refl _ w).alloc (Nat.le_refl _) _).alloc (by simp) _).alloc (by simp; omega) _
  rw [hs0] at hG0
  rw [show ((w.alloc (.cells #[.slice a rs.length cap] 24)).alloc (.map #[] 0)).heap.size = w.heap.size + 1 + 1 by simp] at hB0
  have hmm := @run_makeMap Try.prog
  have Hl := Lib.hid hl
  have HG0 : Hid (GrpAt _ w.heap.size (w.heap.size + 1) 0 (rs.take 0) (fun _ => .slice none 0 0)) := Lib.hid hG0
  have Hb1 := Lib.hid hb1
  have HB0 := Lib.hid hB0
  have HA1 := Lib.hid hA1
  have HU : Hid (∀ x, Rchd (rs.head?.toList.map RlD.n) (StepR rs) x → x ∈ rs.head?.toList.map RlD.n ++ namesR (grP rs)) := Lib.hid (fun x h => rchd_names h)
  obtain ⟨Q, hQ⟩ : ∃ Q, Hid (SetQS w (fun s => ∃ r, rs.head? = some r ∧ Lead (grP rs) r.n s) = Q) := ⟨_, Lib.hid rfl⟩
  rw [hQ.out]
  obtain ⟨L, HL⟩ : ∃ L, Hid (rs.length = L) := ⟨_, Lib.hid rfl⟩
  rw [HL.out] at hlm hfew hA0 HG0 HB0 HA1 Hb1 ⊢
  have x0 := HA1.out.cell 0
  have xl := HA1.out.lt
  simp only [List.getElem?_cons_zero] at x0
  obtain ⟨base, hbase⟩ : ∃ q, Hid (w.heap.size = q) := ⟨_, Lib.hid rfl⟩
  have hbW : base ≤ w.heap.size := by rw [hbase.out]; exact Nat.le_refl _
  clear hA0 hs0 hG0 hB0 hA1 hb1 hl
  go_enter Try.func58, Try.ntmps58
  go_wp2_with (fail)
  rw [hbase.out] at HA1 Hb1 HG0 HB0 x0 xl ⊢
  generalize hV : World.alloc (World.alloc (World.alloc w _) _) _ = V at HA1 Hb1 HG0 HB0 x0 xl ⊢
  clear hV
  go_loopw [11] (fun iv wr => ∃ (k n' : Nat) (f' : ByteArray → Value), k ≤ L ∧ iv = .int .i64 (k : Int) ∧ n' ≤ k ∧ Hid (GrpAt wr base (base + 1) n' (rs.take k) f') ∧ Hid (Blk wr base 24 [.slice a L cap]) ∧ Hid (Blk wr (base + 1 + 1) 134 [.map (some (base + 1))]) ∧ Below base w wr) (fun iv _ => L - (intOf iv).toNat)
  case atStart => exact ⟨0, 0, _, Nat.zero_le _, rfl, Nat.le_refl _, HG0, HA1, HB0, Hb1.out⟩
  case round =>
    clear x0 xl HG0 HA1 HB0 Hb1
    obtain ⟨k, n', f', hk, rfl, hn', HG, HA, HB, hbr⟩ := hrel
    have hbr2 := hbr
    rw [← hbase.out] at hbr2
    by_cases hlt : k < L
    · have hkI : (k : Int) < (L : Int) := by omega
      have hkI0 : (0 : Int) ≤ (k : Int) := by omega
      have hkl : k < rs.length := by rw [HL.out]; exact hlt
      obtain ⟨b, off, rfl⟩ := Hl.out.at_ k hkl
      obtain ⟨c0, c1⟩ := (Hl.out.grown hbr2).cell b off rfl k hkl
      have hm : rs[k] ∈ rs := List.getElem_mem hkl
      have hst : Hid (rs.take (k + 1) = rs.take k ++ [rs[k]]) := Lib.hid (by rw [List.take_add_one, List.getElem?_eq_getElem hkl]; rfl)
      obtain ⟨e, he⟩ : ∃ v, Hid (rs[k] = v) := ⟨_, Lib.hid rfl⟩
      rw [he.out] at c0 c1 hm hst
      have hsz := hf.rules e hm
      have hbl := World.block_lt_of_cell? wr _ c0
      have hg1 : Below wr.heap.size wr (wr.alloc (.cells #[.string e.n, .slice e.a e.ds.length e.c] 34)) := (Below.refl _ wr).alloc (Nat.le_refl _) _
      have hBx := Blk.new wr 34 #[.string e.n, .slice e.a e.ds.length e.c]
      have HG1 := Lib.hid (HG.out.below hg1)
      have Hb1 := Lib.hid (hbr.trans (hg1.mono (Nat.le_trans hbW hbr.size)))
      have HA1 := Lib.hid (HA.out.alloc (.cells #[.string e.n, .slice e.a e.ds.length e.c] 34))
      have HB1 := Lib.hid (HB.out.alloc (.cells #[.string e.n, .slice e.a e.ds.length e.c] 34))
      have Hrow : Hid (∀ k2 g2, (f' k2).ownBlock = some g2 → g2 < wr.heap.size) := Lib.hid (fun k2 g2 e2 => (HG.out.lt k2 g2 e2).2)
      have HBx := Lib.hid hBx
      obtain ⟨tb, htb⟩ : ∃ q, Hid (wr.heap.size = q) := ⟨_, Lib.hid rfl⟩
      clear hBx hg1 hbr2 hm
      go_wp2_with (fail)
      rw [htb.out] at HBx Hrow ⊢
      generalize hV : World.alloc wr _ = V1 at HG1 Hb1 HA1 HB1 HBx ⊢
      clear hV c0 c1 hbl
      obtain ⟨ya, yc, ya', yc', W1, W2, hlk, hlk2, hap, hup, hG2, hbW2, hga, hgb, hfx⟩ := (HG1.out.below (Below.refl _ V1).drew).put e hsz (by omega) (by simp; omega) (Nat.le_trans hbW Hb1.out.size)
      obtain ⟨KL, hKL⟩ : ∃ q, Hid ((ofN (rs.take k) e.n).length = q) := ⟨_, Lib.hid rfl⟩
      rw [hKL.out] at hlk hlk2 hap hup hG2 hga hfx
      have hrow : ∀ g2, (Value.slice ya KL yc).ownBlock = some g2 → g2 < tb := fun g2 e2 => Hrow.out e.n g2 (by rw [hfx]; exact e2)
      have hrty : ∀ {g2 t : Nat} {cs : List Value}, Blk V1.drew g2 t cs → 34 ≠ t → some g2 ≠ (Value.slice ya KL yc).ownBlock := fun {g2 t cs} h1 h2 h3 => by
        obtain ⟨xa2, xc2, hf2, ho2⟩ := HG1.out.rows e.n
        rw [hfx, hKL.out] at hf2
        have h4 : (Value.slice xa2 (ofN (rs.take k) e.n).length xc2).ownBlock = some g2 := by rw [hKL.out, ← hf2]; exact h3.symm
        exact own_ne_ty (w := V1) ho2 (show V1.heap[g2]? = _ from h1) h2 h4
      have hwbn : ∀ {V2 : World} {g2 t : Nat} {cs : List Value}, Blk V2 g2 t cs → SlcTS V2 (base + 1) (n' + 1) (fun t => if t = e.n then .slice ya' (KL + 1) yc' else f' t) → g2 ≠ base + 1 := fun {V2 g2 t cs} h1 h2 h3 => by
        obtain ⟨es, kk, h4⟩ := h2.obj
        unfold Blk at h1
        rw [h3, h4] at h1
        cases h1
      have hnw : ∀ {g2 t : Nat} {cs : List Value}, Blk V1 g2 t cs → some g2 ≠ some (base + 1) := fun {g2 t cs} h1 h3 => by
        obtain ⟨es, kk, h4⟩ := HG1.out.wait.obj
        unfold Blk at h1
        injection h3 with h3
        rw [h3, h4] at h1
        cases h1
      have kA : Blk V1.drew base 24 [.slice (some ⟨b, off, none⟩) L cap] := HA1.out
      have kB : Blk V1.drew (base + 1 + 1) 134 [.map (some (base + 1))] := HB1.out
      have kX : Blk V1.drew tb 34 [.string e.n, .slice e.a e.ds.length e.c] := HBx.out
      have kAa := kA.kept hga (hrty kA (by decide))
      have kBa := kB.kept hga (hrty kB (by decide))
      have kXa := kX.kept hga (fun e2 => by have := hrow tb e2.symm; omega)
      have HA2 := Lib.hid (kAa.kept hgb (hnw HA1.out))
      have HB2 := Lib.hid (kBa.kept hgb (hnw HB1.out))
      have kXb := kXa.kept hgb (hnw HBx.out)
      have HS5 : Hid (V1.drew.cell? ⟨base + 1 + 1, 0, none⟩ = some (.map (some (base + 1))) ∧ V1.drew.cell? ⟨tb, 0, none⟩ = some (.string e.n) ∧ V1.drew.cell? ⟨tb, 1, none⟩ = some (.slice e.a e.ds.length e.c)) := Lib.hid ⟨by simpa using kB.cell 0, by simpa using kX.cell 0, by simpa using kX.cell 1⟩
      have HS5a : Hid (∀ o, (V1.drew.alloc o).cell? ⟨base + 1 + 1, 0, none⟩ = some (.map (some (base + 1))) ∧ (V1.drew.alloc o).cell? ⟨tb, 0, none⟩ = some (.string e.n) ∧ (V1.drew.alloc o).cell? ⟨tb, 1, none⟩ = some (.slice e.a e.ds.length e.c)) := Lib.hid (fun o => ⟨by simpa using (kB.alloc o).cell 0, by simpa using (kX.alloc o).cell 0, by simpa using (kX.alloc o).cell 1⟩)
      have HS5b : Hid (W1.cell? ⟨base + 1 + 1, 0, none⟩ = some (.map (some (base + 1))) ∧ W1.cell? ⟨tb, 0, none⟩ = some (.string e.n) ∧ W1.cell? ⟨tb, 1, none⟩ = some (.slice e.a e.ds.length e.c)) := Lib.hid ⟨by simpa using kBa.cell 0, by simpa using kXa.cell 0, by simpa using kXa.cell 1⟩
      have HS5c : Hid (W2.cell? ⟨base + 1 + 1, 0, none⟩ = some (.map (some (base + 1))) ∧ W2.cell? ⟨tb, 0, none⟩ = some (.string e.n) ∧ W2.cell? ⟨tb, 1, none⟩ = some (.slice e.a e.ds.length e.c)) := Lib.hid ⟨by simpa using HB2.out.cell 0, by simpa using kXb.cell 0, by simpa using kXb.cell 1⟩
      have Hap := Lib.hid hap
      have HG2 : Hid (GrpAt W2 base (base + 1) (n' + 1) (rs.take (k + 1)) (fun t => if t = e.n then .slice ya' (KL + 1) yc' else f' t)) := Lib.hid (by rw [hst.out]; exact hG2)
      have Hb2 := Lib.hid ((Hb1.out.drew).trans hbW2)
      obtain ⟨ED, hED⟩ : ∃ q, Hid (e.ds.length = q) := ⟨_, Lib.hid rfl⟩
      rw [hED.out] at hlk2 Hap HS5 HS5a HS5b HS5c
      have hlk3 : (Instr.lookup 134 (.map (some (base + 1))) (.string e.n) false).run Try.prog (V1.alloc (.cells #[.string e.n, .slice e.a ED e.c] 34)).drew = .ok (.slice ya KL yc) (V1.alloc (.cells #[.string e.n, .slice e.a ED e.c] 34)).drew := hlk2
      rw [hED.out]
      clear hlk2 hap hG2 hbW2 hga hgb hfx hrow hrty hwbn hnw kA kB kX kAa kBa kXa kXb
      refine wp_region_held_drew (S := fun w' => (w'.cell? ⟨base + 1 + 1, 0, none⟩ = some (.map (some (base + 1))) ∧ w'.cell? ⟨tb, 0, none⟩ = some (.string e.n) ∧ w'.cell? ⟨tb, 1, none⟩ = some (.slice e.a ED e.c))) (by kernel_rfl) ?_ (fun hHeld => ?_)
      · exact HS5.out
      refine wpAnyH_take (i := 0) (v := ?_) (iatLS iatZS) (by kernel_rfl) (by kernel_rfl) (by kernel_rfl) (fun _ _ _ h => h) (Or.inl ⟨by rfl, ?_⟩) (by assumption) ?_
      rotate_left
      · intro w hSw
        try dsimp only at hSw
        go_simp
        all_goals with_reducible rfl
      try simp only [Act.put, List.setIfInBounds_toArray, List.set_cons_zero, List.set_cons_succ]
      refine wpAnyH_take (i := 1) (v := ?_) (iatLS (iatSS iatZS)) (by kernel_rfl) (by kernel_rfl) (by kernel_rfl) (fun _ _ _ h => h) (Or.inl ⟨by rfl, ?_⟩) (by assumption) ?_
      rotate_left
      · intro w hSw
        try dsimp only at hSw
        go_simp
        all_goals with_reducible rfl
      try simp only [Act.put, List.setIfInBounds_toArray, List.set_cons_zero, List.set_cons_succ]
      refine wpAnyH_take (i := 2) (v := ?_) (iatLS (iatSS (iatSS iatZS))) (by kernel_rfl) (by kernel_rfl) (by kernel_rfl) (fun _ _ _ h => h) (Or.inl ⟨by rfl, ?_⟩) (by assumption) ?_
      rotate_left
      · intro w hSw
        try dsimp only at hSw
        go_simp
        all_goals with_reducible rfl
      try simp only [Act.put, List.setIfInBounds_toArray, List.set_cons_zero, List.set_cons_succ]
      refine wpAnyH_take (i := 3) (v := ?_) (iatLS (iatSS (iatSS (iatSS iatZS)))) (by kernel_rfl) (by kernel_rfl) (by kernel_rfl) (fun _ _ _ h => h) (Or.inl ⟨by rfl, ?_⟩) (by assumption) ?_
      rotate_left
      · intro w hSw
        try dsimp only at hSw
        go_simp
        all_goals with_reducible rfl
      try simp only [Act.put, List.setIfInBounds_toArray, List.set_cons_zero, List.set_cons_succ]
      refine wpAnyH_take (i := 4) (v := ?_) (iatLS (iatSS (iatSS (iatSS (iatSS iatZS))))) (by kernel_rfl) (by kernel_rfl) (by kernel_rfl) (fun _ _ _ h => h) (Or.inl ⟨by rfl, ?_⟩) (by assumption) ?_
      rotate_left
      · intro w hSw
        try dsimp only at hSw
        go_simp
        all_goals with_reducible rfl
      try simp only [Act.put, List.setIfInBounds_toArray, List.set_cons_zero, List.set_cons_succ]
      refine wpAnyH_take (i := 5) (v := ?_) (iatLS (iatSS (iatSS (iatSS (iatSS (iatSS iatZS)))))) (by kernel_rfl) (by kernel_rfl) (by kernel_rfl) (fun _ _ _ h => h) (Or.inl ⟨by rfl, ?_⟩) (by assumption) ?_
      rotate_left
      · intro w hSw
        try dsimp only at hSw
        go_simp
        all_goals with_reducible rfl
      try simp only [Act.put, List.setIfInBounds_toArray, List.set_cons_zero, List.set_cons_succ]
      refine wpAnyH_take (i := 7) (v := ?_) (iatLS (iatSS (iatSS (iatSS (iatSS (iatSS (iatSS (iatSS iatZS)))))))) (by kernel_rfl) (by kernel_rfl) (by kernel_rfl) (fun _ _ _ h => h) (Or.inl ⟨by rfl, ?_⟩) (by assumption) ?_
      rotate_left
      · intro w hSw
        try dsimp only at hSw
        go_simp
        all_goals with_reducible rfl
      try simp only [Act.put, List.setIfInBounds_toArray, List.set_cons_zero, List.set_cons_succ]
      refine wpAnyH_ready (rs := [6, 8]) (by kernel_rfl) (by simp) ?_
      refine AllReadyH.cons (iatLS (iatSS (iatSS (iatSS (iatSS (iatSS (iatSS iatZS))))))) (fun K hK => ?_) (AllReadyH.cons (iatLS (iatSS (iatSS (iatSS (iatSS (iatSS (iatSS (iatSS (iatSS iatZS))))))))) (fun K hK => ?_) (AllReadyH.nil))
      ·
        go_simp
        refine hK.out _ _ ?_ (fun hHeld => ?_)
        · exact HS5.out
        clear hK K
        try simp only [Act.put, List.setIfInBounds_toArray, List.set_cons_zero, List.set_cons_succ]
        refine wpAnyH_ready (rs := [8]) (by kernel_rfl) (by simp) ?_
        refine AllReadyH.cons (iatLS (iatSS (iatSS (iatSS (iatSS (iatSS (iatSS (iatSS (iatSS iatZS))))))))) (fun K hK => ?_) AllReadyH.nil
        go_simp
        refine hK.out _ _ ?_ (fun hHeld => ?_)
        · exact HS5a.out _
        clear hK K
        try simp only [Act.put, List.setIfInBounds_toArray, List.set_cons_zero, List.set_cons_succ]
        refine wpAnyH_ready (rs := [9]) (by kernel_rfl) (by simp) ?_
        refine AllReadyH.cons (iatLS (iatSS (iatSS (iatSS (iatSS (iatSS (iatSS (iatSS (iatSS (iatSS iatZS)))))))))) (fun K hK => ?_) AllReadyH.nil
        refine stepAppS rfl _ _ 22 22 rfl _ _ _ _ rfl rfl Hap.out ?_
        refine hK.out _ _ ?_ (fun hHeld => ?_)
        · exact HS5b.out
        clear hK K
        try simp only [Act.put, List.setIfInBounds_toArray, List.set_cons_zero, List.set_cons_succ]
        refine wpAnyH_ready (rs := [10]) (by kernel_rfl) (by simp) ?_
        refine AllReadyH.cons (iatLS (iatSS (iatSS (iatSS (iatSS (iatSS (iatSS (iatSS (iatSS (iatSS (iatSS iatZS))))))))))) (fun K hK => ?_) AllReadyH.nil
        go_simp
        refine hK.out _ _ ?_ (fun hHeld => ?_)
        · exact HS5c.out
        clear hK K
        try simp only [Act.put, List.setIfInBounds_toArray, List.set_cons_zero, List.set_cons_succ]
        refine wpAnyH_done (by kernel_rfl) ?_ _
        go_wp2_with (fail)
        exact ⟨⟨k + 1, n' + 1, _, by omega, by go_num, by omega, HG2, HA2, HB2, Hb2.out⟩, by simp [intOf]; omega⟩
      ·
        go_simp
        refine hK.out _ _ ?_ (fun hHeld => ?_)
        · exact HS5a.out _
        clear hK K
        try simp only [Act.put, List.setIfInBounds_toArray, List.set_cons_zero, List.set_cons_succ]
        refine wpAnyH_ready (rs := [6]) (by kernel_rfl) (by simp) ?_
        refine AllReadyH.cons (iatLS (iatSS (iatSS (iatSS (iatSS (iatSS (iatSS iatZS))))))) (fun K hK => ?_) AllReadyH.nil
        go_simp
        refine hK.out _ _ ?_ (fun hHeld => ?_)
        · exact HS5a.out _
        clear hK K
        try simp only [Act.put, List.setIfInBounds_toArray, List.set_cons_zero, List.set_cons_succ]
        refine wpAnyH_ready (rs := [9]) (by kernel_rfl) (by simp) ?_
        refine AllReadyH.cons (iatLS (iatSS (iatSS (iatSS (iatSS (iatSS (iatSS (iatSS (iatSS (iatSS iatZS)))))))))) (fun K hK => ?_) AllReadyH.nil
        refine stepAppS rfl _ _ 22 22 rfl _ _ _ _ rfl rfl Hap.out ?_
        refine hK.out _ _ ?_ (fun hHeld => ?_)
        · exact HS5b.out
        clear hK K
        try simp only [Act.put, List.setIfInBounds_toArray, List.set_cons_zero, List.set_cons_succ]
        refine wpAnyH_ready (rs := [10]) (by kernel_rfl) (by simp) ?_
        refine AllReadyH.cons (iatLS (iatSS (iatSS (iatSS (iatSS (iatSS (iatSS (iatSS (iatSS (iatSS (iatSS iatZS))))))))))) (fun K hK => ?_) AllReadyH.nil
        go_simp
        refine hK.out _ _ ?_ (fun hHeld => ?_)
        · exact HS5c.out
        clear hK K
        try simp only [Act.put, List.setIfInBounds_toArray, List.set_cons_zero, List.set_cons_succ]
        refine wpAnyH_done (by kernel_rfl) ?_ _
        go_wp2_with (fail)
        exact ⟨⟨k + 1, n' + 1, _, by omega, by go_num, by omega, HG2, HA2, HB2, Hb2.out⟩, by simp [intOf]; omega⟩
    · obtain rfl : k = L := by omega
      have hkI : ¬ (k : Int) < (k : Int) := by omega
      have x0 := HA.out.cell 0
      have xl := HA.out.lt
      simp only [List.getElem?_cons_zero] at x0
      have HGe : Hid (GrpAt wr base (base + 1) n' rs f') := by
        have := HG.out
        rw [List.take_of_length_le (by rw [HL.out]; exact Nat.le_refl _)] at this
        exact Lib.hid this
      clear HG
      have hK : ∀ (args : Array Value) (w : World), (callFunc 100 args).run Try.prog w = .ok (.enter 100 args) w := fun args w => by kernel_rfl
      have HK := Lib.hid hK
      clear hK
      by_cases hz : k = 0
      · obtain hrs : rs = [] := List.length_eq_zero_iff.1 (by rw [HL.out]; exact hz)
        subst hz
        have hh : Hid (rs.head?.toList.map RlD.n = []) := Lib.hid (by rw [hrs]; rfl)
        have HX := HU.out
        rw [hh.out] at HX
        have Hc := Lib.hid (reach_anyS wr 100 (.pointer (some ⟨base + 1 + 1, 0, none⟩)) [] none 0 (Vs.nil wr) (fun g off e => by cases e) (fun x h => by cases h) (StepR rs) _ HX (by simp; omega) (by simp) HK.out (fun W' n2 a2 c2 F O x hb hxU hxf hO hn2 hR => ledNext_any w wr W' a cap rs [] base (base + 1) n' (base + 1 + 1) n2 f' a2 c2 F O x Hl.out hf HGe.out HB.out hbr2 hb hxf hR hO hn2 (by rw [HL.out]; exact hfew) (by omega)))
        have Hrch : Hid (∀ x, Rchd [] (StepR rs) x ↔ ∃ r, rs.head? = some r ∧ Lead (grP rs) r.n x) := Lib.hid (fun x => by have := rchd_lead (rs := rs) x; rw [hh.out] at this; exact this)
        have Hbr := Lib.hid hbr2
        clear hbr hbr2 HX hrs
        go_wp2_with (fail)
        refine Hc.out.mono ?_
        rintro r w3 hS
        obtain ⟨sb, ns, M, rfl, hs, hns, hM, hlo, hb3⟩ := hS
        have HS := Lib.hid hs
        have HM : Hid (∀ x, M x = true ↔ ∃ r, rs.head? = some r ∧ Lead (grP rs) r.n x) := Lib.hid (fun x => (hM x).trans (Hrch.out x))
        have hb4 := Hbr.out.trans (hb3.mono Hbr.out.size)
        have hlo2 := Nat.le_trans Hbr.out.size hlo
        clear hs hM
        go_wp2_with (fail)
        show Q (.returned (.map (some sb))) w3
        rw [← hQ.out]
        exact ⟨sb, ns, M, rfl, HS.out, hns, HM.out, hlo2, hb4⟩
      · obtain ⟨r0, rr, hrs⟩ : ∃ r0 rr, rs = r0 :: rr := by
          cases rs with
          | nil => exact absurd HL.out (by simp; omega)
          | cons r0 rr => exact ⟨r0, rr, rfl⟩
        have hh : Hid (rs.head?.toList.map RlD.n = [r0.n]) := Lib.hid (by rw [hrs]; rfl)
        have hkp : ((k : Nat) : Int) > 0 := by omega
        have hkl : 0 < rs.length := by rw [HL.out]; omega
        obtain ⟨b, off, rfl⟩ := Hl.out.at_ 0 hkl
        obtain ⟨c0, _⟩ := (Hl.out.grown hbr2).cell b off rfl 0 hkl
        have hr0 : rs[0] = r0 := by simp [hrs]
        have hr0m : r0 ∈ rs := by rw [hrs]; simp
        rw [hr0, Nat.zero_mul, Nat.add_zero] at c0
        have hbl := World.block_lt_of_cell? wr _ c0
        have hr0f := hf.rules r0 hr0m
        have hX := HU.out
        rw [hh.out] at hX
        have HX := Lib.hid hX
        obtain ⟨fa, fc, w2, hrun, hfo, hfg, _⟩ := (OwnKS.nil wr base).push r0.n 25 (by simp) (Nat.le_trans hbW hbr.size)
        have hb2 : Below wr.heap.size wr w2 := belowAt hfg (fun g e => by simp [Value.ownBlock] at e) (Nat.le_refl _)
        have Hc := Lib.hid (reach_anyS w2 100 (.pointer (some ⟨base + 1 + 1, 0, none⟩)) [r0.n] fa fc hfo.vs (fun g off e => by subst e; exact (World.ownsRow.lt hfo g rfl).2) (fun x h => by rw [List.mem_singleton] at h; rw [h]; exact hr0f) (StepR rs) _ HX.out (by simp; omega) (by simp) HK.out (fun W' n2 a2 c2 F O x hb hxU hxf hO hn2 hR => ledNext_any w w2 W' (some ⟨b, off, none⟩) cap rs [] base (base + 1) n' (base + 1 + 1) n2 f' a2 c2 F O x Hl.out hf (HGe.out.below hb2) (HB.out.below hb2 HB.out.lt) (hbr2.trans (hb2.mono hbr2.size)) hb hxf hR hO hn2 (by rw [HL.out]; exact hfew) (by omega)))
        have Hrch : Hid (∀ x, Rchd [r0.n] (StepR rs) x ↔ ∃ r, rs.head? = some r ∧ Lead (grP rs) r.n x) := Lib.hid (fun x => by have := rchd_lead (rs := rs) x; rw [hh.out] at this; exact this)
        have Hbr := Lib.hid (hbr2.trans (hb2.mono hbr2.size))
        have Hrun := Lib.hid hrun
        clear hbr hbr2 hX hrs hr0 hr0m hrun hfo hfg hb2
        obtain ⟨nm, hnm⟩ : ∃ q, Hid (r0.n = q) := ⟨_, Lib.hid rfl⟩
        rw [hnm.out] at c0 Hrun Hc Hrch
        go_wp2_with (at_builtin; refine wpList_append_run rfl _ _ 25 25 rfl _ _ _ _ rfl rfl Hrun.out ?_)
        refine Hc.out.mono ?_
        rintro r w3 hS
        obtain ⟨sb, ns, M, rfl, hs, hns, hM, hlo, hb3⟩ := hS
        have HS := Lib.hid hs
        have HM : Hid (∀ x, M x = true ↔ ∃ r, rs.head? = some r ∧ Lead (grP rs) r.n x) := Lib.hid (fun x => (hM x).trans (Hrch.out x))
        have hb4 := Hbr.out.trans (hb3.mono Hbr.out.size)
        have hlo2 := Nat.le_trans Hbr.out.size hlo
        clear hs hM
        go_wp2_with (fail)
        show Q (.returned (.map (some sb))) w3
        rw [← hQ.out]
        exact ⟨sb, ns, M, rfl, HS.out, hns, HM.out, hlo2, hb4⟩
end Go.Proofs.Ytiopbjgpaidemaa

namespace Go.Proofs.Ytiopbjgpaidemaa
open Go.RowKit Go.Maps Go.WideMaps

theorem fl_law : Keyed Try.prog 31 := Keyed.of_law (deep_law_laid (by kernel_rfl) (m := 2) (by omega) (of_decide_eq_true (by kernel_rfl)) (by kernel_rfl) (by rw [Try.underlying31]))
def flLits (f : Fl) : List Go.Lit := [.int .i64 f.1, .string f.2.data.toList]
def kF (f : Fl) : Go.Lit := .string (keyBytes (flLits f))
theorem fl_cells : Try.prog.cellsOf 31 = 2 := by kernel_rfl
theorem fl_type : Try.prog.keyType 31 = true := by kernel_rfl
theorem fl_pos : ∃ m, Try.prog.types.size = m + 1 := ⟨Try.prog.types.size - 1, by kernel_rfl⟩
theorem str_cell1 : Try.prog.cellsOf 9 = 1 := by kernel_rfl
theorem int_cell1 : Try.prog.cellsOf 3 = 1 := by kernel_rfl
theorem fl_formed (f : Fl) : (Value.agg (flC f).toArray).formed Try.prog 31 = true := by
  simp [Value.formed, Try.underlying31, fl_cells, flC]
theorem lit_int (m : Nat) (x : Int) (h : (Go.Lit.int .i64 x).wf = true) : Try.prog.keyLits (m + 1) 3 [.int .i64 x] = some [.int .i64 x] := by
  unfold Program.keyLits
  rw [Try.underlying3]
  simp [h]
theorem lit_str (m : Nat) (s : ByteArray) (h : s.size ≤ maxLen) : Try.prog.keyLits (m + 1) 9 [.string s] = some [.string s.data.toList] := by
  unfold Program.keyLits
  rw [Try.underlying9]
  simp [h]
theorem fl_lits (m : Nat) (f : Fl) (h1 : (Go.Lit.int .i64 f.1).wf = true) (h2 : f.2.size ≤ maxLen) : Try.prog.keyLits (m + 2) 31 (flC f) = some (flLits f) := by
  unfold Program.keyLits
  rw [Try.underlying31]
  simp [flC, flLits, fl_cells, str_cell1, int_cell1, lit_int m f.1 h1, lit_str m f.2 h2]
theorem keyOf_fl (f : Fl) (h1 : (Go.Lit.int .i64 f.1).wf = true) (h2 : f.2.size ≤ maxLen) : keyOf Try.prog 31 (.agg (flC f).toArray) = some (kF f) := by
  obtain ⟨m, hm⟩ := fl_pos
  unfold keyOf
  rw [Try.underlying31]
  simp only []
  rw [if_pos (by simp [fl_type, fl_formed]), hm]
  simp only [Value.cells]
  rw [fl_lits m f h1 h2]
  rfl
end Go.Proofs.Ytiopbjgpaidemaa

namespace Go.Proofs.Ytiopbjgpaidemaa
open Go.RowKit Go.Maps Go.WideMaps

/-- Flaws that are told by kinds and names that Go can hold. -/
def FitF (f : Fl) : Prop := (Go.Lit.int .i64 f.1).wf = true ∧ f.2.size ≤ maxLen
theorem kF_inj {f g : Fl} (hf : FitF f) (hg : FitF g) (h : kF f = kF g) : f = g := by
  have h1 := keyOf_fl f hf.1 hf.2
  have h2 := keyOf_fl g hg.1 hg.2
  rw [← h] at h2
  have := fl_law.inj h1 h2
  obtain ⟨f1, f2⟩ := f
  obtain ⟨g1, g2⟩ := g
  simp [flC] at this
  obtain ⟨rfl, rfl⟩ := this
  rfl
/-- A set of flaws. -/
def FlT (W : World) (b n : Nat) (m : Fl → Bool) : Prop :=
  ∃ D : DataW Unit, W.ownsMap Try.prog 31 unitElem b n D ∧ IsMap D ∧ ∀ f : Fl, FitF f → has D (kF f) = m f
theorem FlT.kept {W W' : World} {row : Option Nat} {b n : Nat} {m : Fl → Bool} (h : FlT W b n m) (hg : W.grownBy W' row) (hne : some b ≠ row) : FlT W' b n m := by
  obtain ⟨D, h1, h2, h3⟩ := h
  exact ⟨D, h1.kept hg hne, h2, h3⟩
theorem FlT.new (W : World) : FlT (W.alloc (.map #[] 0)) W.heap.size 0 (fun _ => false) :=
  ⟨.map [], World.ownsMap_made _ _ _ _, isMap_empty, fun _ _ => rfl⟩
theorem FlT.mono {W : World} {b n n' : Nat} {m : Fl → Bool} (h : FlT W b n m) (hn : n ≤ n') : FlT W b n' m := by
  obtain ⟨D, h1, h2⟩ := h
  exact ⟨D, h1.mono hn, h2⟩
theorem FlT.congr {W : World} {b n : Nat} {m m' : Fl → Bool} (h : FlT W b n m) (e : ∀ s, m s = m' s) : FlT W b n m' := by
  have : m = m' := funext e
  exact this ▸ h
set_option maxRecDepth 100000 in
theorem FlT.look {W : World} {b n : Nat} {m : Fl → Bool} (h : FlT W b n m) (f : Fl) (hf : FitF f) :
    (Instr.lookup 72 (.map (some b)) (.agg #[.int .i64 f.1, .string f.2]) true).run Try.prog W = .ok (.tuple #[.agg #[], .bool (m f)]) W := by
  obtain ⟨D, h1, h2, h3⟩ := h
  obtain ⟨v, ps, hrun, hv⟩ := h1.look_ok fl_law Try.underlying72 (zero_unit W) unitElem_mk (keyOf_fl f hf.1 hf.2)
  obtain ⟨rfl, _⟩ := unitElem_inv hv
  rw [h3 f hf] at hrun
  exact hrun
set_option maxRecDepth 100000 in
theorem FlT.store {W : World} {b n : Nat} {m : Fl → Bool} (h : FlT W b n m) (f : Fl) (hf : FitF f) (hn : n < maxLen) :
    ∃ W', (Instr.mapUpdate 72 (.map (some b)) (.agg #[.int .i64 f.1, .string f.2]) (.agg #[])).run Try.prog W = .ok () W' ∧ FlT W' b (n + 1) (fun t => decide (t = f) || m t) ∧ W.grownBy W' (some b) := by
  obtain ⟨D, h1, h2, h3⟩ := h
  obtain ⟨W', hrun, ho, hg⟩ := h1.update fl_law Try.underlying72 hn (keyOf_fl f hf.1 hf.2) unitElem_mk
  refine ⟨W', hrun, ⟨_, ho, h2.put _ _, fun t ht => ?_⟩, hg⟩
  by_cases e : t = f
  · subst e
    rw [has_put_same h2 (by simp [WideAt.IsKeyLit, kF])]
    simp
  · rw [has_put_other (fun h => e (kF_inj ht hf h)), h3 t ht]
    simp [e]
set_option maxRecDepth 100000 in
theorem fHas_any (W : World) (b n : Nat) (m : Fl → Bool) (f : Fl) (h : FlT W b n m) (hf : FitF f) :
    Calls Try.prog 96 #[.map (some b), .agg #[.int .i64 f.1, .string f.2]] W fun e W' => e = .returned (.bool (m f)) ∧ W.grownBy W' none := by
  have hg1 : W.grownBy (W.alloc (.cells #[.int .i64 f.1, .string f.2] 31)) none := World.grownBy_alloc _ _ _
  have hrun := (h.kept hg1 (by simp)).look f hf
  have hA := Blk.new W 31 #[.int .i64 f.1, .string f.2]
  have y0 := hA.cell 0
  have y1 := hA.cell 1
  have yl := hA.lt
  simp only [List.getElem?_cons_zero, List.getElem?_cons_succ] at y0 y1
  clear h hA
  obtain ⟨q, hq⟩ : ∃ q, Hid (m f = q) := ⟨_, Lib.hid rfl⟩
  rw [hq.out] at hrun ⊢
  go_enter Try.func96, Try.ntmps96
  go_wp2_with (fail)
  exact bodyPost_ret (v := .bool q) (by simp [results, Try.results96, go_sem]; try rfl) rfl ⟨rfl, grownBy_trans hg1 (World.grownBy_alloc _ _ _) (fun i e => .inl e)⟩
set_option maxRecDepth 100000 in
theorem fAdd_any (W : World) (b n : Nat) (m : Fl → Bool) (f : Fl) (h : FlT W b n m) (hf : FitF f) (hn : n < maxLen) :
    Calls Try.prog 52 #[.map (some b), .agg #[.int .i64 f.1, .string f.2]] W fun e W' => e = .returned (.bool (!m f)) ∧ FlT W' b (n + 1) (fun t => decide (t = f) || m t) ∧ W.grownBy W' (some b) := by
  have hg1 : W.grownBy (W.alloc (.cells #[.int .i64 f.1, .string f.2] 31)) none := World.grownBy_alloc _ _ _
  have h1 := h.kept hg1 (by simp)
  have Hc := Lib.hid (fHas_any _ b n m f h1 hf)
  have H := Lib.hid h1
  have hA := Blk.new W 31 #[.int .i64 f.1, .string f.2]
  have HA := Lib.hid hA
  have y0 := hA.cell 0
  have y1 := hA.cell 1
  have yl := hA.lt
  simp only [List.getElem?_cons_zero, List.getElem?_cons_succ] at y0 y1
  clear h h1 hA
  obtain ⟨q, hq⟩ : ∃ q, Hid (m f = q) := ⟨_, Lib.hid rfl⟩
  rw [hq.out] at Hc ⊢
  go_enter Try.func52, Try.ntmps52
  go_wp2_with (fail)
  refine Hc.out.mono ?_
  rintro e w1 ⟨rfl, hg⟩
  have hg2 := grownBy_trans hg1 hg (fun i e => .inl e)
  have hA1 := HA.out.kept hg (by simp)
  have z0 := hA1.cell 0
  have z1 := hA1.cell 1
  have zl := hA1.lt
  simp only [List.getElem?_cons_zero, List.getElem?_cons_succ] at z0 z1
  clear hA1
  cases q
  case true =>
    go_wp2_with (fail)
    refine bodyPost_ret (v := .bool false) (by simp [results, Try.results52, go_sem]; try rfl) rfl ⟨rfl, ((H.out.kept hg (by simp)).mono (Nat.le_succ n)).congr (fun t => ?_), grownBy_none hg2 _⟩
    by_cases e : t = f
    · subst e; rw [hq.out]; simp
    · simp [e]
  case false =>
    obtain ⟨W', hrun, h1, h2⟩ := (H.out.kept hg (by simp)).store f hf hn
    have H1 := Lib.hid h1
    clear h1
    go_wp2_with (fail)
    exact bodyPost_ret (v := .bool true) (by simp [results, Try.results52, go_sem]; try rfl) rfl ⟨rfl, H1.out, grownBy_trans (grownBy_none hg2 _) h2 (fun i e => .inl e)⟩
end Go.Proofs.Ytiopbjgpaidemaa

namespace Go.Proofs.Ytiopbjgpaidemaa
open Go.RowKit Go.Maps

/-- Where the program keeps what it has told: the list's variable lb, the set's variable sb, the set b. -/
structure TellAt (W : World) (base lb sb b n : Nat) (a : Option Addr) (c : Nat) (L : List Fl) : Prop where
  lbx : Blk W lb 28 [.slice a L.length c]
  sbx : Blk W sb 72 [.map (some b)]
  set : FlT W b n (fun f => memF f L)
  own : OwnF W base a c L
  lo : base ≤ lb ∧ base ≤ sb ∧ base ≤ b
/-- What telling may turn: the set, the list's row, the list's variable. -/
def Tells (W W' : World) (b : Nat) (ob : Option Nat) (lb : Nat) : Prop := ∃ W1 W2, W.grownBy W1 (some b) ∧ W1.grownBy W2 ob ∧ W2.grownBy W' (some lb)
theorem memF_lay (L : List Fl) (f t : Fl) : memF t (layP L f) = (decide (t = f) || memF t L) := by
  rw [Bool.eq_iff_iff]
  simp only [memF_iff, Bool.or_eq_true, decide_eq_true_eq]
  unfold layP
  by_cases e : memF f L = true
  · rw [if_pos e]
    constructor
    · exact .inr
    · rintro (rfl | h)
      · exact memF_iff.1 e
      · exact h
  · rw [if_neg e]
    simp [or_comm]
theorem FlT.obj {W : World} {b n : Nat} {m : Fl → Bool} (h : FlT W b n m) : ∃ es k, W.heap[b]? = some (.map es k) := by
  obtain ⟨D, ⟨es, k, hb, _⟩, _⟩ := h
  exact ⟨es, k, hb⟩
theorem map_ne_blk {W : World} {b g t : Nat} {es : Array MapEntry} {k : Nat} {cs : List Value} (h : W.heap[b]? = some (.map es k)) (hk : Blk W g t cs) : b ≠ g := by
  intro e
  subst e
  unfold Blk at hk
  rw [h] at hk
  cases hk
theorem map_ne_own {W : World} {b base n c e sz : Nat} {a : Option Addr} {xs : List Value} {es : Array MapEntry} {k : Nat} (h : W.heap[b]? = some (.map es k)) (ho : W.ownsRow base e sz (.slice a n c) n xs) : some b ≠ (Value.slice a n c).ownBlock := by
  intro e0
  obtain ⟨_, cur, h2⟩ := own_typ ho b e0.symm
  rw [h] at h2
  cases h2
set_option maxRecDepth 100000 in
set_option maxHeartbeats 2000000 in
theorem tell_any (W : World) (base lb sb b n : Nat) (a : Option Addr) (c : Nat) (L : List Fl) (f : Fl) (h : TellAt W base lb sb b n a c L) (hf : FitF f) (hL : L.length ≤ 1000000) (hn : n ≤ 1000000000) (hbase : base ≤ W.heap.size) :
    Calls Try.prog 51 #[.int .i64 f.1, .string f.2, .pointer (some ⟨sb, 0, none⟩), .pointer (some ⟨lb, 0, none⟩)] W fun e W' => e = .returned (.tuple #[]) ∧ ∃ a' c', TellAt W' base lb sb b (n + 1) a' c' (layP L f) ∧ Tells W W' b (Value.slice a L.length c).ownBlock lb := by
  have hg1 : W.grownBy (W.alloc (.cells #[.int .i64 f.1, .string f.2] 31)) none := World.grownBy_alloc _ _ _
  have hA := Blk.new W 31 #[.int .i64 f.1, .string f.2]
  have Hc := Lib.hid (fAdd_any _ b n _ f (h.set.kept hg1 (by simp)) hf (by unfold maxLen; omega))
  obtain ⟨es, kk, hob⟩ := h.set.obj
  have nl := map_ne_blk hob h.lbx
  have ns := map_ne_blk hob h.sbx
  have no := map_ne_own hob h.own
  have hob1 : (W.alloc (.cells #[.int .i64 f.1, .string f.2] 31)).heap[b]? = some (.map es kk) := (hg1.block b (Array.getElem?_eq_some_iff.1 hob).1 (by simp)).trans hob
  have nA := map_ne_blk hob1 hA
  have s1 := h.sbx.kept hg1 (by simp)
  have l1 := h.lbx.kept hg1 (by simp)
  have o1 : OwnF _ base a c L := World.ownsRow.alloc h.own (.cells #[.int .i64 f.1, .string f.2] 31)
  have hlo := h.lo
  have x0 := s1.cell 0
  have xl := s1.lt
  have y0 := hA.cell 0
  have y1 := hA.cell 1
  have yl := hA.lt
  simp only [List.getElem?_cons_zero, List.getElem?_cons_succ] at x0 y0 y1
  obtain ⟨q, hq⟩ : ∃ q, Hid (memF f L = q) := ⟨_, Lib.hid rfl⟩
  rw [hq.out] at Hc
  have HL1 := Lib.hid l1
  have HS1 := Lib.hid s1
  have HA := Lib.hid hA
  have HO1 := Lib.hid o1
  clear l1 s1 hA o1 h hob hob1
  go_enter Try.func51, Try.ntmps51
  go_wp2_with (fail)
  refine Hc.out.mono ?_
  clear Hc
  rintro e w1 ⟨rfl, hset, hg⟩
  have hg2 := grownBy_trans (grownBy_none hg1 (some b)) hg (fun i e => .inl e)
  have HSet := Lib.hid (hset.congr (fun t => (memF_lay L f t).symm))
  have HL2 := Lib.hid (HL1.out.kept hg (by simp; omega))
  have HS2 := Lib.hid (HS1.out.kept hg (by simp; omega))
  have HA2 := Lib.hid (HA.out.kept hg (by simp; omega))
  have HO2 := Lib.hid (World.ownsRow.kept HO1.out hg (.inr (Ne.symm no)))
  clear hset hg
  cases q
  case true =>
    have hLL : Hid (layP L f = L) := Lib.hid (by unfold layP; rw [hq.out]; rfl)
    go_wp2_with (fail)
    refine bodyPost_end (v := .tuple #[]) (by simp [results, Try.results51, go_sem]; try rfl) rfl ⟨rfl, a, c, ⟨by rw [hLL.out]; exact HL2.out, HS2.out, HSet.out, by rw [hLL.out]; exact HO2.out, hlo⟩, w1, w1, hg2, grownBy_none (below_grownBy (Below.refl _ w1) none) _, grownBy_none (below_grownBy (Below.refl _ w1) none) _⟩
  case false =>
    have hLL : Hid (layP L f = L ++ [f]) := Lib.hid (by unfold layP; rw [hq.out]; rfl)
    obtain ⟨a2, c2, w2, hrun, ho, hg3⟩ := run_pushV w1 28 28 31 _ 2 24 Try.underlying28 info_flaw rfl (by decide) (by decide) [.int .i64 f.1, .string f.2] rfl (by simp [Value.oneCell']) HO2.out (by omega) (Nat.le_trans hbase hg2.size)
    have z0 := HL2.out.cell 0
    have zl := HL2.out.lt
    have y0 := HA2.out.cell 0
    have y1 := HA2.out.cell 1
    have yl := HA2.out.lt
    simp only [List.getElem?_cons_zero, List.getElem?_cons_succ] at z0 y0 y1
    have HL3 := HL2.out.kept hg3 (fun e0 => own_ne_ty HO2.out HL2.out (by decide) e0.symm)
    have HS3 := HS2.out.kept hg3 (fun e0 => own_ne_ty HO2.out HS2.out (by decide) e0.symm)
    have hne : sb ≠ lb := fun e0 => by
      subst e0
      have h1 := HL3
      have h2 := HS3
      unfold Blk at h1 h2
      rw [h1] at h2
      cases h2
    have zl2 := HL3.lt
    have zfz := HL3.frozen 0
    have zf := HL3.cell 0
    simp only [List.getElem?_cons_zero] at zf
    have hg4 := grownBy_set w2 lb 0 (.slice a2 (L.length + 1) c2)
    have hlen : Hid ((L ++ [f]).length = L.length + 1) := Lib.hid (by simp)
    have HT : Hid (TellAt (w2.setCell ⟨lb, 0, none⟩ (.slice a2 (L.length + 1) c2)) base lb sb b (n + 1) a2 c2 (L ++ [f])) := Lib.hid ⟨by
        have := HL3.set 0 (.slice a2 (L.length + 1) c2)
        rw [hlen.out]
        exact this, HS3.setOther hne _, by
        have := (HSet.out.kept hg3 no).kept hg4 (by simpa using nl)
        rw [hLL.out] at this
        exact this, by
        unfold OwnF
        rw [hlen.out, List.flatMap_append]
        exact World.ownsRow.kept ho hg4 (.inr (own_ne_ty ho HL3 (by decide))), hlo⟩
    have Hrun := Lib.hid hrun
    have Hg3 := Lib.hid hg3
    obtain ⟨LL, hLe⟩ : ∃ q, Hid (L.length = q) := ⟨_, Lib.hid rfl⟩
    rw [hLe.out] at Hrun hg4 HT z0 zf
    clear hrun ho hg3 HL3 HS3
    go_wp2_with (at_builtin; refine wpList_append_run rfl _ _ 28 28 rfl _ _ _ _ rfl rfl Hrun.out ?_)
    exact bodyPost_end (v := .tuple #[]) (by simp [results, Try.results51, go_sem]; try rfl) rfl ⟨rfl, a2, c2, by rw [hLL.out]; exact HT.out, w1, w2, hg2, Hg3.out, hg4⟩
end Go.Proofs.Ytiopbjgpaidemaa

namespace Go.Proofs.Ytiopbjgpaidemaa
open Go.RowKit Go.Maps

attribute [local go_sem] Oper.semAt_some

/-- All that lay there stays, but the set, the list's variable, and rows of flaws. -/
structure Told (W W' : World) (b lb : Nat) : Prop where
  os : W'.os = W.os
  tape : W'.tape = W.tape
  output : W'.output = W.output
  size : W.heap.size ≤ W'.heap.size
  block : ∀ i, i < W.heap.size → i ≠ b → i ≠ lb → (∀ cur fr, W.heap[i]? ≠ some (.cells cur 31 fr)) → W'.heap[i]? = W.heap[i]?
theorem Told.refl (W : World) (b lb : Nat) : Told W W b lb := ⟨rfl, rfl, rfl, Nat.le_refl _, fun _ _ _ _ _ => rfl⟩
theorem Told.trans {U V W : World} {b lb : Nat} (h : Told U V b lb) (k : Told V W b lb) : Told U W b lb :=
  ⟨k.os.trans h.os, k.tape.trans h.tape, k.output.trans h.output, Nat.le_trans h.size k.size, fun i hi h1 h2 h3 => by
    have e1 := h.block i hi h1 h2 h3
    exact (k.block i (Nat.lt_of_lt_of_le hi h.size) h1 h2 (fun cur fr => by rw [e1]; exact h3 cur fr)).trans e1⟩
theorem Told.of {U V : World} {b lb : Nat} {row : Option Nat} (h : U.grownBy V row) (hr : ∀ i, row = some i → i = b ∨ i = lb ∨ ∃ cur fr, U.heap[i]? = some (.cells cur 31 fr)) : Told U V b lb :=
  ⟨h.os, h.tape, h.output, h.size, fun i hi h1 h2 h3 => h.block i hi (fun e => by
    rcases hr i e.symm with e1 | e1 | ⟨cur, fr, e1⟩
    · exact h1 e1
    · exact h2 e1
    · exact h3 cur fr e1)⟩
theorem Told.blk {U V : World} {b lb g t : Nat} {cs : List Value} (h : Told U V b lb) (hk : Blk U g t cs) (h1 : g ≠ b) (h2 : g ≠ lb) (h3 : t ≠ 31) : Blk V g t cs := by
  have hk0 := hk
  unfold Blk at hk ⊢
  exact (h.block g hk0.lt h1 h2 (fun cur fr e => by rw [hk] at e; cases e; exact h3 rfl)).trans hk
theorem SetT.told {U V : World} {b lb bk n : Nat} {m : ByteArray → Bool} (hs : SetT U bk n m) (h : Told U V b lb) (h1 : bk ≠ b) (h2 : bk ≠ lb) : SetT V bk n m := by
  obtain ⟨D, ⟨es, k, hb, h4⟩, h3⟩ := hs
  exact ⟨D, ⟨es, k, (h.block bk (Array.getElem?_eq_some_iff.1 hb).1 h1 h2 (fun cur fr e => by rw [hb] at e; cases e)).trans hb, h4⟩, h3⟩
theorem TellAt.none {U V : World} {base lb sb b n c : Nat} {a : Option Addr} {L : List Fl} (h : TellAt U base lb sb b n a c L) (hg : U.grownBy V none) : TellAt V base lb sb b n a c L :=
  ⟨h.lbx.kept hg (by simp), h.sbx.kept hg (by simp), h.set.kept hg (by simp), World.ownsRow.kept h.own hg (by cases e : (Value.slice a L.length c).ownBlock <;> simp), h.lo⟩
theorem Tells.told {U V : World} {base lb sb b n c : Nat} {a : Option Addr} {L : List Fl} (ht : TellAt U base lb sb b n a c L) (h : Tells U V b (Value.slice a L.length c).ownBlock lb) : Told U V b lb := by
  obtain ⟨W1, W2, h1, h2, h3⟩ := h
  obtain ⟨es, kk, hob⟩ := ht.set.obj
  have no := map_ne_own hob ht.own
  have ho := World.ownsRow.kept ht.own h1 (.inr (Ne.symm no))
  exact ((Told.of h1 (fun i e => .inl (by injection e with e; exact e.symm))).trans (Told.of h2 (fun i e => by obtain ⟨_, cur, h4⟩ := own_typ ho i e; exact .inr (.inr ⟨cur, _, h4⟩)))).trans (Told.of h3 (fun i e => .inr (.inl (by injection e with e; exact e.symm))))
theorem Tells.below {U V : World} {base lb sb b n c : Nat} {a : Option Addr} {L : List Fl} (ht : TellAt U base lb sb b n a c L) (h : Tells U V b (Value.slice a L.length c).ownBlock lb) (hB : base ≤ U.heap.size) : Below base U V := by
  obtain ⟨W1, W2, h1, h2, h3⟩ := h
  have hlo := ht.lo
  have b1 := below_at h1 (B := base) (fun i e => by injection e with e; omega) hB
  have b2 := below_at h2 (B := base) (fun i e => (own_typ ht.own i e).1) (Nat.le_trans hB h1.size)
  have b3 := below_at h3 (B := base) (fun i e => by injection e with e; omega) (Nat.le_trans hB (Nat.le_trans h1.size h2.size))
  exact (b1.trans b2).trans b3
/-- Flaws of a kind: the names that are not right. -/
def restM (kd : Int) (m : ByteArray → Bool) (l : List ByteArray) (o : List Fl) : List Fl := l.foldl (fun o n => if (!m n) = true then layP o (kd, n) else o) o
theorem restM_snoc (kd : Int) (m : ByteArray → Bool) (l : List ByteArray) (n : ByteArray) (o : List Fl) : restM kd m (l ++ [n]) o = if (!m n) = true then layP (restM kd m l o) (kd, n) else restM kd m l o := by simp [restM, List.foldl_append]
theorem lay_len (o : List Fl) (f : Fl) : (layP o f).length ≤ o.length + 1 := by
  unfold layP
  split <;> simp
theorem restM_len (kd : Int) (m : ByteArray → Bool) : ∀ (l : List ByteArray) (o : List Fl), (restM kd m l o).length ≤ o.length + l.length
  | [], o => by simp [restM]
  | n :: l, o => by
    have h := restM_len kd m l (if (!m n) = true then layP o (kd, n) else o)
    have e : restM kd m (n :: l) o = restM kd m l (if (!m n) = true then layP o (kd, n) else o) := rfl
    have h2 : (if (!m n) = true then layP o (kd, n) else o).length ≤ o.length + 1 := by
      split
      · exact lay_len o _
      · omega
    rw [e, List.length_cons]
    omega
end Go.Proofs.Ytiopbjgpaidemaa

namespace Go.Proofs.Ytiopbjgpaidemaa
open Go.RowKit Go.Maps

attribute [local go_sem] Oper.semAt_some

/-- The closure that tells a flaw, as a value. -/
abbrev tellV (sb lb : Nat) : Value := .func (.func 51) #[] #[.pointer (some ⟨sb, 0, none⟩), .pointer (some ⟨lb, 0, none⟩)]

set_option maxRecDepth 100000 in
set_option maxHeartbeats 4000000 in
theorem tellOthers_any (w0 W : World) (base lb sb b n : Nat) (a : Option Addr) (c : Nat) (L : List Fl) (rs : List RlD) (ga : Option Addr) (gc : Nat) (gb tb rb nr : Nat) (m : ByteArray → Bool) (kd : Int)
    (h : TellAt W base lb sb b n a c L) (hl : Rls w0 ga gc rs) (h0 : Below w0.heap.size w0 W) (hB : w0.heap.size ≤ base) (hBW : base ≤ W.heap.size)
    (hg : Blk W gb 24 [.slice ga rs.length gc]) (ht : Blk W tb 74 [tellV sb lb]) (hs : SetT W rb nr m) (hrb : rb ≠ b) (htl : tb ≠ lb)
    (hkd : (Go.Lit.int .i64 kd).wf = true) (hfit : ∀ r ∈ rs, r.n.size ≤ maxLen) (hfew : rs.length ≤ 1000) (hL : L.length ≤ 500000) (hn : n ≤ 500000000) :
    Calls Try.prog 56 #[.int .i64 kd, .map (some rb), .pointer (some ⟨gb, 0, none⟩), .pointer (some ⟨tb, 0, none⟩)] W fun e W' => e = .returned (.tuple #[]) ∧ ∃ a' c', TellAt W' base lb sb b (n + rs.length) a' c' (restM kd m (rs.map RlD.n) L) ∧ Told W W' b lb ∧ Below base W W' := by
  have hlm : rs.length ≤ gc ∧ gc ≤ 9223372036854775807 := ⟨hl.le, hl.max⟩
  obtain ⟨es, kk, hob⟩ := h.set.obj
  have htb : tb ≠ b := Ne.symm (map_ne_blk hob ht)
  obtain ⟨es2, kk2, hob2⟩ := hs.obj
  have hrl : rb ≠ lb := map_ne_blk hob2 h.lbx
  obtain ⟨R, hR⟩ : ∃ R : Nat → List Fl, Hid ((fun k => restM kd m ((rs.take k).map RlD.n) L) = R) := ⟨_, Lib.hid rfl⟩
  have hR0 : Hid (R 0 = L) := Lib.hid (by rw [← hR.out]; rfl)
  have hRe : Hid (restM kd m (rs.map RlD.n) L = R rs.length) := Lib.hid (by rw [← hR.out]; show _ = restM kd m ((rs.take rs.length).map RlD.n) L; rw [List.take_length])
  have hRs : Hid (∀ k (hk : k < rs.length), R (k + 1) = if (!m rs[k].n) = true then layP (R k) (kd, rs[k].n) else R k) := Lib.hid (fun k hk => by
    rw [← hR.out]
    show restM kd m ((rs.take (k + 1)).map RlD.n) L = _
    rw [List.take_add_one, List.getElem?_eq_getElem hk, List.map_append]
    show restM kd m ((rs.take k).map RlD.n ++ [rs[k].n]) L = _
    rw [restM_snoc])
  have hRl : Hid (∀ k, k ≤ rs.length → (R k).length ≤ 501000) := Lib.hid (fun k hk => by
    rw [← hR.out]
    have := restM_len kd m ((rs.take k).map RlD.n) L
    have h2 : ((rs.take k).map RlD.n).length ≤ 1000 := by simp; omega
    show (restM kd m ((rs.take k).map RlD.n) L).length ≤ _
    omega)
  rw [hRe.out]
  obtain ⟨Ln, HL⟩ : ∃ L, Hid (rs.length = L) := ⟨_, Lib.hid rfl⟩
  rw [HL.out] at hlm hfew hg hRl ⊢
  have x0 := hg.cell 0
  have xl := hg.lt
  simp only [List.getElem?_cons_zero] at x0
  have HT0 := Lib.hid h
  have HTb := Lib.hid ht
  have HS := Lib.hid hs
  clear h hg ht hs hob hob2 hL
  go_enter Try.func56, Try.ntmps56
  go_wp2_with (fail)
  go_loopw [11] (fun iv wr => ∃ (k n' : Nat) (a' : Option Addr) (c' : Nat), k ≤ Ln ∧ iv = .int .i64 (k : Int) ∧ n' = n + k ∧ Hid (TellAt wr base lb sb b n' a' c' (R k)) ∧ Hid (Told W wr b lb) ∧ Below base W wr) (fun iv _ => Ln - (intOf iv).toNat)
  case atStart => exact ⟨0, n, a, c, Nat.zero_le _, rfl, rfl, Lib.hid (by rw [hR0.out]; exact HT0.out), Lib.hid (Told.refl _ _ _), Below.refl _ _⟩
  case round =>
    obtain ⟨k, n', a', c', hk, rfl, hn', HT, HD, hbr⟩ := hrel
    have Hn' := Lib.hid hn'
    have hnb : n' ≤ 600000000 := by omega
    clear hn'
    by_cases hlt : k < Ln
    · have hkI : (k : Int) < (Ln : Int) := by omega
      have hkI0 : (0 : Int) ≤ (k : Int) := by omega
      have hkl : k < rs.length := by rw [HL.out]; exact hlt
      have hbw := h0.trans (hbr.mono hB)
      obtain ⟨b3, off, rfl⟩ := hl.at_ k hkl
      obtain ⟨c0, c1⟩ := (hl.grown hbw).cell b3 off rfl k hkl
      have hm : rs[k] ∈ rs := List.getElem_mem hkl
      have hst := hRs.out k hkl
      obtain ⟨e, he⟩ : ∃ v, Hid (rs[k] = v) := ⟨_, Lib.hid rfl⟩
      rw [he.out] at c0 c1 hm hst
      have hsz := hfit e hm
      have hbl := World.block_lt_of_cell? wr _ c0
      have hB0 := Blk.new wr 34 #[.string e.n, .slice e.a e.ds.length e.c]
      obtain ⟨M, HM⟩ : ∃ M, Hid (e.ds.length = M) := ⟨_, Lib.hid rfl⟩
      rw [HM.out] at hB0 c1
      obtain ⟨nm, hnm⟩ : ∃ q, Hid (e.n = q) := ⟨_, Lib.hid rfl⟩
      obtain ⟨ea, hea⟩ : ∃ q, Hid (e.a = q) := ⟨_, Lib.hid rfl⟩
      obtain ⟨ec, hec⟩ : ∃ q, Hid (e.c = q) := ⟨_, Lib.hid rfl⟩
      rw [hnm.out] at c0 hB0 hsz hst
      rw [hea.out] at c1 hB0
      rw [hec.out] at c1 hB0
      have hg1 : wr.grownBy (wr.alloc (.cells #[.string nm, .slice ea M ec] 34)) none := World.grownBy_alloc _ _ _
      have hd1 : Told wr (wr.alloc (.cells #[.string nm, .slice ea M ec] 34)) b lb := Told.of hg1 (fun i e => by cases e)
      have y0 := hB0.cell 0
      have yl := hB0.lt
      simp only [List.getElem?_cons_zero] at y0
      have Hc := Lib.hid (sHas_any (wr.alloc (.cells #[.string nm, .slice ea M ec] 34)) rb nr m nm ((HS.out.told HD.out hrb hrl).told hd1 hrb hrl) hsz)
      have HB0 := Lib.hid hB0
      have Hst := Lib.hid hst
      clear hB0 hst hm
      obtain ⟨S, hS⟩ : ∃ S, Hid (m nm = S) := ⟨_, Lib.hid rfl⟩
      rw [hS.out] at Hc Hst
      go_wp2_with (fail)
      refine Hc.out.mono ?_
      rintro r w3 ⟨rfl, hg3⟩
      have hg4 := grownBy_trans hg1 hg3 (fun i e => .inl e)
      have hd4 := HD.out.trans (Told.of hg4 (fun i e => by cases e))
      have hb4 := hbr.trans (below_at hg4 (B := base) (fun i e => by cases e) (Nat.le_trans hBW hbr.size))
      have hT4 := HT.out.none hg4
      have hZ := HB0.out.kept hg3 (by simp)
      have z0 := hZ.cell 0
      have zl := hZ.lt
      have hV := hd4.blk HTb.out htb htl (by decide)
      have v0 := hV.cell 0
      have vl := hV.lt
      simp only [List.getElem?_cons_zero] at z0 v0
      have Hcl := Lib.hid (tell_any w3 base lb sb b n' a' c' (R k) (kd, nm) hT4 ⟨hkd, hsz⟩ (by have := hRl.out k (by omega); omega) (by omega) (Nat.le_trans hBW hb4.size))
      have HT4 := Lib.hid hT4
      have HD4 := Lib.hid hd4
      clear hZ hV hT4 hd4 hg4 hg3
      cases S
      · go_wp2_with (fail)
        refine Hcl.out.mono ?_
        rintro r w5 ⟨rfl, a5, c5, hT5, hTl⟩
        have HD5 := Lib.hid (HD4.out.trans (Tells.told HT4.out hTl))
        have hb5 := hb4.trans (Tells.below HT4.out hTl (Nat.le_trans hBW hb4.size))
        have HT5 := Lib.hid hT5
        clear hT5 hTl
        go_wp2_with (fail)
        exact ⟨⟨k + 1, n' + 1, a5, c5, by omega, by go_num, by rw [Hn'.out]; omega, Lib.hid (by rw [Hst.out]; exact HT5.out), HD5, hb5⟩, by simp [intOf]; omega⟩
      · go_wp2_with (fail)
        exact ⟨⟨k + 1, n' + 1, a', c', by omega, by go_num, by rw [Hn'.out]; omega, Lib.hid (by rw [Hst.out]; exact ⟨HT4.out.lbx, HT4.out.sbx, HT4.out.set.mono (Nat.le_succ _), HT4.out.own, HT4.out.lo⟩), HD4, hb4⟩, by simp [intOf]; omega⟩
    · obtain rfl : k = Ln := by omega
      have hkI : ¬ (k : Int) < (k : Int) := by omega
      go_wp2_with (fail)
      exact bodyPost_end (v := .tuple #[]) (by simp [results, Try.results56, go_sem]; try rfl) rfl ⟨rfl, ⟨a', c', by rw [← Hn'.out]; exact HT.out⟩, HD.out, hbr⟩
end Go.Proofs.Ytiopbjgpaidemaa

namespace Go.Proofs.Ytiopbjgpaidemaa
open Go.RowKit Go.Maps

noncomputable def fertM (rs : List RlD) (ts : List ByteArray) (s : ByteArray) : Bool := @decide (Fert (grP rs) ts s) (Classical.propDecidable _)
noncomputable def nearM (rs : List RlD) (s : ByteArray) : Bool := @decide (∃ r, rs.head? = some r ∧ Lead (grP rs) r.n s) (Classical.propDecidable _)
theorem fertM_iff (rs : List RlD) (ts : List ByteArray) (s : ByteArray) : fertM rs ts s = true ↔ Fert (grP rs) ts s := by unfold fertM; exact @decide_eq_true_iff _ (Classical.propDecidable _)
theorem nearM_iff (rs : List RlD) (s : ByteArray) : nearM rs s = true ↔ ∃ r, rs.head? = some r ∧ Lead (grP rs) r.n s := by unfold nearM; exact @decide_eq_true_iff _ (Classical.propDecidable _)
/-- All flaws of a grammar. -/
noncomputable def FLW (rs : List RlD) (ts : List ByteArray) : List Fl :=
  restM 4 (nearM rs) (rs.map RlD.n) (restM 3 (fertM rs ts) (rs.map RlD.n) (unkP ts (rs.map RlD.n) (grP rs) (dblN ts (rs.map RlD.n) rs.length)))
theorem rest_M (kd : Int) (good : List ByteArray) (m : ByteArray → Bool) (h : ∀ s, mem s good = m s) (l : List ByteArray) (o : List Fl) : restP kd good l o = restM kd m l o := by
  unfold restP restM
  congr 1
  funext o n
  unfold restS
  rw [h]
theorem flawsP_is {rs : List RlD} {ts o : List ByteArray} (h : LedR rs o) : flawsP (grP rs) ts (fertN (grP rs) ts rs.length) o = FLW rs ts := by
  have e : (grP rs).map Prod.fst = rs.map RlD.n := by simp [grP, RlD.p]
  have hl : (grP rs).length = rs.length := by simp [grP]
  have h1 : ∀ s, mem s (fertN (grP rs) ts rs.length) = fertM rs ts s := fun s => by
    rw [Bool.eq_iff_iff, fertM_iff, ← hl]
    exact fertN_is (grP rs) ts s
  have h2 : ∀ s, mem s o = nearM rs s := fun s => by
    rw [Bool.eq_iff_iff, nearM_iff]
    exact ledR_is h s
  unfold flawsP FLW
  rw [e, rest_M 3 _ _ h1, rest_M 4 _ _ h2, List.length_map]
theorem unkAs_flat (ts names : List ByteArray) : ∀ (ds : List AltD) (o : List Fl), unkAs ts names (ds.map AltD.l) o = unkA ts names (flat ds) o
  | [], o => rfl
  | d :: ds, o => by
    have h : unkAs ts names ((d :: ds).map AltD.l) o = unkAs ts names (ds.map AltD.l) (unkA ts names d.l o) := rfl
    have h2 : flat (d :: ds) = d.l ++ flat ds := by simp [flat]
    rw [h, unkAs_flat ts names ds, h2]
    unfold unkA
    rw [List.foldl_append]
/-- What Flaws keeps while it tells. -/
structure FlSt (w wr : World) (base : Nat) (ga : Option Addr) (L gc n : Nat) (a : Option Addr) (c : Nat) (F : List Fl) (kn : Nat) (km : ByteArray → Bool) : Prop where
  tell : TellAt wr base (base + 1) (base + 1 + 1 + 1) (base + 1 + 1) n a c F
  gbx : Blk wr base 24 [.slice ga L gc]
  tbx : Blk wr (base + 1 + 1 + 1 + 1) 74 [tellV (base + 1 + 1 + 1) (base + 1)]
  knw : SetT wr (base + 1 + 1 + 1 + 1 + 1) kn km
  blw : Below base w wr
  len : F.length ≤ n
section
variable {w wr V : World} {base L gc n c kn : Nat} {ga a : Option Addr} {F : List Fl} {km : ByteArray → Bool}
theorem FlSt.kept0 (h : FlSt w wr base ga L gc n a c F kn km) (hg : wr.grownBy V none) (hB : base ≤ wr.heap.size) : FlSt w V base ga L gc n a c F kn km :=
  ⟨h.tell.none hg, h.gbx.kept hg (by simp), h.tbx.kept hg (by simp), h.knw.kept hg (by simp), h.blw.trans (belowAt hg (fun i e => by cases e) hB), h.len⟩
theorem FlSt.below (h : FlSt w wr base ga L gc n a c F kn km) (hb : Below wr.heap.size wr V) (hB : base ≤ wr.heap.size) : FlSt w V base ga L gc n a c F kn km := h.kept0 (below_grownBy hb none) hB
theorem FlSt.know (h : FlSt w wr base ga L gc n a c F kn km) {kn' : Nat} {km' : ByteArray → Bool} (hs : SetT V (base + 1 + 1 + 1 + 1 + 1) kn' km') (hg : wr.grownBy V (some (base + 1 + 1 + 1 + 1 + 1))) (hB : base ≤ wr.heap.size) : FlSt w V base ga L gc n a c F kn' km' := by
  have ne : ∀ {i : Nat}, i < base + 1 + 1 + 1 + 1 + 1 → some i ≠ some (base + 1 + 1 + 1 + 1 + 1) := fun {i} h e => by injection e; omega
  obtain ⟨es, k, hk⟩ := h.knw.obj
  refine ⟨⟨h.tell.lbx.kept hg (ne (by omega)), h.tell.sbx.kept hg (ne (by omega)), h.tell.set.kept hg (ne (by omega)), World.ownsRow.kept h.tell.own hg (.inr (Ne.symm (map_ne_own hk h.tell.own))), h.tell.lo⟩, h.gbx.kept hg (ne (by omega)), h.tbx.kept hg (ne (by omega)), hs, h.blw.trans (belowAt hg (fun i e => by injection e; omega) hB), h.len⟩
theorem FlSt.toldM (h : FlSt w wr base ga L gc n a c F kn km) {n' c' : Nat} {a' : Option Addr} {F' : List Fl} (ht : TellAt V base (base + 1) (base + 1 + 1 + 1) (base + 1 + 1) n' a' c' F') (hd : Told wr V (base + 1 + 1) (base + 1)) (hb : Below base wr V) (hl : F'.length ≤ n') : FlSt w V base ga L gc n' a' c' F' kn km :=
  ⟨ht, hd.blk h.gbx (by omega) (by omega) (by decide), hd.blk h.tbx (by omega) (by omega) (by decide), h.knw.told hd (by omega) (by omega), h.blw.trans hb, hl⟩
theorem FlSt.told (h : FlSt w wr base ga L gc n a c F kn km) {c' : Nat} {a' : Option Addr} {f : Fl} (ht : TellAt V base (base + 1) (base + 1 + 1 + 1) (base + 1 + 1) (n + 1) a' c' (layP F f)) (hd : Tells wr V (base + 1 + 1) (Value.slice a F.length c).ownBlock (base + 1)) (hB : base ≤ wr.heap.size) : FlSt w V base ga L gc (n + 1) a' c' (layP F f) kn km :=
  h.toldM ht (Tells.told h.tell hd) (Tells.below h.tell hd hB) (by have := lay_len F f; have := h.len; omega)
end
theorem FlSt.new (w : World) (ga : Option Addr) (L gc : Nat) : FlSt w ((((((w.alloc (.cells #[.slice ga L gc] 24)).alloc (.cells #[.slice none 0 0] 28)).alloc (.map #[] 0)).alloc (.cells #[.map (some (w.heap.size + 1 + 1))] 72)).alloc (.cells #[tellV (w.heap.size + 1 + 1 + 1) (w.heap.size + 1)] 74)).alloc (.map #[] 0)) w.heap.size ga L gc 0 none 0 [] 0 (fun _ => false) := by
  have s1 : (w.alloc (.cells #[.slice ga L gc] 24)).heap.size = w.heap.size + 1 := by simp
  obtain ⟨w1, hw1⟩ : ∃ q, q = w.alloc (.cells #[.slice ga L gc] 24) := ⟨_, rfl⟩
  have g1 := Blk.new w 24 #[.slice ga L gc]
  have b1 : Below w.heap.size w (w.alloc (.cells #[.slice ga L gc] 24)) := (Below.refl _ w).alloc (Nat.le_refl _) _
  rw [← hw1] at s1 g1 b1 ⊢
  have s2 : (w1.alloc (.cells #[.slice none 0 0] 28)).heap.size = w.heap.size + 1 + 1 := by simp [s1]
  have l2 := Blk.new w1 28 #[.slice none 0 0]
  have g2 := g1.alloc (.cells #[.slice none 0 0] 28)
  have b2 := b1.alloc (by omega) (.cells #[.slice none 0 0] 28)
  obtain ⟨w2, hw2⟩ : ∃ q, q = w1.alloc (.cells #[.slice none 0 0] 28) := ⟨_, rfl⟩
  rw [s1] at l2
  rw [← hw2] at s2 l2 g2 b2 ⊢
  have s3 : (w2.alloc (.map #[] 0)).heap.size = w.heap.size + 1 + 1 + 1 := by simp [s2]
  have m3 := FlT.new w2
  have l3 := l2.alloc (.map #[] 0)
  have g3 := g2.alloc (.map #[] 0)
  have b3 := b2.alloc (by omega) (.map #[] 0)
  obtain ⟨w3, hw3⟩ : ∃ q, q = w2.alloc (.map #[] 0) := ⟨_, rfl⟩
  rw [s2] at m3
  rw [← hw3] at s3 m3 l3 g3 b3 ⊢
  have s4 : (w3.alloc (.cells #[.map (some (w.heap.size + 1 + 1))] 72)).heap.size = w.heap.size + 1 + 1 + 1 + 1 := by simp [s3]
  have t4 := Blk.new w3 72 #[.map (some (w.heap.size + 1 + 1))]
  have m4 := m3.kept (World.grownBy_alloc w3 (.cells #[.map (some (w.heap.size + 1 + 1))] 72) none) (by simp)
  have l4 := l3.alloc (.cells #[.map (some (w.heap.size + 1 + 1))] 72)
  have g4 := g3.alloc (.cells #[.map (some (w.heap.size + 1 + 1))] 72)
  have b4 := b3.alloc (by omega) (.cells #[.map (some (w.heap.size + 1 + 1))] 72)
  obtain ⟨w4, hw4⟩ : ∃ q, q = w3.alloc (.cells #[.map (some (w.heap.size + 1 + 1))] 72) := ⟨_, rfl⟩
  rw [s3] at t4
  rw [← hw4] at s4 t4 m4 l4 g4 b4 ⊢
  have s5 : (w4.alloc (.cells #[tellV (w.heap.size + 1 + 1 + 1) (w.heap.size + 1)] 74)).heap.size = w.heap.size + 1 + 1 + 1 + 1 + 1 := by simp [s4]
  have f5 := Blk.new w4 74 #[tellV (w.heap.size + 1 + 1 + 1) (w.heap.size + 1)]
  have m5 := m4.kept (World.grownBy_alloc w4 (.cells #[tellV (w.heap.size + 1 + 1 + 1) (w.heap.size + 1)] 74) none) (by simp)
  have t5 := t4.alloc (.cells #[tellV (w.heap.size + 1 + 1 + 1) (w.heap.size + 1)] 74)
  have l5 := l4.alloc (.cells #[tellV (w.heap.size + 1 + 1 + 1) (w.heap.size + 1)] 74)
  have g5 := g4.alloc (.cells #[tellV (w.heap.size + 1 + 1 + 1) (w.heap.size + 1)] 74)
  have b5 := b4.alloc (by omega) (.cells #[tellV (w.heap.size + 1 + 1 + 1) (w.heap.size + 1)] 74)
  obtain ⟨w5, hw5⟩ : ∃ q, q = w4.alloc (.cells #[tellV (w.heap.size + 1 + 1 + 1) (w.heap.size + 1)] 74) := ⟨_, rfl⟩
  rw [s4] at f5
  rw [← hw5] at s5 f5 m5 t5 l5 g5 b5 ⊢
  have k6 := SetT.new w5
  rw [s5] at k6
  exact ⟨⟨l5.alloc _, t5.alloc _, (m5.kept (World.grownBy_alloc w5 _ none) (by simp)).congr (fun f => rfl), World.ownsRow_nil _ _ _ 2, by omega⟩, g5.alloc _, f5.alloc _, k6, b5.alloc (by omega) _, Nat.le_refl _⟩
end Go.Proofs.Ytiopbjgpaidemaa

