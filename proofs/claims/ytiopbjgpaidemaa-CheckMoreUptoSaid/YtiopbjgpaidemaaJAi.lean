/- Texts joined: Iq Bv Bw Bx. -/
import Derived.Test.YtiopbjgpaidemaaJAh
import Derived.Test.YtiopbjgpaidemaaJAc
import Derived.Lib.SliceRun
set_option linter.unusedVariables false
set_option linter.unusedSimpArgs false
namespace Go.Proofs.Ytiopbjgpaidemaa
open Go.RowKit

attribute [local go_sem] Oper.semAt_some

theorem info_rowS : (Try.prog.info? 25).map (fun i => (i.zero, i.size, i.bytes)) = some (some (.slice none 0 0), 1, 24) := by kernel_rfl
theorem info_elS : (Try.prog.info? 9).map (fun i => (i.zero, i.size, i.bytes)) = some (some (.string ⟨#[]⟩), 1, 16) := by kernel_rfl
/-- What exchange leaves. -/
def ExQS (w : World) (n : Nat) (L : List (List ByteArray)) (e : Ending) (w' : World) : Prop := ∃ a' c' ds', e = .returned (.slice a' n c') ∧ OwnXS w' w.heap.size a' c' ds' ∧ ds'.map (fun d => d.l) = L ∧ Below w.heap.size w w'

set_option maxRecDepth 100000 in
set_option maxHeartbeats 8000000 in
theorem exchS_any (ds : List IltD) (a : Option Addr) (cap : Nat) (w : World) (hl : AltsI w a cap ds) (K : FuncId) (cp : Value) (hK : ∀ (args : Array Value) (w : World), (callFunc K args).run Try.prog w = .ok (.enter K args) w) (g : Int → ByteArray)
    (Hof : ∀ (W' : World) (x : Int), Below w.heap.size w W' → (∃ d ∈ ds, x ∈ d.l) → Calls Try.prog K #[.int .i64 x, cp] W' fun e w'' => e = .returned (.string (g x)) ∧ Below W'.heap.size W' w'') (hfew : ds.length ≤ 1000000) (hfew2 : ∀ d ∈ ds, d.l.length ≤ 1000000) :
    Calls Try.prog 121 #[.slice a ds.length cap, .func (.func K) #[] #[cp]] w (ExQS w ds.length (ds.map (fun d => d.l.map g))) := by
  have hlm : ds.length ≤ cap ∧ cap ≤ 9223372036854775807 := ⟨by have := hl.row.le; rwa [List.length_map] at this, hl.row.max⟩
  obtain ⟨iO, hiO, hzO, hsO, hbO⟩ := info_parts info_rowS
  obtain ⟨iE, hiE, hzE, hsE, hbE⟩ := info_parts info_elS
  obtain ⟨Q, hQ⟩ : ∃ Q, Hid (ExQS w ds.length (ds.map (fun d => d.l.map g)) = Q) := ⟨_, Lib.hid rfl⟩
  rw [hQ.out]
  have Hmk := Lib.hid (fun (W : World) (n : Nat) (hn : n ≤ 1000000) (base : Nat) (hb : base ≤ W.heap.size) => run_makeSlice_full (P := Try.prog) (w := W) base 25 9 iE (.string ⟨#[]⟩) 1 Try.underlying25 hiE hzE hsE .i64 .i64 n (by omega) (by rw [hbE]; omega) (by unfold maxLen; omega) hb)
  obtain ⟨w1, hrun1, ho1, hg1⟩ := run_makeSlice_full (P := Try.prog) (w := w) w.heap.size 32 25 iO (.slice none 0 0) 1 Try.underlying32 hiO hzO hsO .i64 .i64 ds.length (by omega) (by rw [hbO]; omega) (by unfold maxLen; omega) (Nat.le_refl _)
  rw [made_fill _ rfl] at ho1
  obtain ⟨L, HL⟩ : ∃ L, Hid (ds.length = L) := ⟨_, Lib.hid rfl⟩
  rw [HL.out] at hlm hfew hrun1 ho1 ⊢
  have hb1 := belowAt hg1 (B := w.heap.size) (fun i e => by cases e) (Nat.le_refl _)
  have Hl := Lib.hid hl
  have HO1 := Lib.hid ho1
  have Hb1 := Lib.hid hb1
  obtain ⟨base, hbase⟩ : ∃ q, Hid (w.heap.size = q) := ⟨_, Lib.hid rfl⟩
  have hbW : base ≤ w.heap.size := by rw [hbase.out]; exact Nat.le_refl _
  rw [hbase.out] at hrun1 HO1 Hb1 Hof
  have HOf := Lib.hid Hof
  clear hl ho1 hg1 hb1 Hof hiO hzO hsO hbO hiE hzE hsE hbE
  go_enter Try.func121, Try.ntmps121
  go_wp2_with (fail)
  go_loopw [15] (fun iv wr => ∃ (i : Nat) (dn : List AltD), i ≤ L ∧ iv = .int .i64 (i : Int) ∧ Hid (dn.map (fun d => d.l) = (ds.take i).map (fun d => d.l.map g)) ∧ Hid (dn.length = i) ∧
    Hid (wr.ownsRow base 25 1 (.slice (some ⟨base, 0, none⟩) L L) L (dn.map AltD.v ++ List.replicate (L - i) (.slice none 0 0))) ∧ Hid (∀ d ∈ dn, wr.ownsRow base 9 1 (.slice d.a d.l.length d.c) d.l.length (d.l.map (Value.string))) ∧ Below base w wr) (fun iv _ => L - (intOf iv).toNat)
  case atStart => exact ⟨0, [], Nat.zero_le _, rfl, Lib.hid rfl, Lib.hid rfl, HO1, Lib.hid (fun d h => by cases h), Hb1.out⟩
  case round =>
    clear HO1 Hb1
    obtain ⟨i, dn, hi, rfl, hdn, hdl, HO, HD, hbr⟩ := hrel
    have hbr2 := hbr
    rw [← hbase.out] at hbr2
    by_cases hlt : i < L
    · have hiI : (i : Int) < (L : Int) := by omega
      have hiI0 : (0 : Int) ≤ (i : Int) := by omega
      have hil : i < ds.length := by rw [HL.out]; exact hlt
      have hrow := (Hl.out.grown hbr2).row
      obtain ⟨b, off, ha⟩ := hrow.at_ i (by rw [List.length_map]; exact hil)
      have c0 := hrow.cell b off ha i (by rw [List.length_map]; exact hil)
      rw [List.getElem_map] at c0
      have hm : ds[i] ∈ ds := List.getElem_mem hil
      have hst : Hid ((ds.take (i + 1)).map (fun d => d.l.map g) = (ds.take i).map (fun d => d.l.map g) ++ [ds[i].l.map g]) := Lib.hid (by rw [List.take_add_one, List.getElem?_eq_getElem hil, List.map_append]; rfl)
      obtain ⟨d, hd⟩ : ∃ v, Hid (ds[i] = v) := ⟨_, Lib.hid rfl⟩
      rw [hd.out] at c0 hm hst
      change _ = some (Value.slice d.a d.l.length d.c) at c0
      have hnd := Hl.out.nms d hm
      have hmd := hm
      have hbl := World.block_lt_of_cell? _ _ c0
      have hdle := hfew2 d hm
      have hdm : d.l.length ≤ d.c ∧ d.c ≤ 9223372036854775807 := ⟨by have := hnd.le; rwa [List.length_map] at this, hnd.max⟩
      obtain ⟨w2, hrun2, ho2, hg2⟩ := Hmk.out wr d.l.length hdle base (Nat.le_trans hbW hbr.size)
      rw [made_fill _ rfl] at ho2
      -- the row is put into its place
      have hO2 := World.ownsRow.kept HO.out hg2 (by cases e : (Value.slice (some ⟨base, 0, none⟩) L L).ownBlock <;> simp)
      have z0 := hO2.cellAt i (by omega)
      have zf := own_frz (j := i) hO2
      have zl : base < w2.heap.size := (World.ownsRow.lt hO2 base rfl).2
      have hbi : base < wr.heap.size := (World.ownsRow.lt HO.out base rfl).2
      obtain ⟨hO3, hg3⟩ := hO2.stored i (.slice (some ⟨wr.heap.size, 0, none⟩) d.l.length d.l.length)
      rw [List.getElem?_append_right (by rw [List.length_map, hdl.out]; exact Nat.le_refl _), List.length_map, hdl.out, Nat.sub_self, List.getElem?_replicate, if_pos (by omega)] at z0
      rw [set_fill _ _ _ L i (by rw [List.length_map, hdl.out]) hlt] at hO3
      have hne : (Value.slice (some ⟨wr.heap.size, 0, none⟩) d.l.length d.l.length).ownBlock ≠ some base := own_ne_ty ho2 (own_typ hO2 base rfl).2.choose_spec (by decide)
      have ho3 := World.ownsRow.kept ho2 hg3 (.inr hne)
      have hD3 : ∀ e ∈ dn, (w2.setCell ⟨base, i, none⟩ (.slice (some ⟨wr.heap.size, 0, none⟩) d.l.length d.l.length)).ownsRow base 9 1 (.slice e.a e.l.length e.c) e.l.length (e.l.map (Value.string)) ∧ (Value.slice e.a e.l.length e.c).ownBlock ≠ some wr.heap.size := fun e he => by
        have h1 := World.ownsRow.kept (HD.out e he) hg2 (by cases e : (Value.slice e.a e.l.length e.c).ownBlock <;> simp)
        have h2 := own_ne_ty h1 (own_typ hO2 base rfl).2.choose_spec (by decide)
        refine ⟨World.ownsRow.kept h1 hg3 (.inr h2), fun e2 => ?_⟩
        have := (World.ownsRow.lt (HD.out e he) _ e2).2
        omega
      have hb3 := (hbr.trans (belowAt hg2 (B := base) (fun i e => by cases e) (Nat.le_trans hbW hbr.size))).trans (belowAt hg3 (B := base) (fun i e => by injection e with e; omega) (Nat.le_trans hbW (Nat.le_trans hbr.size hg2.size)))
      have HO3 := Lib.hid hO3
      have HR3 := Lib.hid ho3
      have HD3 := Lib.hid hD3
      have Hb3 := Lib.hid hb3
      have Hnd := Lib.hid hnd
      obtain ⟨M, hM⟩ : ∃ q, Hid (d.l.length = q) := ⟨_, Lib.hid rfl⟩
      rw [hM.out] at c0 hdle hdm hrun2 HO3 HR3 HD3 Hb3 hg3
      obtain ⟨ib, hib⟩ : ∃ q, Hid (wr.heap.size = q) := ⟨_, Lib.hid rfl⟩
      rw [hib.out] at hrun2 HO3 HR3 HD3 Hb3 hbi
      have Hha := Lib.hid ha
      subst ha
      clear hrow hnd hm ho2 hg2 hO2 hO3 hg3 hne ho3 hD3 hb3 hbr2
      go_wp2_with (fail)
      generalize hV : World.setCell w2 _ _ = V at HO3 HR3 HD3 Hb3 ⊢
      clear hV z0 zf zl c0 hbl
      go_loopw [28] (fun jv wv => ∃ (j : Nat), j ≤ M ∧ jv = .int .i64 (j : Int) ∧ Hid (wv.ownsRow base 9 1 (.slice (some ⟨ib, 0, none⟩) M M) M (((d.l.take j).map g).map (Value.string) ++ List.replicate (M - j) (.string ⟨#[]⟩))) ∧ Hid (V.grownBy wv (some ib))) (fun jv _ => M - (intOf jv).toNat)
      case atStart => exact ⟨0, Nat.zero_le _, rfl, HR3, Lib.hid (below_grownBy (Below.refl _ _) _)⟩
      case round =>
        obtain ⟨j, hj, rfl, HR, HG⟩ := hrel
        clear HR3
        have hibB : base ≤ ib := (World.ownsRow.lt HR.out ib rfl).1
        have hVb := Nat.le_trans hbW Hb3.out.size
        have hbv : Below base w wr := Hb3.out.trans (belowAt HG.out (B := base) (fun i e => by injection e with e; omega) hVb)
        have hbv2 := hbv
        rw [← hbase.out] at hbv2
        by_cases hltj : j < M
        · have hjI : (j : Int) < (M : Int) := by omega
          have hjI0 : (0 : Int) ≤ (j : Int) := by omega
          have hjl : j < d.l.length := by rw [hM.out]; exact hltj
          have hv := Vs.grown Hnd.out hbv2
          obtain ⟨b2, off2, hda⟩ := hv.at_ j (by rw [List.length_map]; exact hjl)
          have c0 := hv.cell b2 off2 hda j (by rw [List.length_map]; exact hjl)
          rw [List.getElem_map] at c0
          have hxm : d.l[j] ∈ d.l := List.getElem_mem hjl
          have hst2 : Hid ((d.l.take (j + 1)).map g = (d.l.take j).map g ++ [g d.l[j]]) := Lib.hid (by rw [List.take_add_one, List.getElem?_eq_getElem hjl, List.map_append]; rfl)
          obtain ⟨x, hx⟩ : ∃ v, Hid (d.l[j] = v) := ⟨_, Lib.hid rfl⟩
          rw [hx.out] at c0 hxm hst2
          have hbl := World.block_lt_of_cell? _ _ c0
          have hO4 := World.ownsRow.kept HO3.out HG.out (.inr (fun e => by
            have e2 : base = ib := by simpa [Value.ownBlock] using e
            omega))
          have o4 := hO4.cellAt i (by omega)
          rw [List.getElem?_append_left (by rw [List.length_append, List.length_map, hdl.out]; simp), List.getElem?_append_right (by rw [List.length_map, hdl.out]; exact Nat.le_refl _), List.length_map, hdl.out, Nat.sub_self] at o4
          simp only [List.getElem?_cons_zero] at o4
          have HS9 : Hid (wr.drew.cell? ⟨base, i, none⟩ = some (.slice (some ⟨ib, 0, none⟩) M M)) := Lib.hid o4
          have Hc := Lib.hid (HOf.out wr.drew x (hbv.drew) ⟨d, hmd, hxm⟩)
          have hsz := Nat.le_trans hVb HG.out.size
          rw [hda] at *
          clear hv hxm hbv2 hO4 o4
          go_wp2_with (fail)
          refine wp_region_held_drew (S := fun w' => w'.cell? ⟨base, i, none⟩ = some (.slice (some ⟨ib, 0, none⟩) M M)) (by kernel_rfl) ?_ (fun hHeld => ?_)
          · exact HS9.out
          refine wpAnyH_take (i := 0) (v := ?_) (iatLS iatZS) (by kernel_rfl) (by kernel_rfl) (by kernel_rfl) (fun _ _ _ h => h) (Or.inl ⟨by rfl, ?_⟩) (by assumption) ?_
          rotate_left
          · intro w hSw
            try dsimp only at hSw
            go_simp
            all_goals with_reducible rfl
          try simp only [Act.put, List.setIfInBounds_toArray, List.set_cons_zero, List.set_cons_succ]
          refine wpAnyH_take (i := 1) (v := ?_) (iatLS (iatSS iatZS)) (by kernel_rfl) (by kernel_rfl) (by kernel_rfl) (fun _ _ _ h => h) (Or.inl ⟨by rfl, ?_⟩) (by assumption) ?_
          rotate_left
          · intro w hSw
            try dsimp only at hSw
            go_simp
            all_goals with_reducible rfl
          try simp only [Act.put, List.setIfInBounds_toArray, List.set_cons_zero, List.set_cons_succ]
          refine wpAnyH_take (i := 2) (v := ?_) (iatLS (iatSS (iatSS iatZS))) (by kernel_rfl) (by kernel_rfl) (by kernel_rfl) (fun _ _ _ h => h) (Or.inl ⟨by rfl, ?_⟩) (by assumption) ?_
          rotate_left
          · intro w hSw
            try dsimp only at hSw
            go_simp
            all_goals with_reducible rfl
          try simp only [Act.put, List.setIfInBounds_toArray, List.set_cons_zero, List.set_cons_succ]
          refine wpAnyH_take (i := 3) (v := ?_) (iatLS (iatSS (iatSS (iatSS iatZS)))) (by kernel_rfl) (by kernel_rfl) (by kernel_rfl) (fun _ _ _ h => h) (Or.inl ⟨by rfl, ?_⟩) (by assumption) ?_
          rotate_left
          · intro w hSw
            try dsimp only at hSw
            go_simp
            all_goals with_reducible rfl
          try simp only [Act.put, List.setIfInBounds_toArray, List.set_cons_zero, List.set_cons_succ]
          refine wpAnyH_take (i := 4) (v := ?_) (iatLS (iatSS (iatSS (iatSS (iatSS iatZS))))) (by kernel_rfl) (by kernel_rfl) (by kernel_rfl) (fun _ _ _ h => h) (Or.inl ⟨by rfl, ?_⟩) (by assumption) ?_
          rotate_left
          · intro w hSw
            try dsimp only at hSw
            go_simp
            all_goals with_reducible rfl
          try simp only [Act.put, List.setIfInBounds_toArray, List.set_cons_zero, List.set_cons_succ]
          refine wpAnyH_take (i := 5) (v := ?_) (iatLS (iatSS (iatSS (iatSS (iatSS (iatSS iatZS)))))) (by kernel_rfl) (by kernel_rfl) (by kernel_rfl) (fun _ _ _ h => h) (Or.inl ⟨by rfl, ?_⟩) (by assumption) ?_
          rotate_left
          · intro w hSw
            try dsimp only at hSw
            go_simp
            all_goals with_reducible rfl
          try simp only [Act.put, List.setIfInBounds_toArray, List.set_cons_zero, List.set_cons_succ]
          refine wpAnyH_take (i := 6) (v := ?_) (iatLS (iatSS (iatSS (iatSS (iatSS (iatSS (iatSS iatZS))))))) (by kernel_rfl) (by kernel_rfl) (by kernel_rfl) (fun _ _ _ h => h) (Or.inl ⟨by rfl, ?_⟩) (by assumption) ?_
          rotate_left
          · intro w hSw
            try dsimp only at hSw
            go_simp
            all_goals with_reducible rfl
          try simp only [Act.put, List.setIfInBounds_toArray, List.set_cons_zero, List.set_cons_succ]
          refine wpAnyH_ready (rs := [7]) (by kernel_rfl) (by simp) ?_
          refine AllReadyH.cons (iatLS (iatSS (iatSS (iatSS (iatSS (iatSS (iatSS (iatSS iatZS)))))))) (fun K hK => ?_) AllReadyH.nil
          go_simp
          (with_reducible refine Hc.out.mono ?_)
          rintro e V4 ⟨rfl, hb4⟩
          have hR4 := World.ownsRow.kept HR.out (grownBy_drew wr none) (by cases e : (Value.slice (some ⟨ib, 0, none⟩) M M).ownBlock <;> simp)
          have hR5 := World.ownsRow.kept hR4 (below_grownBy hb4 none) (by cases e : (Value.slice (some ⟨ib, 0, none⟩) M M).ownBlock <;> simp)
          have z0 := hR5.cellAt j (by omega)
          rw [List.getElem?_append_right (by simp; omega), show j - (((d.l.take j).map g).map (Value.string)).length = 0 by simp; omega, List.getElem?_replicate, if_pos (by omega)] at z0
          have zf := own_frz (j := j) hR5
          have zl : ib < V4.heap.size := (World.ownsRow.lt hR5 ib rfl).2
          obtain ⟨hR6, hg6⟩ := hR5.stored j (.string (g x))
          rw [set_fill _ _ _ M j (by simp; omega) hltj] at hR6
          have HR6 : Hid ((V4.setCell ⟨ib, j, none⟩ (.string (g x))).ownsRow base 9 1 (.slice (some ⟨ib, 0, none⟩) M M) M (((d.l.take (j + 1)).map g).map (Value.string) ++ List.replicate (M - (j + 1)) (.string ⟨#[]⟩))) := Lib.hid (by rw [hst2.out, List.map_append]; exact hR6)
          have HG6 := Lib.hid (grownBy_trans (grownBy_trans (grownBy_trans HG.out (grownBy_drew wr (some ib)) (fun i e => .inl e)) (below_grownBy hb4 (some ib)) (fun i e => .inl e)) hg6 (fun i e => .inl e))
          have HS9b : Hid (V4.cell? ⟨base, i, none⟩ = some (.slice (some ⟨ib, 0, none⟩) M M)) := Lib.hid (cell_up hb4 HS9.out)
          have HS9c : Hid ((V4.setCell ⟨ib, j, none⟩ (.string (g x))).cell? ⟨base, i, none⟩ = some (.slice (some ⟨ib, 0, none⟩) M M)) := Lib.hid (by have h1 := HS9b.out; unfold World.cell? at h1 ⊢; rw [hg6.block base (World.block_lt_of_cell? _ _ HS9b.out) (fun e => by injection e; omega)]; exact h1)
          clear hR4 hR5 hR6 hg6 hb4
          try dsimp only
          refine hK.out _ _ ?_ (fun hHeld => ?_)
          · exact HS9b.out
          clear hK K
          try simp only [Act.put, List.setIfInBounds_toArray, List.set_cons_zero, List.set_cons_succ]
          refine wpAnyH_take (i := 8) (v := ?_) (iatLS (iatSS (iatSS (iatSS (iatSS (iatSS (iatSS (iatSS (iatSS iatZS))))))))) (by kernel_rfl) (by kernel_rfl) (by kernel_rfl) (fun _ _ _ h => h) (Or.inl ⟨by rfl, ?_⟩) (by assumption) ?_
          rotate_left
          · intro w hSw
            try dsimp only at hSw
            go_simp
            all_goals with_reducible rfl
          try simp only [Act.put, List.setIfInBounds_toArray, List.set_cons_zero, List.set_cons_succ]
          refine wpAnyH_ready (rs := [9]) (by kernel_rfl) (by simp) ?_
          refine AllReadyH.cons (iatLS (iatSS (iatSS (iatSS (iatSS (iatSS (iatSS (iatSS (iatSS (iatSS iatZS)))))))))) (fun K hK => ?_) AllReadyH.nil
          go_simp
          refine hK.out _ _ ?_ (fun hHeld => ?_)
          · exact HS9c.out
          clear hK K
          try simp only [Act.put, List.setIfInBounds_toArray, List.set_cons_zero, List.set_cons_succ]
          refine wpAnyH_done (by kernel_rfl) ?_ _
          go_wp2_with (fail)
          exact ⟨⟨j + 1, by omega, by go_num, HR6, HG6⟩, by simp [intOf]; omega⟩
        · obtain rfl : j = M := by omega
          have hjI : ¬ (j : Int) < (j : Int) := by omega
          have hrow : Hid (wr.ownsRow base 9 1 (.slice (some ⟨ib, 0, none⟩) j j) j ((d.l.map g).map (Value.string))) := Lib.hid (by
            have := HR.out
            rw [List.take_of_length_le (by rw [hM.out]; exact Nat.le_refl _), Nat.sub_self, List.replicate_zero, List.append_nil] at this
            exact this)
          have hlen : Hid ((d.l.map g).length = j) := Lib.hid (by rw [List.length_map, hM.out])
          have hO4 := Lib.hid (World.ownsRow.kept HO3.out HG.out (.inr (fun e => by
            have e2 : base = ib := by simpa [Value.ownBlock] using e
            omega)))
          have HD4 : Hid (∀ e ∈ dn, wr.ownsRow base 9 1 (.slice e.a e.l.length e.c) e.l.length (e.l.map (Value.string))) := Lib.hid (fun e he => World.ownsRow.kept (HD3.out e he).1 HG.out (.inr (HD3.out e he).2))
          have Hbv := Lib.hid hbv
          clear hbv hbv2
          go_wp2_with (fail)
          exact ⟨⟨i + 1, dn ++ [⟨d.l.map g, some ⟨ib, 0, none⟩, j⟩], by omega, by go_num, Lib.hid (by rw [List.map_append, hdn.out, hst.out]; rfl), Lib.hid (by rw [List.length_append, hdl.out]; rfl), Lib.hid (by
            rw [List.map_append]
            show World.ownsRow _ _ _ _ _ _ (dn.map AltD.v ++ [.slice (some ⟨ib, 0, none⟩) (d.l.map g).length j] ++ _)
            rw [hlen.out]
            exact hO4.out), Lib.hid (fun e he => by
            rcases List.mem_append.1 he with he | he
            · exact HD4.out e he
            · rw [List.mem_singleton] at he
              subst he
              show World.ownsRow _ _ _ _ (.slice (some ⟨ib, 0, none⟩) (d.l.map g).length j) (d.l.map g).length _
              rw [hlen.out]
              exact hrow.out), Hbv.out⟩, by simp [intOf]; omega⟩
    · obtain rfl : i = L := by omega
      have hiI : ¬ (i : Int) < (i : Int) := by omega
      go_wp2_with (fail)
      show Q (.returned (.slice (some ⟨base, 0, none⟩) i i)) wr
      rw [← hQ.out, HL.out]
      exact ⟨some ⟨base, 0, none⟩, i, dn, rfl, by
        rw [hbase.out]
        refine ⟨?_, HD.out⟩
        have := HO.out
        rw [Nat.sub_self, List.replicate_zero, List.append_nil] at this
        rw [hdl.out]
        exact this, by rw [hdn.out, List.take_of_length_le (by rw [HL.out]; exact Nat.le_refl _)], by rw [hbase.out]; exact hbr⟩
end Go.Proofs.Ytiopbjgpaidemaa

namespace Go.Proofs.Ytiopbjgpaidemaa
open Go.RowKit Go.Maps

attribute [local go_sem] Oper.semAt_some

/-- Whether these are names that were not seen, each once. -/
def tokB : List ByteArray → List ByteArray → Bool
  | _, [] => true
  | seen, t :: r => nameB t && !mem t seen && tokB (seen ++ [t]) r
def ckT (ts : List ByteArray) : Int := if tokB [] ts then if 60 < ts.length then 2 else 0 else 1
theorem nameB_size {s : ByteArray} (h : nameB s = true) : s.size ≤ maxLen := by
  unfold nameB at h
  have e : s.size = s.data.toList.length := by simp
  cases hs : s.data.toList with
  | nil => rw [e, hs]; exact Nat.zero_le _
  | cons c r =>
    rw [hs, nameL] at h
    simp only [Bool.and_eq_true, decide_eq_true_eq] at h
    rw [e, hs, List.length_cons]
    unfold maxLen
    omega

set_option maxRecDepth 100000 in
set_option maxHeartbeats 2000000 in
theorem checkTokens_any (ts : List ByteArray) (a : Option Addr) (cap : Nat) (w : World) (hl : Nms w a cap ts) (hfew : ts.length ≤ 1000000000) :
    Calls Try.prog 89 #[.slice a ts.length cap] w fun r w' => r = .returned (.int .i64 (ckT ts)) ∧ Below w.heap.size w w' := by
  have hlm : ts.length ≤ cap ∧ cap ≤ 9223372036854775807 := ⟨by have := hl.le; rwa [List.length_map] at this, hl.max⟩
  obtain ⟨R, hR⟩ : ∃ R, Hid (tokB [] ts = R) := ⟨_, Lib.hid rfl⟩
  obtain ⟨V, hV⟩ : ∃ V, Hid (ckT ts = V) := ⟨_, Lib.hid rfl⟩
  have hV1 : Hid (R = false → V = 1) := Lib.hid (fun e => by rw [← hV.out]; unfold ckT; rw [hR.out, e]; rfl)
  have hV2 : Hid (R = true → 60 < ts.length → V = 2) := Lib.hid (fun e h => by rw [← hV.out]; unfold ckT; rw [hR.out, if_pos e, if_pos h])
  have hV3 : Hid (R = true → ¬ 60 < ts.length → V = 0) := Lib.hid (fun e h => by rw [← hV.out]; unfold ckT; rw [hR.out, if_pos e, if_neg h])
  rw [hV.out]
  obtain ⟨L, HL⟩ : ∃ L, Hid (ts.length = L) := ⟨_, Lib.hid rfl⟩
  rw [HL.out] at hlm hfew hV2 hV3 ⊢
  have HS0 := Lib.hid (SetT.new w)
  have hb0 : Below w.heap.size w (w.alloc (.map #[] 0)) := (Below.refl _ w).alloc (Nat.le_refl _) _
  have hmm := @run_makeMap Try.prog
  go_enter Try.func89, Try.ntmps89
  go_wp2_with (fail)
  generalize hW : World.alloc w _ = W at HS0 hb0 ⊢
  clear hW
  go_loopw [9] (fun iv wr => ∃ k : Nat, k ≤ L ∧ iv = .int .i64 (k : Int) ∧ Hid (R = tokB (ts.take k) (ts.drop k)) ∧ Hid (SetT wr w.heap.size k (fun s => mem s (ts.take k))) ∧ Below w.heap.size w wr) (fun iv _ => L - (intOf iv).toNat)
  case atStart => exact ⟨0, Nat.zero_le _, rfl, Lib.hid hR.out.symm, Lib.hid (HS0.out.congr (fun s => rfl)), hb0⟩
  case round =>
    obtain ⟨k, hk, rfl, HR, HS, hbr⟩ := hrel
    by_cases hlt : k < L
    · have hkI : (k : Int) < (L : Int) := by omega
      have hkI0 : (0 : Int) ≤ (k : Int) := by omega
      have hkl : k < ts.length := by rw [HL.out]; exact hlt
      obtain ⟨b, off, rfl⟩ := hl.at_ k (by rw [List.length_map]; exact hkl)
      have c0 := (hl.grown hbr).cell b off rfl k (by rw [List.length_map]; exact hkl)
      rw [List.getElem_map] at c0
      have htk : Hid (ts.take (k + 1) = ts.take k ++ [ts[k]]) := Lib.hid (by rw [List.take_add_one, List.getElem?_eq_getElem hkl]; rfl)
      have hdr : Hid (ts.drop k = ts[k] :: ts.drop (k + 1)) := Lib.hid (List.drop_eq_getElem_cons hkl)
      obtain ⟨e, he⟩ : ∃ v, Hid (ts[k] = v) := ⟨_, Lib.hid rfl⟩
      rw [he.out] at c0 htk hdr
      have HR2 : Hid (R = (nameB e && !mem e (ts.take k) && tokB (ts.take (k + 1)) (ts.drop (k + 1)))) := Lib.hid (by rw [HR.out, hdr.out, tokB, htk.out])
      have hbl := World.block_lt_of_cell? _ _ c0
      have Hc1 := Lib.hid (isName_any e wr)
      obtain ⟨S, hS⟩ : ∃ S, Hid (nameB e = S) := ⟨_, Lib.hid rfl⟩
      rw [hS.out] at Hc1 HR2
      go_wp2_with (fail)
      refine Hc1.out.mono ?_
      rintro r w3 ⟨rfl, hw3⟩
      subst w3
      cases S
      · have hF : Hid (R = false) := Lib.hid (by rw [HR2.out]; rfl)
        go_wp2_with (fail)
        exact bodyPost_ret (v := .int .i64 1) (by simp [results, Try.results89, go_sem]; try first | rfl | assumption | omega) rfl ⟨by rw [hV1.out hF.out], hbr⟩
      · have Hc2 := Lib.hid (sAdd_any wr w.heap.size k _ e HS.out (nameB_size hS.out) (by unfold maxLen; omega))
        obtain ⟨S2, hS2⟩ : ∃ S, Hid (mem e (ts.take k) = S) := ⟨_, Lib.hid rfl⟩
        rw [hS2.out] at Hc2 HR2
        go_wp2_with (fail)
        refine Hc2.out.mono ?_
        rintro r w3 ⟨rfl, hs3, hg3⟩
        have hb3 := hbr.trans (below_at hg3 (B := w.heap.size) (fun i e0 => by injection e0 with e0; omega) hbr.size)
        have HS3 : Hid (SetT w3 w.heap.size (k + 1) (fun s => mem s (ts.take (k + 1)))) := Lib.hid (hs3.congr (fun s => by
          rw [htk.out]
          simp only [mem, List.any_append, List.any_cons, List.any_nil, Bool.or_false]
          rw [Bool.or_comm]
          congr 1
          exact decide_eq_decide.2 eq_comm))
        clear hs3 hg3
        cases S2
        · go_wp2_with (fail)
          exact ⟨⟨k + 1, by omega, by go_num, Lib.hid (by rw [HR2.out]; rfl), HS3, hb3⟩, by simp [intOf]; omega⟩
        · have hF : Hid (R = false) := Lib.hid (by rw [HR2.out]; rfl)
          go_wp2_with (fail)
          exact bodyPost_ret (v := .int .i64 1) (by simp [results, Try.results89, go_sem]; try first | rfl | assumption | omega) rfl ⟨by rw [hV1.out hF.out], hb3⟩
    · obtain rfl : k = L := by omega
      have hkI : ¬ (k : Int) < (k : Int) := by omega
      have hT : Hid (R = true) := Lib.hid (by rw [HR.out, List.drop_eq_nil_of_le (by rw [HL.out]; exact Nat.le_refl _)]; rfl)
      by_cases h6 : 60 < k
      · have h7 : (60 : Int) < (k : Int) := by omega
        go_wp2_with (fail)
        exact bodyPost_ret (v := .int .i64 2) (by simp [results, Try.results89, go_sem]; try first | rfl | assumption | omega) rfl ⟨by rw [hV2.out hT.out h6], hbr⟩
      · have h7 : ¬ (60 : Int) < (k : Int) := by omega
        go_wp2_with (fail)
        exact bodyPost_ret (v := .int .i64 0) (by simp [results, Try.results89, go_sem]; try first | rfl | assumption | omega) rfl ⟨by rw [hV3.out hT.out h6], hbr⟩
end Go.Proofs.Ytiopbjgpaidemaa

namespace Go.Proofs.Ytiopbjgpaidemaa
open Go.RowKit Go.Maps Go.WideMaps

attribute [local go_sem] Oper.semAt_some

/-- A map from names to numbers: 0, where nothing stands. -/
def NumT (W : World) (b n : Nat) (m : ByteArray → Int) : Prop :=
  ∃ D : DataW Unit, W.ownsMap Try.prog 9 (plainElem Try.prog 3) b n D ∧ IsMap D ∧ ∀ s : ByteArray, D.atKey (.string s.data.toList) (.lit (.int .i64 0)) = .lit (.int .i64 (m s))
theorem zero_int8 (w : World) : (zeroValue 3).run Try.prog w = .ok (.int .i64 0) w := by kernel_rfl
theorem NumT.kept {W W' : World} {row : Option Nat} {b n : Nat} {m : ByteArray → Int} (h : NumT W b n m) (hg : W.grownBy W' row) (hne : some b ≠ row) : NumT W' b n m := by
  obtain ⟨D, h1, h2, h3⟩ := h
  exact ⟨D, h1.kept hg hne, h2, h3⟩
theorem NumT.new (W : World) : NumT (W.alloc (.map #[] 0)) W.heap.size 0 (fun _ => 0) :=
  ⟨.map [], World.ownsMap_made _ _ _ _, isMap_empty, fun _ => rfl⟩
set_option maxRecDepth 100000 in
theorem NumT.look {W : World} {b n : Nat} {m : ByteArray → Int} (h : NumT W b n m) (s : ByteArray) (hs : s.size ≤ maxLen) :
    (Instr.lookup 120 (.map (some b)) (.string s) false).run Try.prog W = .ok (.int .i64 (m s)) W := by
  obtain ⟨D, h1, h2, h3⟩ := h
  obtain ⟨c, hrun, hat, hw⟩ := h1.lookup_int str_law Try.underlying120 Try.underlying3 (zero_int8 W) (keyOf_string_mk Try.underlying9 hs)
  rw [h3 s] at hat
  injection hat with hat
  injection hat with _ hat
  subst hat
  exact hrun
set_option maxRecDepth 100000 in
theorem NumT.store {W : World} {b n : Nat} {m : ByteArray → Int} (h : NumT W b n m) (s : ByteArray) (v : Int) (hs : s.size ≤ maxLen) (hv : (Go.Lit.int .i64 v).wf = true) (hn : n < maxLen) :
    ∃ W', (Instr.mapUpdate 120 (.map (some b)) (.string s) (.int .i64 v)).run Try.prog W = .ok () W' ∧ NumT W' b (n + 1) (fun t => if t = s then v else m t) ∧ W.grownBy W' (some b) := by
  obtain ⟨D, h1, h2, h3⟩ := h
  obtain ⟨W', hrun, ho, hg⟩ := h1.update str_law Try.underlying120 hn (keyOf_string_mk Try.underlying9 hs) (plainElem_int Try.underlying3 hv)
  refine ⟨W', hrun, ⟨_, ho, h2.put _ _, fun t => ?_⟩, hg⟩
  by_cases e : t = s
  · subst e
    rw [atKey_put_same h2 (by simp [WideAt.IsKeyLit])]
    simp
  · rw [atKey_put_other (fun h => e (str_key h)), h3 t]
    simp [e]
/-- The numbers behind so many tokens; behind so many rules. -/
def tkN (ts : List ByteArray) : Nat → ByteArray → Int
  | 0 => fun _ => 0
  | k + 1 => match ts[k]? with
    | some s => fun t => if t = s then (k : Int) else tkN ts k t
    | none => tkN ts k
def rlN (ts names : List ByteArray) : Nat → ByteArray → Int
  | 0 => tkN ts ts.length
  | k + 1 => match names[k]? with
    | some s => fun t => if t = s then -1 - (k : Int) else rlN ts names k t
    | none => rlN ts names k

set_option maxRecDepth 100000 in
set_option maxHeartbeats 4000000 in
theorem numbersOf_any (rs : List RlD) (a : Option Addr) (cap : Nat) (ts : List ByteArray) (ta : Option Addr) (tc : Nat) (w : World) (hl : Rls w a cap rs) (ht : Nms w ta tc ts) (hfew : rs.length ≤ 1000) (hfew2 : ts.length ≤ 1000)
    (hfit : ∀ r ∈ rs, r.n.size ≤ maxLen) (hfit2 : ∀ t ∈ ts, t.size ≤ maxLen) :
    Calls Try.prog 90 #[.agg #[.slice a rs.length cap], .slice ta ts.length tc] w fun r w' => ∃ b n, r = .returned (.map (some b)) ∧ NumT w' b n (rlN ts (rs.map RlD.n) rs.length) ∧ w.heap.size ≤ b ∧ Below w.heap.size w w' := by
  have hlm : rs.length ≤ cap ∧ cap ≤ 9223372036854775807 := ⟨hl.le, hl.max⟩
  have htm : ts.length ≤ tc ∧ tc ≤ 9223372036854775807 := ⟨by have := ht.le; rwa [List.length_map] at this, ht.max⟩
  have hA0 := Blk.new w 24 #[.slice a rs.length cap]
  have hb0 : Below w.heap.size w (w.alloc (.cells #[.slice a rs.length cap] 24)) := (Below.refl _ w).alloc (Nat.le_refl _) _
  have hs0 : (w.alloc (.cells #[.slice a rs.length cap] 24)).heap.size = w.heap.size + 1 := by simp [go_sem]
  obtain ⟨P, hP⟩ : ∃ P, Hid (tkN ts = P) := ⟨_, Lib.hid rfl⟩
  obtain ⟨Q, hQ⟩ : ∃ Q, Hid (rlN ts (rs.map RlD.n) = Q) := ⟨_, Lib.hid rfl⟩
  have hP0 : Hid (P 0 = fun _ => 0) := Lib.hid (by rw [← hP.out]; rfl)
  have hPs : Hid (∀ k (h : k < ts.length), P (k + 1) = fun t => if t = ts[k] then (k : Int) else P k t) := Lib.hid (fun k h => by rw [← hP.out, tkN, List.getElem?_eq_getElem h])
  have hQ0 : Hid (Q 0 = P ts.length) := Lib.hid (by rw [← hP.out, ← hQ.out]; rfl)
  have hQs : Hid (∀ k (h : k < rs.length), Q (k + 1) = fun t => if t = rs[k].n then -1 - (k : Int) else Q k t) := Lib.hid (fun k h => by rw [← hQ.out, rlN, List.getElem?_eq_getElem (by simpa using h), List.getElem_map])
  rw [hQ.out]
  obtain ⟨L, HL⟩ : ∃ L, Hid (rs.length = L) := ⟨_, Lib.hid rfl⟩
  obtain ⟨T, HT⟩ : ∃ L, Hid (ts.length = L) := ⟨_, Lib.hid rfl⟩
  rw [HL.out] at hlm hfew hA0 hb0 hs0 ⊢
  rw [HT.out] at hfew2 htm hQ0 ⊢
  have hmm := @run_makeMap Try.prog
  have HM0 := Lib.hid (NumT.new (w.alloc (.cells #[.slice a L cap] 24)))
  have hg0 : (w.alloc (.cells #[.slice a L cap] 24)).grownBy ((w.alloc (.cells #[.slice a L cap] 24)).alloc (.map #[] 0)) none := World.grownBy_alloc _ _ _
  have hA1 := hA0.kept hg0 (by simp)
  have hb1 := hb0.trans (below_at hg0 (B := w.heap.size) (fun i e => by cases e) (by rw [hs0]; omega))
  rw [hs0] at HM0
  go_enter Try.func90, Try.ntmps90
  go_wp2_with (fail)
  generalize hW : World.alloc (World.alloc w _) _ = W at HM0 hA1 hb1 ⊢
  clear hW hA0 hg0 hs0 hb0
  go_loopw [13] (fun iv wr => ∃ k : Nat, k ≤ T ∧ iv = .int .i64 (k : Int) ∧ Hid (NumT wr (w.heap.size + 1) k (P k)) ∧ Hid (Blk wr w.heap.size 24 [.slice a L cap]) ∧ Below w.heap.size w wr) (fun iv _ => T - (intOf iv).toNat)
  case atStart => exact ⟨0, Nat.zero_le _, rfl, Lib.hid (by rw [hP0.out]; exact HM0.out), Lib.hid hA1, hb1⟩
  case round =>
    obtain ⟨k, hk, rfl, HM, HA, hbr⟩ := hrel
    by_cases hlt : k < T
    · have hkI : (k : Int) < (T : Int) := by omega
      have hkI0 : (0 : Int) ≤ (k : Int) := by omega
      have hkl : k < ts.length := by rw [HT.out]; exact hlt
      obtain ⟨b, off, rfl⟩ := ht.at_ k (by rw [List.length_map]; exact hkl)
      have c0 := (ht.grown hbr).cell b off rfl k (by rw [List.length_map]; exact hkl)
      rw [List.getElem_map] at c0
      have hst := hPs.out k hkl
      have hm : ts[k] ∈ ts := List.getElem_mem hkl
      obtain ⟨e, he⟩ : ∃ v, Hid (ts[k] = v) := ⟨_, Lib.hid rfl⟩
      rw [he.out] at c0 hst hm
      have Hst := Lib.hid hst
      clear hst
      have hbl := World.block_lt_of_cell? _ _ c0
      obtain ⟨w2, hrun, hn2, hg2⟩ := HM.out.store e (k : Int) (hfit2 e hm) (WalkArith.wf_i64 (by omega)) (by unfold maxLen; omega)
      have HN2 := Lib.hid hn2
      have HA2 := Lib.hid (HA.out.kept hg2 (by simp))
      have hb2 := hbr.trans (below_at hg2 (B := w.heap.size) (fun i e => by injection e with e; omega) hbr.size)
      clear hn2 hg2
      go_wp2_with (fail)
      exact ⟨⟨k + 1, by omega, by go_num, Lib.hid (by rw [Hst.out]; exact HN2.out), HA2, hb2⟩, by simp [intOf]; omega⟩
    · obtain rfl : k = T := by omega
      have hkI : ¬ (k : Int) < (k : Int) := by omega
      have z0 := HA.out.cell 0
      have zl := HA.out.lt
      simp only [List.getElem?_cons_zero] at z0
      go_wp2_with (fail)
      go_loopw [25] (fun iv wr => ∃ i : Nat, i ≤ L ∧ iv = .int .i64 (i : Int) ∧ Hid (NumT wr (w.heap.size + 1) (k + i) (Q i)) ∧ Below w.heap.size w wr ∧ w.heap.size + 1 < wr.heap.size) (fun iv _ => L - (intOf iv).toNat)
      case atStart => exact ⟨0, Nat.zero_le _, rfl, Lib.hid (by rw [hQ0.out]; exact HM.out), hbr, by obtain ⟨D, h1, _⟩ := HM.out; exact h1.lt⟩
      case round =>
        clear HM HA hbr z0 zl
        obtain ⟨i, hi, rfl, HM, hbr, hwl⟩ := hrel
        by_cases hlti : i < L
        · have hiI : (i : Int) < (L : Int) := by omega
          have hiI0 : (0 : Int) ≤ (i : Int) := by omega
          have hil : i < rs.length := by rw [HL.out]; exact hlti
          obtain ⟨b, off, rfl⟩ := hl.at_ i hil
          obtain ⟨c0, c1⟩ := (hl.grown hbr).cell b off rfl i hil
          have hm : rs[i] ∈ rs := List.getElem_mem hil
          have hst := hQs.out i hil
          obtain ⟨e, he⟩ : ∃ v, Hid (rs[i] = v) := ⟨_, Lib.hid rfl⟩
          rw [he.out] at c0 c1 hm hst
          have hsz := hfit e hm
          have hbl := World.block_lt_of_cell? wr _ c0
          have hB0 := Blk.new wr 34 #[.string e.n, .slice e.a e.ds.length e.c]
          have hg1 : wr.grownBy (wr.alloc (.cells #[.string e.n, .slice e.a e.ds.length e.c] 34)) none := World.grownBy_alloc _ _ _
          obtain ⟨w2, hrun, hn2, hg2⟩ := (HM.out.kept hg1 (by simp)).store e.n (-1 - (i : Int)) hsz (WalkArith.wf_i64 (by omega)) (by unfold maxLen; omega)
          have hg3 := grownBy_trans (grownBy_none hg1 (some (w.heap.size + 1))) hg2 (fun i e => .inl e)
          have hb2 := hbr.trans (below_at hg3 (B := w.heap.size) (fun i e => by injection e with e; omega) hbr.size)
          have hwl2 := Nat.lt_of_lt_of_le hwl hg3.size
          have HN2 := Lib.hid hn2
          have Hst := Lib.hid hst
          obtain ⟨M, HM2⟩ : ∃ M, Hid (e.ds.length = M) := ⟨_, Lib.hid rfl⟩
          rw [HM2.out] at hB0 c1 hrun
          have y0 := hB0.cell 0
          have yl := hB0.lt
          simp only [List.getElem?_cons_zero] at y0
          clear hB0 hn2 hg1 hg2 hg3 hst hm
          go_wp2_with (fail)
          exact ⟨⟨i + 1, by omega, by go_num, Lib.hid (by rw [Hst.out]; exact HN2.out), hb2, hwl2⟩, by simp [intOf]; omega⟩
        · obtain rfl : i = L := by omega
          have hiI : ¬ (i : Int) < (i : Int) := by omega
          go_wp2_with (fail)
          exact bodyPost_ret (v := .map (some (w.heap.size + 1))) (by simp [results, Try.results90, go_sem]; try first | rfl | assumption | omega) rfl ⟨w.heap.size + 1, rfl, ⟨_, HM.out⟩, Nat.le_succ _, hbr⟩
end Go.Proofs.Ytiopbjgpaidemaa

namespace Go.Proofs.Ytiopbjgpaidemaa
open Go.RowKit

attribute [local go_sem] Oper.semAt_some

set_option maxRecDepth 100000 in
set_option maxHeartbeats 2000000 in
theorem clone_any (l : List ByteArray) (a : Option Addr) (cap : Nat) (w : World) (hl : Nms w a cap l) (hfew : l.length ≤ 1000000000) :
    Calls Try.prog 91 #[.slice a l.length cap] w fun e w' => ∃ a' c', e = .returned (.slice a' l.length c') ∧ OwnS w' w.heap.size l.length a' c' l ∧ Below w.heap.size w w' := by
  cases a with
  | none =>
    have e0 := hl.nil_ rfl
    have hml : l = [] := by
      have := hl.le
      rw [e0] at this
      simpa using this
    subst e0
    subst hml
    have hqn : (binOp BinOp.eql 25 (.slice none 0 0) (.slice none 0 0)).run Try.prog w = .ok (.bool true) w := Lib.run_eql_slice_nil w _ _ none 0 0 0 0 Try.underlying25
    go_enter Try.func91, Try.ntmps91
    go_wp2_with (fail)
    exact bodyPost_ret (v := .slice none 0 0) (by simp [results, Try.results91, go_sem]; try first | rfl | assumption | omega) rfl ⟨none, 0, rfl, World.ownsRow_nil _ _ _ 1, Below.refl _ w⟩
  | some b =>
    have hb1 : Below w.heap.size w (w.alloc (.cells #[] 9)) := (Below.refl _ w).alloc (Nat.le_refl _) _
    have h0 : OwnS (w.alloc (.cells #[] 9)) w.heap.size 0 (some ⟨w.heap.size, 0, none⟩) 0 [] := World.ownsRow_lit (base := w.heap.size) (e := 9) (size := 1) w #[] 0 (Nat.le_refl _) (by unfold maxLen; omega) rfl
    obtain ⟨a2, c2, w2, hrun, ho, hb2⟩ := OwnS.app h0 (some b) cap l (hl.grown hb1) 25 (by omega) hb1.size
    rw [Nat.zero_add] at hrun ho
    rw [List.nil_append] at ho
    have Hrun := Lib.hid hrun
    have HO := Lib.hid ho
    have hb3 := hb1.trans hb2
    obtain ⟨L, HL⟩ : ∃ L, Hid (l.length = L) := ⟨_, Lib.hid rfl⟩
    rw [HL.out] at Hrun HO ⊢
    have hqn : (binOp BinOp.eql 25 (.slice (some b) L cap) (.slice none 0 0)).run Try.prog w = .ok (.bool false) w := Lib.run_eql_slice_nil w _ _ (some b) L cap 0 0 Try.underlying25
    clear hrun ho
    go_enter Try.func91, Try.ntmps91
    go_wp2_with (at_builtin; refine wpList_append_run rfl _ _ 25 25 rfl _ _ _ _ rfl rfl Hrun.out ?_)
    exact bodyPost_ret (v := .slice a2 L c2) (by simp [results, Try.results91, go_sem]; try first | rfl | assumption | omega) rfl ⟨a2, c2, rfl, HO.out, hb3⟩
end Go.Proofs.Ytiopbjgpaidemaa

