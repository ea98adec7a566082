/- Texts joined: Ke. -/
import Derived.Test.YthogiakfbgehnaaREAg
import Derived.Test.YthogiakfbgehnaaREAb
set_option linter.unusedVariables false
set_option linter.unusedSimpArgs false
namespace Go.Proofs.Ythogiakfbgehnaa
open Go.RowKit Go.Maps

attribute [local go_sem] Oper.semAt_some

/-- What the reference's Number keeps, rule by rule. -/
structure RbSt (w9 wr : World) (f cb : Nat) (G : ByteArray → Int) (T L : Nat) (rs : List RlD) (ct : Option Addr) (cc : Nat) (na : Option Addr) (nc k : Nat) (aa : Option Addr) (ac : Nat) (xs : List IrD) : Prop where
  box : Blk wr cb 25 [.slice ct T cc, .slice na L nc, .slice aa k ac]
  row : wr.ownsRow f 32 1 (.slice aa k ac) k (xs.map IrD.v)
  ins : ∀ x ∈ xs, OwnXI wr f x.a x.c x.ds
  is_ : xs.map IrD.p = (rs.take k).map (fun r => r.ds.map (fun d => d.l.map G))
  frm : w9.grownBy wr (some cb)
theorem RbSt.grow {w9 wr W' : World} {f cb : Nat} {G : ByteArray → Int} {T L : Nat} {rs : List RlD} {ct : Option Addr} {cc : Nat} {na : Option Addr} {nc k : Nat} {aa : Option Addr} {ac : Nat} {xs : List IrD}
    (h : RbSt w9 wr f cb G T L rs ct cc na nc k aa ac xs) (hg : wr.grownBy W' none) : RbSt w9 W' f cb G T L rs ct cc na nc k aa ac xs :=
  ⟨h.box.kept hg (by simp), World.ownsRow.kept h.row hg (by cases e : (Value.slice aa k ac).ownBlock <;> simp), fun x hx => (h.ins x hx).kept hg (fun g e => by cases e), h.is_, grownBy_trans h.frm (grownBy_none hg (some cb)) (fun i e => .inl e)⟩
theorem plc_bound (s : ByteArray) : ∀ (l : List ByteArray) (k : Nat), -1 ≤ plcP s k l ∧ plcP s k l < ((k + l.length : Nat) : Int)
  | [], k => by unfold plcP; simp; omega
  | t :: r, k => by
    unfold plcP
    have := plc_bound s r (k + 1)
    rw [List.length_cons]
    split
    · omega
    · omega

set_option maxRecDepth 100000 in
set_option maxHeartbeats 16000000 in
theorem refNumber_any (rs : List RlD) (ga : Option Addr) (gc : Nat) (ts : List ByteArray) (ta : Option Addr) (tc : Nat) (w : World) (hl : Rls w ga gc rs) (ht : Nms w ta tc ts) (hfew : rs.length + ts.length + szR rs ≤ 1000) :
    Calls Try.prog 100 #[.agg #[.slice ga rs.length gc], .slice ta ts.length tc] w (NumQ w (numE rs ts) (numC rs ts)) := by
  have hlm : rs.length ≤ gc ∧ gc ≤ 9223372036854775807 := ⟨hl.le, hl.max⟩
  have htm : ts.length ≤ tc ∧ tc ≤ 9223372036854775807 := ⟨by have := ht.le; rwa [List.length_map] at this, ht.max⟩
  have hA0 := Blk.new w 124 #[.slice ga rs.length gc]
  have hb0 : Below w.heap.size w (w.alloc (.cells #[.slice ga rs.length gc] 124)) := (Below.refl _ w).alloc (Nat.le_refl _) _
  have hA1 : Blk ((w.alloc (.cells #[.slice ga rs.length gc] 124)).alloc (.cells #[.slice none 0 0, .slice none 0 0, .slice none 0 0] 25)) w.heap.size 124 [.slice ga rs.length gc] := hA0.alloc _
  have hR0 := Blk.new (w.alloc (.cells #[.slice ga rs.length gc] 124)) 25 #[.slice none 0 0, .slice none 0 0, .slice none 0 0]
  have hs0 : (w.alloc (.cells #[.slice ga rs.length gc] 124)).heap.size = w.heap.size + 1 := by simp [go_sem]
  have hb1 := hb0.alloc (by rw [hs0]; omega) (.cells #[.slice none 0 0, .slice none 0 0, .slice none 0 0] 25)
  rw [hs0] at hR0
  have Hl := Lib.hid hl
  have Ht := Lib.hid ht
  have Hck := Lib.hid (fun W (hb : Below w.heap.size w W) => refGCheck_any rs ga gc W (hl.grown hb))
  have Hfl := Lib.hid (fun W (hb : Below w.heap.size w W) => refFlaws_any2 rs ga gc ts ta tc W (hl.grown hb) (ht.grown hb) hfew)
  have Hnm := Lib.hid (fun W (hb : Below w.heap.size w W) => names_any rs ga gc W (hl.grown hb) (by omega))
  obtain ⟨NM, hNM⟩ : ∃ q, Hid (rs.map RlD.n = q) := ⟨_, Lib.hid rfl⟩
  have hNl : Hid (NM.length = rs.length) := Lib.hid (by rw [← hNM.out, List.length_map])
  have HC : Hid (numC rs ts = ⟨ts, NM, rs.map (fun r => r.ds.map (fun d => d.l.map (rlN ts NM rs.length)))⟩) := Lib.hid (by unfold numC; rw [hNM.out])
  rw [hNM.out] at Hnm
  obtain ⟨G, hG⟩ : ∃ q, Hid (rlN ts NM rs.length = q) := ⟨_, Lib.hid rfl⟩
  have HGp : Hid (numE rs ts = 0 → ∀ r ∈ rs, ∀ d ∈ r.ds, ∀ t ∈ d.l, G t = if plcP t 0 ts < 0 then -1 - plcP t 0 NM else plcP t 0 ts) := Lib.hid (fun h r hr d hd t ht => by
    rw [← hG.out, ← hNM.out]
    exact num_plc h (flw_known (numE_flw h) r hr d hd t ht))
  rw [hG.out] at HC
  obtain ⟨FF, hFF⟩ : ∃ q, Hid (FLW rs ts = q) := ⟨_, Lib.hid rfl⟩
  have hE : Hid (numE rs ts = if chkG rs = 0 then if tokB [] ts = true then if 60 < ts.length then 2 else if FF.length = 0 then 0 else 80 else 1 else chkG rs) := Lib.hid (by
    unfold numE ckT
    rw [hFF.out]
    by_cases h1 : chkG rs = 0 <;> by_cases h2 : tokB [] ts = true <;> by_cases h3 : 60 < ts.length <;> simp [h1, h2, h3])
  rw [hFF.out] at Hfl
  obtain ⟨C1, hC1⟩ : ∃ q, Hid (chkG rs = q) := ⟨_, Lib.hid rfl⟩
  obtain ⟨TB, hTB⟩ : ∃ q, Hid (tokB [] ts = q) := ⟨_, Lib.hid rfl⟩
  rw [hC1.out, hTB.out] at hE
  rw [hC1.out] at Hck
  rw [HC.out]
  obtain ⟨Q, hQ⟩ : ∃ Q, Hid (NumQ w (numE rs ts) ⟨ts, NM, rs.map (fun r => r.ds.map (fun d => d.l.map G))⟩ = Q) := ⟨_, Lib.hid rfl⟩
  rw [hQ.out]
  have hfl1 : ts.length ≤ 1000 := by omega
  have hfl2 : rs.length ≤ 1000 := by omega
  obtain ⟨L, HL⟩ : ∃ L, Hid (rs.length = L) := ⟨_, Lib.hid rfl⟩
  obtain ⟨T, HT⟩ : ∃ L, Hid (ts.length = L) := ⟨_, Lib.hid rfl⟩
  rw [HL.out] at hlm hfew hNl Hck Hfl Hnm hA0 hA1 hR0 hb0 hb1 hfl2 ⊢
  rw [HT.out] at hfew htm Hfl hE hfl1 ⊢
  have Hfew := Lib.hid hfew
  have Hck' : Hid (∀ W, Below w.heap.size w W → Calls Try.prog 135 #[.agg #[.slice ga L gc]] W fun r w' => r = .returned (.int .i64 C1) ∧ Below W.heap.size W w') := Hck
  have Hfl' : Hid (∀ W, Below w.heap.size w W → Calls Try.prog 138 #[.agg #[.slice ga L gc], .slice ta T tc] W (FlawQ W FF)) := Hfl
  have Hnm' : Hid (∀ W, Below w.heap.size w W → Calls Try.prog 139 #[.agg #[.slice ga L gc]] W fun r w' => ∃ a' c', r = .returned (.slice a' L c') ∧ w'.ownsRow W.heap.size 9 1 (.slice a' L c') L (NM.map Value.string) ∧ Below W.heap.size W w') := Hnm
  clear Hck Hfl Hnm hl ht hb0 hs0 hA0 hfew HC
  have HA := Lib.hid hA1
  have HR := Lib.hid hR0
  have Hb1 := Lib.hid hb1
  obtain ⟨base, hbase⟩ : ∃ q, Hid (w.heap.size = q) := ⟨_, Lib.hid rfl⟩
  have hbW : base ≤ w.heap.size := by rw [hbase.out]; exact Nat.le_refl _
  clear hA1 hR0 hb1
  go_enter Try.func100, Try.ntmps100
  go_wp2_with (fail)
  rw [hbase.out] at HA HR ⊢
  have Hc1 := Lib.hid (Hck'.out _ Hb1.out)
  generalize hV : World.alloc (World.alloc w _) _ = V at HA HR Hb1 Hc1 ⊢
  clear hV
  have x0 := HA.out.cell 0
  have xl := HA.out.lt
  simp only [List.getElem?_cons_zero] at x0
  go_wp2_with (fail)
  refine Hc1.out.mono ?_
  clear Hc1
  rintro e w2 ⟨rfl, hb2⟩
  have HA2 := Lib.hid (HA.out.below hb2 HA.out.lt)
  have HR2 := Lib.hid (HR.out.below hb2 HR.out.lt)
  have Hb2 := Lib.hid (Hb1.out.trans (hb2.mono Hb1.out.size))
  clear hb2 x0 xl HA HR Hb1
  have r0 := HR2.out.cell 0
  have r1 := HR2.out.cell 1
  have r2 := HR2.out.cell 2
  have rl := HR2.out.lt
  have rf0 := HR2.out.frozen 0
  have rf1 := HR2.out.frozen 1
  have rf2 := HR2.out.frozen 2
  simp only [List.getElem?_cons_zero, List.getElem?_cons_succ] at r0 r1 r2
  by_cases h1 : C1 = 0
  case neg =>
    have h1b : (C1 != 0) = true := by rw [bne_iff_ne]; exact h1
    have hEE : Hid (numE rs ts = C1) := Lib.hid (by rw [hE.out]; exact if_neg h1)
    have HN1 := Lib.hid h1
    clear h1
    go_wp2_with (fail)
    have hR := ((HR2.out.set 0 (.slice none 0 0)).set 1 (.slice none 0 0)).set 2 (.slice none 0 0)
    have hlo : w.heap.size ≤ base + 1 := by have := hbase.out; omega
    have hB : Below w.heap.size w (((w2.setCell ⟨base + 1, 0, none⟩ (.slice none 0 0)).setCell ⟨base + 1, 1, none⟩ (.slice none 0 0)).setCell ⟨base + 1, 2, none⟩ (.slice none 0 0)) := ((Hb2.out.setCell hlo _).setCell hlo _).setCell hlo _
    generalize hW : World.setCell (World.setCell (World.setCell _ _ _) _ _) _ _ = W9 at hR hB ⊢
    simp only [List.set_cons_zero, List.set_cons_succ] at hR
    have y0 := hR.cell 0
    have y1 := hR.cell 1
    have y2 := hR.cell 2
    simp only [List.getElem?_cons_zero, List.getElem?_cons_succ] at y0 y1 y2
    refine bodyPost_ret (v := .tuple #[.agg #[.slice none 0 0, .slice none 0 0, .slice none 0 0], .int .i64 C1]) (by simp [results, Try.results100, go_sem, y0, y1, y2]; try first | rfl | assumption | omega) rfl ?_
    rw [← hQ.out, hEE.out]
    exact ⟨nilCf, rfl, nilCf_at _, by rw [if_neg HN1.out]; rfl, hB⟩
  case pos =>
  have h1b : (C1 != 0) = false := by rw [h1]; rfl
  have hE2 : Hid (numE rs ts = if TB = true then if 60 < T then 2 else if FF.length = 0 then 0 else 80 else 1) := Lib.hid (by rw [hE.out, if_pos h1])
  clear h1
  go_wp2_with (fail)
  clear r0 r1 r2 rl rf0 rf1 rf2
  go_loopw [27] (fun iv wr => ∃ k : Nat, k ≤ T ∧ iv = .int .i64 (k : Int) ∧ Hid (TB = tokB (ts.take k) (ts.drop k)) ∧ wr = w2) (fun iv _ => T - (intOf iv).toNat)
  case atStart => exact ⟨0, Nat.zero_le _, rfl, Lib.hid (by rw [← hTB.out]; rfl), rfl⟩
  case round =>
    obtain ⟨k, hk, rfl, HB, hwr⟩ := hrel
    subst hwr
    by_cases hlt : k < T
    · have hkI : (k : Int) < (T : Int) := by omega
      have hkI0 : (0 : Int) ≤ (k : Int) := by omega
      have hkc : (k : Int) ≤ (tc : Int) := by omega
      have hkl : k < ts.length := by rw [HT.out]; exact hlt
      have hTw := Ht.out.grown Hb2.out
      obtain ⟨b, off, rfl⟩ := hTw.at_ k (by rw [List.length_map]; exact hkl)
      have c0 := hTw.cell b off rfl k (by rw [List.length_map]; exact hkl)
      rw [List.getElem_map] at c0
      have htk : Hid (ts.take (k + 1) = ts.take k ++ [ts[k]]) := Lib.hid (by rw [List.take_add_one, List.getElem?_eq_getElem hkl]; rfl)
      have hdr : Hid (ts.drop k = ts[k] :: ts.drop (k + 1)) := Lib.hid (List.drop_eq_getElem_cons hkl)
      obtain ⟨e, he⟩ : ∃ v, Hid (ts[k] = v) := ⟨_, Lib.hid rfl⟩
      rw [he.out] at c0 htk hdr
      have HB2 : Hid (TB = (nameB e && !mem e (ts.take k) && tokB (ts.take (k + 1)) (ts.drop (k + 1)))) := Lib.hid (by rw [HB.out, hdr.out, tokB, htk.out])
      have hbl := World.block_lt_of_cell? _ _ c0
      have Hc2 := Lib.hid (refHas_any (ts.take k) _ tc e wr (Nms.take hTw k))
      rw [show (ts.take k).length = k by rw [List.length_take]; omega] at Hc2
      have Hin := Lib.hid (refIsName_any e)
      obtain ⟨S1, hS1⟩ : ∃ S, Hid (nameB e = S) := ⟨_, Lib.hid rfl⟩
      obtain ⟨S2, hS2⟩ : ∃ S, Hid (mem e (ts.take k) = S) := ⟨_, Lib.hid rfl⟩
      rw [hS1.out, hS2.out] at HB2
      rw [hS1.out] at Hin
      rw [hS2.out] at Hc2
      clear hTw htk hdr HB
      go_wp2_with (fail)
      refine (Hin.out _).mono ?_
      rintro r w3 ⟨rfl, hw3⟩
      subst w3
      have r0 := HR2.out.cell 0
      have r1 := HR2.out.cell 1
      have r2 := HR2.out.cell 2
      have rl := HR2.out.lt
      have rf0 := HR2.out.frozen 0
      have rf1 := HR2.out.frozen 1
      have rf2 := HR2.out.frozen 2
      simp only [List.getElem?_cons_zero, List.getElem?_cons_succ] at r0 r1 r2
      cases S1
      · have hEE : Hid (numE rs ts = 1) := Lib.hid (by rw [hE2.out, HB2.out]; rfl)
        go_wp2_with (fail)
        have hR := ((HR2.out.set 0 (.slice none 0 0)).set 1 (.slice none 0 0)).set 2 (.slice none 0 0)
        have hlo : w.heap.size ≤ base + 1 := by have := hbase.out; omega
        have hB : Below w.heap.size w (((wr.setCell ⟨base + 1, 0, none⟩ (.slice none 0 0)).setCell ⟨base + 1, 1, none⟩ (.slice none 0 0)).setCell ⟨base + 1, 2, none⟩ (.slice none 0 0)) := ((Hb2.out.setCell hlo _).setCell hlo _).setCell hlo _
        generalize hW : World.setCell (World.setCell (World.setCell _ _ _) _ _) _ _ = W9 at hR hB ⊢
        simp only [List.set_cons_zero, List.set_cons_succ] at hR
        have y0 := hR.cell 0
        have y1 := hR.cell 1
        have y2 := hR.cell 2
        simp only [List.getElem?_cons_zero, List.getElem?_cons_succ] at y0 y1 y2
        refine bodyPost_ret (v := .tuple #[.agg #[.slice none 0 0, .slice none 0 0, .slice none 0 0], .int .i64 1]) (by simp [results, Try.results100, go_sem, y0, y1, y2]; try first | rfl | assumption | omega) rfl ?_
        rw [← hQ.out, hEE.out]
        exact ⟨nilCf, rfl, nilCf_at _, by rw [if_neg (by decide)]; rfl, hB⟩
      · go_wp2_with (fail)
        refine Hc2.out.mono ?_
        rintro r w3 ⟨rfl, hw3⟩
        subst w3
        cases S2
        · go_wp2_with (fail)
          exact ⟨⟨k + 1, by omega, by go_num, Lib.hid (by rw [HB2.out]; simp), by first | rfl | trivial⟩, by simp [intOf]; omega⟩
        · have hEE : Hid (numE rs ts = 1) := Lib.hid (by rw [hE2.out, HB2.out]; rfl)
          go_wp2_with (fail)
          have hR := ((HR2.out.set 0 (.slice none 0 0)).set 1 (.slice none 0 0)).set 2 (.slice none 0 0)
          have hlo : w.heap.size ≤ base + 1 := by have := hbase.out; omega
          have hB : Below w.heap.size w (((wr.setCell ⟨base + 1, 0, none⟩ (.slice none 0 0)).setCell ⟨base + 1, 1, none⟩ (.slice none 0 0)).setCell ⟨base + 1, 2, none⟩ (.slice none 0 0)) := ((Hb2.out.setCell hlo _).setCell hlo _).setCell hlo _
          generalize hW : World.setCell (World.setCell (World.setCell _ _ _) _ _) _ _ = W9 at hR hB ⊢
          simp only [List.set_cons_zero, List.set_cons_succ] at hR
          have y0 := hR.cell 0
          have y1 := hR.cell 1
          have y2 := hR.cell 2
          simp only [List.getElem?_cons_zero, List.getElem?_cons_succ] at y0 y1 y2
          refine bodyPost_ret (v := .tuple #[.agg #[.slice none 0 0, .slice none 0 0, .slice none 0 0], .int .i64 1]) (by simp [results, Try.results100, go_sem, y0, y1, y2]; try first | rfl | assumption | omega) rfl ?_
          rw [← hQ.out, hEE.out]
          exact ⟨nilCf, rfl, nilCf_at _, by rw [if_neg (by decide)]; rfl, hB⟩
    · obtain rfl : T = k := by omega
      have hkI : ¬ (T : Int) < (T : Int) := by omega
      have hTBt : Hid (TB = true) := Lib.hid (by rw [HB.out, List.drop_eq_nil_of_le (by rw [HT.out]; exact Nat.le_refl _)]; rfl)
      have hE3 : Hid (numE rs ts = if 60 < T then 2 else if FF.length = 0 then 0 else 80) := Lib.hid (by rw [hE2.out, if_pos hTBt.out])
      have r0 := HR2.out.cell 0
      have r1 := HR2.out.cell 1
      have r2 := HR2.out.cell 2
      have rl := HR2.out.lt
      have rf0 := HR2.out.frozen 0
      have rf1 := HR2.out.frozen 1
      have rf2 := HR2.out.frozen 2
      simp only [List.getElem?_cons_zero, List.getElem?_cons_succ] at r0 r1 r2
      by_cases h60 : 60 < T
      · have h60I : (60 : Int) < (T : Int) := by omega
        have hEE : Hid (numE rs ts = 2) := Lib.hid (by rw [hE3.out, if_pos h60])
        go_wp2_with (fail)
        have hR := ((HR2.out.set 0 (.slice none 0 0)).set 1 (.slice none 0 0)).set 2 (.slice none 0 0)
        have hlo : w.heap.size ≤ base + 1 := by have := hbase.out; omega
        have hB : Below w.heap.size w (((wr.setCell ⟨base + 1, 0, none⟩ (.slice none 0 0)).setCell ⟨base + 1, 1, none⟩ (.slice none 0 0)).setCell ⟨base + 1, 2, none⟩ (.slice none 0 0)) := ((Hb2.out.setCell hlo _).setCell hlo _).setCell hlo _
        generalize hW : World.setCell (World.setCell (World.setCell _ _ _) _ _) _ _ = W9 at hR hB ⊢
        simp only [List.set_cons_zero, List.set_cons_succ] at hR
        have y0 := hR.cell 0
        have y1 := hR.cell 1
        have y2 := hR.cell 2
        simp only [List.getElem?_cons_zero, List.getElem?_cons_succ] at y0 y1 y2
        refine bodyPost_ret (v := .tuple #[.agg #[.slice none 0 0, .slice none 0 0, .slice none 0 0], .int .i64 2]) (by simp [results, Try.results100, go_sem, y0, y1, y2]; try first | rfl | assumption | omega) rfl ?_
        rw [← hQ.out, hEE.out]
        exact ⟨nilCf, rfl, nilCf_at _, by rw [if_neg (by decide)]; rfl, hB⟩
      have h60I : ¬ (60 : Int) < (T : Int) := by omega
      have hE4 : Hid (numE rs ts = if FF.length = 0 then 0 else 80) := Lib.hid (by rw [hE3.out, if_neg h60])
      have x0 := HA2.out.cell 0
      have xl := HA2.out.lt
      simp only [List.getElem?_cons_zero] at x0
      clear hE hE2 hE3 HB hTBt
      go_wp2_with (fail)
      refine (Hfl'.out _ Hb2.out).mono ?_
      rintro r w4 ⟨fa, fc, rfl, _, hb4⟩
      have HA4 := Lib.hid (HA2.out.below hb4 HA2.out.lt)
      have HR4 := Lib.hid (HR2.out.below hb4 HR2.out.lt)
      have Hb4 := Lib.hid (Hb2.out.trans (hb4.mono Hb2.out.size))
      clear hb4 x0 xl HA2 HR2 Hb2 r0 r1 r2 rl rf0 rf1 rf2 Hfl' Hck'
      obtain ⟨FN, hFN⟩ : ∃ q, Hid (FF.length = q) := ⟨_, Lib.hid rfl⟩
      rw [hFN.out] at hE4 ⊢
      have r0 := HR4.out.cell 0
      have r1 := HR4.out.cell 1
      have r2 := HR4.out.cell 2
      have rl := HR4.out.lt
      have rf0 := HR4.out.frozen 0
      have rf1 := HR4.out.frozen 1
      have rf2 := HR4.out.frozen 2
      simp only [List.getElem?_cons_zero, List.getElem?_cons_succ] at r0 r1 r2
      by_cases hf0 : FN = 0
      case neg =>
        have hfI : (0 : Int) < (FN : Int) := by omega
        have hEE : Hid (numE rs ts = 80) := Lib.hid (by rw [hE4.out, if_neg hf0])
        go_wp2_with (fail)
        have hR := ((HR4.out.set 0 (.slice none 0 0)).set 1 (.slice none 0 0)).set 2 (.slice none 0 0)
        have hlo : w.heap.size ≤ base + 1 := by have := hbase.out; omega
        have hB : Below w.heap.size w (((w4.setCell ⟨base + 1, 0, none⟩ (.slice none 0 0)).setCell ⟨base + 1, 1, none⟩ (.slice none 0 0)).setCell ⟨base + 1, 2, none⟩ (.slice none 0 0)) := ((Hb4.out.setCell hlo _).setCell hlo _).setCell hlo _
        generalize hW : World.setCell (World.setCell (World.setCell _ _ _) _ _) _ _ = W9 at hR hB ⊢
        simp only [List.set_cons_zero, List.set_cons_succ] at hR
        have y0 := hR.cell 0
        have y1 := hR.cell 1
        have y2 := hR.cell 2
        simp only [List.getElem?_cons_zero, List.getElem?_cons_succ] at y0 y1 y2
        refine bodyPost_ret (v := .tuple #[.agg #[.slice none 0 0, .slice none 0 0, .slice none 0 0], .int .i64 80]) (by simp [results, Try.results100, go_sem, y0, y1, y2]; try first | rfl | assumption | omega) rfl ?_
        rw [← hQ.out, hEE.out]
        exact ⟨nilCf, rfl, nilCf_at _, by rw [if_neg (by decide)]; rfl, hB⟩
      case pos =>
      have hfI : ¬ (0 : Int) < (FN : Int) := by omega
      have hEE : Hid (numE rs ts = 0) := Lib.hid (by rw [hE4.out, if_pos hf0])
      have HG := Lib.hid (HGp.out hEE.out)
      clear hf0 hE4 HGp r0 r1 r2 rl rf0 rf1 rf2
      go_wp2_with (fail)
      have HA4d : Blk w4.drew base 124 [.slice ga L gc] := HA4.out
      have HS14 : Hid (w4.drew.cell? ⟨base, 0, none⟩ = some (.slice ga L gc)) := Lib.hid (by simpa using HA4d.cell 0)
      have Hb4d := Lib.hid (Hb4.out.drew)
      have hxb : w.heap.size ≤ w4.drew.heap.size := Hb4.out.size
      have HR4d := Lib.hid (show Blk w4.drew (base + 1) 25 [.slice none 0 0, .slice none 0 0, .slice none 0 0] from HR4.out)
      have HA4e := Lib.hid HA4d
      have hxb4 : w.heap.size ≤ w4.heap.size := Hb4.out.size
      have Hap := Lib.hid (fun W (hb : Below w.heap.size w W) => OwnS.app (n := 0) (l := []) (base := W.heap.size) (World.ownsRow_nil W _ 9 1) ta tc ts (Ht.out.grown hb) 22 (by rw [HT.out]; omega) (Nat.le_refl _))
      rw [HT.out, Nat.zero_add] at Hap
      clear HA4d
      refine wp_region_held_drew (S := fun w' => w'.cell? ⟨base, 0, none⟩ = some (.slice ga L gc)) (by kernel_rfl) ?_ (fun hHeld => ?_)
      · exact HS14.out
      refine wpAnyH_take (i := 0) (v := ?_) (iatLS iatZS) (by kernel_rfl) (by kernel_rfl) (by kernel_rfl) (fun _ _ _ h => h) (Or.inl ⟨by rfl, ?_⟩) (by assumption) ?_
      rotate_left
      · intro w hSw
        try dsimp only at hSw
        go_simp
        all_goals with_reducible rfl
      try simp only [Act.put, List.setIfInBounds_toArray, List.set_cons_zero, List.set_cons_succ]
      refine wpAnyH_take (i := 2) (v := ?_) (iatLS (iatSS (iatSS iatZS))) (by kernel_rfl) (by kernel_rfl) (by kernel_rfl) (fun _ _ _ h => h) (Or.inl ⟨by rfl, ?_⟩) (by assumption) ?_
      rotate_left
      · intro w hSw
        try dsimp only at hSw
        go_simp
        all_goals with_reducible rfl
      try simp only [Act.put, List.setIfInBounds_toArray, List.set_cons_zero, List.set_cons_succ]
      refine wpAnyH_ready (rs := [1, 5]) (by kernel_rfl) (by simp) ?_
      refine AllReadyH.cons (iatLS (iatSS iatZS)) (fun K hK => ?_) (AllReadyH.cons (iatLS (iatSS (iatSS (iatSS (iatSS (iatSS iatZS)))))) (fun K hK => ?_) (AllReadyH.nil))
      ·
        obtain ⟨a5, c5, V5, hr5, ho5, hb5⟩ := Hap.out w4.drew Hb4d.out
        rw [List.nil_append] at ho5
        have HO5_5 := Lib.hid ho5
        have HA5 := Lib.hid (HA4e.out.below hb5 HA4e.out.lt)
        have HR5 := Lib.hid (HR4d.out.below hb5 HR4d.out.lt)
        have HS5 : Hid (V5.cell? ⟨base, 0, none⟩ = some (.slice ga L gc)) := Lib.hid (by simpa using HA5.out.cell 0)
        have Hb5 := Lib.hid (Hb4d.out.trans (hb5.mono hxb))
        have hx5 := Nat.le_trans hxb hb5.size
        clear ho5 hb5
        refine stepAppS rfl _ _ 22 22 rfl _ _ _ _ rfl rfl hr5 ?_
        clear hr5
        refine hK.out _ _ ?_ (fun hHeld => ?_)
        · exact HS5.out
        clear hK K
        try simp only [Act.put, List.setIfInBounds_toArray, List.set_cons_zero, List.set_cons_succ]
        refine wpAnyH_ready (rs := [3, 5]) (by kernel_rfl) (by simp) ?_
        refine AllReadyH.cons (iatLS (iatSS (iatSS (iatSS iatZS)))) (fun K hK => ?_) (AllReadyH.cons (iatLS (iatSS (iatSS (iatSS (iatSS (iatSS iatZS)))))) (fun K hK => ?_) (AllReadyH.nil))
        ·
          go_simp
          (with_reducible refine (Hnm'.out V5 Hb5.out).mono ?_)
          rintro e5 V6 ⟨a6, c6, rfl, ho6, hb6⟩
          have HN6 := Lib.hid ho6
          have HA6 := Lib.hid (HA5.out.below hb6 HA5.out.lt)
          have HR6 := Lib.hid (HR5.out.below hb6 HR5.out.lt)
          have HS6 : Hid (V6.cell? ⟨base, 0, none⟩ = some (.slice ga L gc)) := Lib.hid (by simpa using HA6.out.cell 0)
          have Hb6 := Lib.hid (Hb5.out.trans (hb6.mono hx5))
          have hx6 := Nat.le_trans hx5 hb6.size
          have HO5_6 := Lib.hid (World.ownsRow.kept HO5_5.out (below_grownBy hb6 none) (by cases h : (Value.slice a5 T c5).ownBlock <;> simp))
          clear ho6 hb6
          try dsimp only
          refine hK.out _ _ ?_ (fun hHeld => ?_)
          · exact HS6.out
          clear hK K
          try simp only [Act.put, List.setIfInBounds_toArray, List.set_cons_zero, List.set_cons_succ]
          refine wpAnyH_take (i := 4) (v := ?_) (iatLS (iatSS (iatSS (iatSS (iatSS iatZS))))) (by kernel_rfl) (by kernel_rfl) (by kernel_rfl) (fun _ _ _ h => h) (Or.inl ⟨by rfl, ?_⟩) (by assumption) ?_
          rotate_left
          · intro w hSw
            try dsimp only at hSw
            go_simp
            all_goals with_reducible rfl
          try simp only [Act.put, List.setIfInBounds_toArray, List.set_cons_zero, List.set_cons_succ]
          refine wpAnyH_ready (rs := [5]) (by kernel_rfl) (by simp) ?_
          refine AllReadyH.cons (iatLS (iatSS (iatSS (iatSS (iatSS (iatSS iatZS)))))) (fun K hK => ?_) AllReadyH.nil
          go_simp
          refine hK.out _ _ ?_ (fun hHeld => ?_)
          · exact by simpa using (HA6.out.alloc _).cell 0
          clear hK K
          try simp only [Act.put, List.setIfInBounds_toArray, List.set_cons_zero, List.set_cons_succ]
          refine wpAnyH_ready (rs := [6]) (by kernel_rfl) (by simp) ?_
          refine AllReadyH.cons (iatLS (iatSS (iatSS (iatSS (iatSS (iatSS (iatSS iatZS))))))) (fun K hK => ?_) AllReadyH.nil
          go_simp
          have HB9 := Lib.hid (Blk.new V6 25 #[.slice a5 T c5, .slice a6 L c6, .slice none 0 0])
          have HA9 := Lib.hid (HA6.out.alloc (.cells #[.slice a5 T c5, .slice a6 L c6, .slice none 0 0] 25))
          have HR9 := Lib.hid (HR6.out.alloc (.cells #[.slice a5 T c5, .slice a6 L c6, .slice none 0 0] 25))
          have Hb9 := Lib.hid (Hb6.out.alloc hx6 (.cells #[.slice a5 T c5, .slice a6 L c6, .slice none 0 0] 25))
          have HO9 := Lib.hid (World.ownsRow.alloc HO5_6.out (.cells #[.slice a5 T c5, .slice a6 L c6, .slice none 0 0] 25))
          have HN9 := Lib.hid (World.ownsRow.alloc HN6.out (.cells #[.slice a5 T c5, .slice a6 L c6, .slice none 0 0] 25))
          have hcbb := HR6.out.lt
          obtain ⟨cb, hcb⟩ : ∃ q, Hid (V6.heap.size = q) := ⟨_, Lib.hid rfl⟩
          rw [hcb.out] at HB9 hcbb ⊢
          generalize hW : World.alloc V6 _ = W9 at HB9 HA9 HR9 Hb9 HO9 HN9 ⊢
          clear hW
          have hO9 := own_mono HO9.out (Nat.zero_le _)
          have hN9 := own_mono HN9.out (Nat.zero_le _)
          have HO := Lib.hid hO9
          have HN := Lib.hid hN9
          have HS9 : Hid (W9.cell? ⟨base, 0, none⟩ = some (.slice ga L gc)) := Lib.hid (by simpa using HA9.out.cell 0)
          clear hO9 hN9 HO9 HN9
          refine hK.out _ _ ?_ (fun hHeld => ?_)
          · exact HS9.out
          clear hK K
          try simp only [Act.put, List.setIfInBounds_toArray, List.set_cons_zero, List.set_cons_succ]
          refine wpAnyH_done (by kernel_rfl) ?_ _
          have x0 := HA9.out.cell 0
          have xl := HA9.out.lt
          simp only [List.getElem?_cons_zero] at x0
          obtain ⟨f, hf⟩ : ∃ q, Hid (W9.heap.size = q) := ⟨_, Lib.hid rfl⟩
          have hcf : cb < f := by rw [← hf.out]; exact HB9.out.lt
          have HK0 : Hid (RbSt W9 W9 f cb G T L rs a5 c5 a6 c6 0 none 0 []) := Lib.hid ⟨HB9.out, World.ownsRow_nil _ _ _ 1, (fun x h => by cases h), rfl, below_grownBy (Below.refl _ W9) _⟩
          go_wp2_with (fail)
          clear x0 xl
          go_loopw [62] (fun iv wr => ∃ (k : Nat) (aa : Option Addr) (ac : Nat) (xs : List IrD), k ≤ L ∧ iv = .int .i64 (k : Int) ∧ Hid (RbSt W9 wr f cb G T L rs a5 c5 a6 c6 k aa ac xs)) (fun iv _ => L - (intOf iv).toNat)
          case atStart => exact ⟨0, none, 0, [], Nat.zero_le _, rfl, HK0⟩
          case round =>
            clear HK0
            obtain ⟨k, aa, ac, xs, hk, rfl, HS⟩ := hrel
            have hfr : Below w.heap.size w wr := Hb9.out.trans (belowAt HS.out.frm (B := w.heap.size) (fun i e => by injection e with e; have := hbase.out; omega) Hb9.out.size)
            have hfw : f ≤ wr.heap.size := by rw [← hf.out]; exact HS.out.frm.size
            by_cases hlt : k < L
            · have hkI : (k : Int) < (L : Int) := by omega
              have hkI0 : (0 : Int) ≤ (k : Int) := by omega
              have hkl : k < rs.length := by rw [HL.out]; exact hlt
              obtain ⟨b, off, rfl⟩ := Hl.out.at_ k hkl
              obtain ⟨c0, c1⟩ := (Hl.out.grown hfr).cell b off rfl k hkl
              have hm : rs[k] ∈ rs := List.getElem_mem hkl
              have hst : Hid ((rs.take (k + 1)).map (fun r => r.ds.map (fun d => d.l.map G)) = (rs.take k).map (fun r => r.ds.map (fun d => d.l.map G)) ++ [rs[k].ds.map (fun d => d.l.map G)]) := Lib.hid (by rw [List.take_add_one, List.getElem?_eq_getElem hkl, List.map_append]; rfl)
              have hsz := szR_take rs k hkl
              have hsz2 := szR_le rs (k + 1)
              obtain ⟨e, he⟩ : ∃ v, Hid (rs[k] = v) := ⟨_, Lib.hid rfl⟩
              rw [he.out] at c0 c1 hm hst hsz
              have hal := Hl.out.alts e hm
              have hGe := HG.out e hm
              have hfe := Hfew.out
              have hszm : ∀ d ∈ e.ds, d.l.length ≤ 1000 := fun d hd => by have := szA_mem hd; omega
              have hel : e.ds.length ≤ 1000 := by omega
              obtain ⟨en, eds, ea, ec⟩ := e
              dsimp only at c0 c1 hst hal hGe hszm hel
              have Hal := Lib.hid hal
              have HGe := Lib.hid hGe
              have Hszm := Lib.hid hszm
              have Hst := Lib.hid hst
              clear hsz hsz2 hal hGe hfe hszm hst hm
              have hbl := World.block_lt_of_cell? wr _ c0
              have hdm : eds.length ≤ ec ∧ ec ≤ 9223372036854775807 := ⟨by have := Hal.out.row.le; rwa [List.length_map] at this, Hal.out.row.max⟩
              obtain ⟨ED, hED⟩ : ∃ q, Hid (eds.length = q) := ⟨_, Lib.hid rfl⟩
              rw [hED.out] at c1 hdm hel
              have hg1 : wr.grownBy (wr.alloc (.cells #[.string en, .slice ea ED ec] 177)) none := World.grownBy_alloc _ _ _
              have HV := Lib.hid (HS.out.grow hg1)
              have hBx := Blk.new wr 177 #[.string en, .slice ea ED ec]
              have HNv0 := own_kept_ty HN.out HS.out.frm (fun g h1 => by injection h1 with h1; subst h1; exact ⟨_, _, _, HB9.out, by decide⟩)
              have HNv := Lib.hid (show Nms _ a6 c6 NM from own_vals (World.ownsRow.alloc HNv0 (.cells #[.string en, .slice ea ED ec] 177)) (by rw [List.length_map, hNl.out]))
              have HfV := Lib.hid (hfr.alloc hfr.size (.cells #[.string en, .slice ea ED ec] 177))
              have hfV : f ≤ (wr.alloc (.cells #[.string en, .slice ea ED ec] 177)).heap.size := Nat.le_trans hfw (by simp [go_sem])
              have y1 := hBx.cell 1
              have yl := hBx.lt
              simp only [List.getElem?_cons_zero, List.getElem?_cons_succ] at y1
              clear hg1 HNv0 hBx
              go_wp2_with (fail)
              generalize hV : World.alloc wr _ = V0 at HV HNv HfV hfV y1 yl ⊢
              clear hV y1 yl c0 c1 hbl HS hfr hfw
              obtain ⟨b1, hb1⟩ : ∃ q, Hid (V0.heap.size = q) := ⟨_, Lib.hid rfl⟩
              go_loopw [12, 69] (fun s iv wr => ∃ (j : Nat) (a2 : Option Addr) (c2 : Nat) (ds2 : List IltD), j ≤ ED ∧ iv = .int .i64 (j : Int) ∧ s = .slice a2 j c2 ∧ Hid (ds2.length = j) ∧ Hid (OwnXI wr b1 a2 c2 ds2) ∧ Hid (ds2.map (fun d => d.l) = (eds.take j).map (fun d => d.l.map G)) ∧ Below b1 V0 wr) (fun _ iv _ => ED - (intOf iv).toNat)
              case atStart => exact ⟨0, none, 0, [], Nat.zero_le _, rfl, rfl, Lib.hid rfl, Lib.hid ⟨World.ownsRow_nil _ _ _ 1, fun d h => by cases h⟩, Lib.hid rfl, Below.refl _ V0⟩
              case round =>
                obtain ⟨j, a2, c2, ds2, hj, rfl, rfl, Hd2, HX, Hm2, hbr⟩ := hrel
                have hbr' : Below V0.heap.size V0 wr := by rw [hb1.out]; exact hbr
                have hfr2 : Below w.heap.size w wr := HfV.out.trans (hbr'.mono HfV.out.size)
                have hb1w : b1 ≤ wr.heap.size := by rw [← hb1.out]; exact hbr.size
                by_cases hlt2 : j < ED
                · have hjI : (j : Int) < (ED : Int) := by omega
                  have hjI0 : (0 : Int) ≤ (j : Int) := by omega
                  have hje : j < eds.length := by rw [hED.out]; exact hlt2
                  have hAw := Hal.out.grown hfr2
                  obtain ⟨b2, o2, rfl⟩ := hAw.row.at_ j (by rw [List.length_map]; exact hje)
                  have f0 := hAw.row.cell b2 o2 rfl j (by rw [List.length_map]; exact hje)
                  rw [List.getElem_map] at f0
                  have hu := hAw.nms _ (List.getElem_mem hje)
                  have hGu := HGe.out _ (List.getElem_mem hje)
                  have hNu := Hszm.out _ (List.getElem_mem hje)
                  have hst2 : Hid ((eds.take (j + 1)).map (fun d => d.l.map G) = (eds.take j).map (fun d => d.l.map G) ++ [eds[j].l.map G]) := Lib.hid (by rw [List.take_add_one, List.getElem?_eq_getElem hje, List.map_append]; rfl)
                  obtain ⟨u, hud⟩ : ∃ v, Hid (eds[j] = v) := ⟨_, Lib.hid rfl⟩
                  rw [hud.out] at f0 hu hGu hNu hst2
                  unfold AltD.v at f0
                  obtain ⟨ul, ua, uc⟩ := u
                  dsimp only at f0 hu hGu hNu hst2
                  obtain ⟨N, hN⟩ : ∃ q, Hid (ul.length = q) := ⟨_, Lib.hid rfl⟩
                  rw [hN.out] at f0 hNu
                  have HU := Lib.hid hu
                  have HGu := Lib.hid hGu
                  have hbl := World.block_lt_of_cell? wr _ f0
                  clear hu hGu hAw hbr'
                  go_wp2_with (fail)
                  clear f0 hbl
                  obtain ⟨V2, rfl⟩ : ∃ V2, V2 = wr := ⟨_, rfl⟩
                  have HTw := Lib.hid (Ht.out.grown hfr2)
                  have HNw := Lib.hid (HNv.out.grown (show Below V0.heap.size V0 V2 by rw [hb1.out]; exact hbr))
                  have HVw := Lib.hid (HV.out.grow (below_grownBy (show Below V0.heap.size V0 V2 by rw [hb1.out]; exact hbr) none))
                  have Hfr2 := Lib.hid hfr2
                  clear hfr2
                  obtain ⟨g2, hg2⟩ : ∃ q, Hid (V2.heap.size = q) := ⟨_, Lib.hid rfl⟩
                  go_loopw [15, 75] (fun s iv wr => ∃ (i : Nat) (a3 : Option Addr) (c3 : Nat), i ≤ N ∧ iv = .int .i64 (i : Int) ∧ s = .slice a3 i c3 ∧ Hid (wr.ownsRow g2 3 1 (.slice a3 i c3) i ((ul.take i).map (fun x => Value.int .i64 (G x)))) ∧ Below g2 V2 wr) (fun _ iv _ => N - (intOf iv).toNat)
                  case atStart => exact ⟨0, none, 0, Nat.zero_le _, rfl, rfl, Lib.hid (World.ownsRow_nil _ _ _ 1), Below.refl _ V2⟩
                  case round =>
                    obtain ⟨i, a3, c3, hi, rfl, rfl, HO3, hbi⟩ := hrel
                    have hbi' : Below V2.heap.size V2 wr := by rw [hg2.out]; exact hbi
                    have hg2w : g2 ≤ wr.heap.size := by rw [← hg2.out]; exact hbi.size
                    by_cases hlt3 : i < N
                    · have hiI : (i : Int) < (N : Int) := by omega
                      have hiI0 : (0 : Int) ≤ (i : Int) := by omega
                      have hil : i < ul.length := by rw [hN.out]; exact hlt3
                      have hUw := HU.out.grown hbi'
                      obtain ⟨b4, o4, rfl⟩ := hUw.at_ i (by rw [List.length_map]; exact hil)
                      have n0 := hUw.cell b4 o4 rfl i (by rw [List.length_map]; exact hil)
                      rw [List.getElem_map] at n0
                      have hGx := HGu.out _ (List.getElem_mem hil)
                      have htk : Hid ((ul.take (i + 1)).map (fun x => Value.int .i64 (G x)) = (ul.take i).map (fun x => Value.int .i64 (G x)) ++ [.int .i64 (G ul[i])]) := Lib.hid (by rw [List.take_add_one, List.getElem?_eq_getElem hil, List.map_append]; rfl)
                      obtain ⟨y, hy⟩ : ∃ v, Hid (ul[i] = v) := ⟨_, Lib.hid rfl⟩
                      rw [hy.out] at n0 hGx htk
                      have hbl := World.block_lt_of_cell? wr _ n0
                      have Hc1 := Lib.hid (place_any ts ta tc y wr (HTw.out.grown hbi'))
                      have Hc2 := Lib.hid (place_any NM a6 c6 y wr (HNw.out.grown hbi'))
                      have hp1 := plc_bound y ts 0
                      have hp2 := plc_bound y NM 0
                      obtain ⟨P1, hP1⟩ : ∃ q, Hid (plcP y 0 ts = q) := ⟨_, Lib.hid rfl⟩
                      obtain ⟨P2, hP2⟩ : ∃ q, Hid (plcP y 0 NM = q) := ⟨_, Lib.hid rfl⟩
                      rw [hP1.out, HT.out] at hp1 Hc1
                      rw [hP2.out, hNl.out] at hp2 Hc2
                      rw [hP1.out, hP2.out] at hGx
                      obtain ⟨a4, c4, w5, hrun, ho4, hg4⟩ := run_pushV wr 35 35 3 (.int .i64 0) 1 8 Try.underlying35 info_elI rfl (by decide) (by decide) [.int .i64 (G y)] rfl (by simp [Value.oneCell']) HO3.out (by omega) hg2w
                      have hb5 := Lib.hid (hbi.trans (belowAt hg4 (B := g2) (fun g e => (own_typ HO3.out g e).1) hg2w))
                      have HO4 : Hid (w5.ownsRow g2 3 1 (.slice a4 (i + 1) c4) (i + 1) ((ul.take (i + 1)).map (fun x => Value.int .i64 (G x)))) := Lib.hid (by rw [htk.out]; exact ho4)
                      have HVi := Lib.hid (HVw.out.grow (below_grownBy hbi' none))
                      have d1 := HVi.out.box.cell 1
                      have dl := HVi.out.box.lt
                      simp only [List.getElem?_cons_zero, List.getElem?_cons_succ] at d1
                      obtain ⟨gv, hgv⟩ : ∃ q, Hid (G y = q) := ⟨_, Lib.hid rfl⟩
                      rw [hgv.out] at hrun hGx
                      clear ho4 hg4 htk HO3 hUw hbi'
                      by_cases hneg : P1 < 0
                      · rw [if_pos hneg] at hGx
                        rw [hGx] at hrun
                        have Hrun := Lib.hid hrun
                        clear hrun hGx hgv
                        go_wp2_with (fail)
                        refine Hc1.out.mono ?_
                        rintro r w3 ⟨rfl, hw3⟩
                        subst w3
                        go_wp2_with (fail)
                        refine Hc2.out.mono ?_
                        rintro r w3 ⟨rfl, hw3⟩
                        subst w3
                        go_wp2_with (at_builtin; refine wpList_append_run rfl _ _ 35 35 rfl _ _ _ _ rfl rfl Hrun.out ?_)
                        exact ⟨⟨i + 1, a4, c4, by omega, by go_num, rfl, HO4, hb5.out⟩, by simp [intOf]; omega⟩
                      · rw [if_neg hneg] at hGx
                        rw [hGx] at hrun
                        have Hrun := Lib.hid hrun
                        clear hrun hGx hgv
                        go_wp2_with (fail)
                        refine Hc1.out.mono ?_
                        rintro r w3 ⟨rfl, hw3⟩
                        subst w3
                        go_wp2_with (at_builtin; refine wpList_append_run rfl _ _ 35 35 rfl _ _ _ _ rfl rfl Hrun.out ?_)
                        exact ⟨⟨i + 1, a4, c4, by omega, by go_num, rfl, HO4, hb5.out⟩, by simp [intOf]; omega⟩
                    · obtain rfl : i = N := by omega
                      have hiI : ¬ (i : Int) < (i : Int) := by omega
                      have hul : ul.take i = ul := List.take_of_length_le (by rw [hN.out]; exact Nat.le_refl _)
                      have HXw := HX.out.below hbi'
                      have hg2b : b1 ≤ g2 := by rw [← hg2.out]; exact hb1w
                      have hout := HXw.out
                      rw [Hd2.out] at hout
                      obtain ⟨a4, c4, w5, hrun, ho4, hg4⟩ := run_pushV wr 32 32 35 (.slice none 0 0) 1 24 Try.underlying32 info_rowI rfl (by decide) (by decide) [.slice a3 i c3] rfl (by simp [Value.oneCell']) hout (by omega) (Nat.le_trans hg2b hg2w)
                      have rowA : ∀ g, (Value.slice a2 j c2).ownBlock = some g → ∃ cur t fr, wr.heap[g]? = some (.cells cur t fr) ∧ t = 35 := fun g h1 => (by obtain ⟨_, cur, h2⟩ := own_typ hout g h1; exact ⟨cur, _, _, h2, rfl⟩)
                      have hnew := own_kept_ty (own_mono HO3.out hg2b) hg4 (fun g h1 => by obtain ⟨cur, t, fr, h2, rfl⟩ := rowA g h1; exact ⟨cur, _, fr, h2, by decide⟩)
                      have hold := fun d hd => own_kept_ty (HXw.ins d hd) hg4 (fun g h1 => by obtain ⟨cur, t, fr, h2, rfl⟩ := rowA g h1; exact ⟨cur, _, fr, h2, by decide⟩)
                      have HX2 : Hid (OwnXI w5 b1 a4 c4 (ds2 ++ [⟨ul.map G, a3, c3⟩])) := Lib.hid ⟨by
                        rw [List.length_append, Hd2.out, List.map_append]
                        show w5.ownsRow b1 35 1 (.slice a4 (j + 1) c4) (j + 1) (ds2.map IltD.v ++ [.slice a3 (ul.map G).length c3])
                        rw [List.length_map, hN.out]
                        exact ho4, fun d hd => by
                        rcases List.mem_append.1 hd with hd | hd
                        · exact hold d hd
                        · rw [List.mem_singleton] at hd
                          subst hd
                          dsimp only
                          rw [List.length_map, hN.out, List.map_map]
                          rw [hul] at hnew
                          exact hnew⟩
                      have hb5 := Lib.hid (hbr.trans ((hbi'.mono hb1w).trans (belowAt hg4 (B := b1) (fun g e => (own_typ hout g e).1) (Nat.le_trans hg2b hg2w))))
                      have Hm3 : Hid ((ds2 ++ [(⟨ul.map G, a3, c3⟩ : IltD)]).map (fun d => d.l) = (eds.take (j + 1)).map (fun d => d.l.map G)) := Lib.hid (by rw [List.map_append, Hm2.out, hst2.out]; rfl)
                      have Hd3 : Hid ((ds2 ++ [(⟨ul.map G, a3, c3⟩ : IltD)]).length = j + 1) := Lib.hid (by rw [List.length_append, Hd2.out]; rfl)
                      have Hrun := Lib.hid hrun
                      clear hrun hout rowA hnew hold ho4 hg4 HXw hul hbi'
                      go_wp2_with (at_builtin; refine wpList_append_run rfl _ _ 32 32 rfl _ _ _ _ rfl rfl Hrun.out ?_)
                      exact ⟨⟨j + 1, a4, c4, _, by omega, by go_num, rfl, Hd3, HX2, Hm3, hb5.out⟩, by simp [intOf]; omega⟩
                · obtain rfl : j = ED := by omega
                  have hjI : ¬ (j : Int) < (j : Int) := by omega
                  have hds : eds.take j = eds := List.take_of_length_le (by rw [hED.out]; exact Nat.le_refl _)
                  have HVw := HV.out.grow (below_grownBy hbr' none)
                  have hfb : f ≤ b1 := by rw [← hb1.out]; exact hfV
                  have hfw := Nat.le_trans hfb hb1w
                  obtain ⟨aa2, ac2, W5, hrun5, hr5, hg5⟩ := run_pushV wr 23 23 32 (.slice none 0 0) 1 24 Try.underlying23 info_alts2 rfl (by decide) (by decide) [.slice a2 j c2] rfl (by simp [Value.oneCell']) HVw.row (by omega) hfw
                  have rowA : ∀ g, (Value.slice aa k ac).ownBlock = some g → ∃ cur t fr, wr.heap[g]? = some (.cells cur t fr) ∧ t = 32 := fun g h1 => (by obtain ⟨_, cur, h2⟩ := own_typ HVw.row g h1; exact ⟨cur, _, _, h2, rfl⟩)
                  have hC5 := HVw.box.kept hg5 (fun h1 => own_ne_ty HVw.row HVw.box (by decide) h1.symm)
                  have hX5 := fun x hx => (HVw.ins x hx).kept hg5 (fun g h1 => by obtain ⟨cur, t, fr, h2, rfl⟩ := rowA g h1; exact ⟨cur, _, fr, h2, by decide, by decide⟩)
                  have hx5 := (HX.out.mono hfb).kept hg5 (fun g h1 => by obtain ⟨cur, t, fr, h2, rfl⟩ := rowA g h1; exact ⟨cur, _, fr, h2, by decide, by decide⟩)
                  have hgS := grownBy_set W5 cb 2 (.slice aa2 (k + 1) ac2)
                  have boxS : ∀ g, some cb = some g → ∃ cur t fr, W5.heap[g]? = some (.cells cur t fr) ∧ t = 25 := fun g h1 => (by injection h1 with h1; subst h1; exact ⟨_, _, _, hC5, rfl⟩)
                  have hC6 := hC5.set 2 (.slice aa2 (k + 1) ac2)
                  simp only [List.set_cons_zero, List.set_cons_succ] at hC6
                  have hr6 := own_kept_ty hr5 hgS (fun g h1 => by obtain ⟨cur, t, fr, h2, rfl⟩ := boxS g h1; exact ⟨cur, _, fr, h2, by decide⟩)
                  have hX6 := fun x hx => (hX5 x hx).kept hgS (fun g h1 => by obtain ⟨cur, t, fr, h2, rfl⟩ := boxS g h1; exact ⟨cur, _, fr, h2, by decide, by decide⟩)
                  have hx6 := hx5.kept hgS (fun g h1 => by obtain ⟨cur, t, fr, h2, rfl⟩ := boxS g h1; exact ⟨cur, _, fr, h2, by decide, by decide⟩)
                  have hf6 : W9.grownBy (W5.setCell ⟨cb, 2, none⟩ (.slice aa2 (k + 1) ac2)) (some cb) := grownBy_trans (grownBy_trans HVw.frm hg5 (fun i e => .inr (by rw [hf.out]; exact (own_typ HVw.row i e).1))) hgS (fun i e => .inl e)
                  have HRb : Hid (RbSt W9 (W5.setCell ⟨cb, 2, none⟩ (.slice aa2 (k + 1) ac2)) f cb G T L rs a5 c5 a6 c6 (k + 1) aa2 ac2 (xs ++ [⟨ds2, a2, c2⟩])) := Lib.hid ⟨hC6, (by rw [List.map_append]; show World.ownsRow _ _ _ _ _ _ (xs.map IrD.v ++ [.slice a2 ds2.length c2]); rw [Hd2.out]; exact hr6),
                    (fun x hx => by rcases List.mem_append.1 hx with hx | hx; exact hX6 x hx; rw [List.mem_singleton] at hx; subst hx; exact hx6), (by rw [List.map_append, HVw.is_, Hst.out]; congr 1; show [ds2.map (fun d => d.l)] = _; rw [Hm2.out, hds]), hf6⟩
                  have q2 := HVw.box.cell 2
                  have q2l := HVw.box.lt
                  have q5 := hC5.cell 2
                  have q5l := hC5.lt
                  have q5f := hC5.frozen 2
                  simp only [List.getElem?_cons_zero, List.getElem?_cons_succ] at q2 q5
                  have Hrun := Lib.hid hrun5
                  clear hrun5 hr5 hg5 rowA hC5 hX5 hx5 hgS boxS hC6 hr6 hX6 hx6 hf6 HVw hbr' hds
                  go_wp2_with (at_builtin; refine wpList_append_run rfl _ _ 23 23 rfl _ _ _ _ rfl rfl Hrun.out ?_)
                  exact ⟨⟨k + 1, aa2, ac2, _, by omega, by go_num, HRb⟩, by simp [intOf]; omega⟩
            · obtain rfl : L = k := by omega
              have hkI : ¬ (L : Int) < (L : Int) := by omega
              have hcne : base + 1 ≠ cb := by omega
              have hlo : w.heap.size ≤ base + 1 := by have := hbase.out; omega
              have HRw := Lib.hid (HR9.out.kept HS.out.frm (fun e => by injection e with e; omega))
              have hR := ((HRw.out.set 0 (.slice a5 T c5)).set 1 (.slice a6 L c6)).set 2 (.slice aa L ac)
              have hg : wr.grownBy (((wr.setCell ⟨base + 1, 0, none⟩ (.slice a5 T c5)).setCell ⟨base + 1, 1, none⟩ (.slice a6 L c6)).setCell ⟨base + 1, 2, none⟩ (.slice aa L ac)) (some (base + 1)) := grownBy_trans (grownBy_trans (grownBy_set wr (base + 1) 0 (.slice a5 T c5)) (grownBy_set _ (base + 1) 1 (.slice a6 L c6)) (fun i e => .inl e)) (grownBy_set _ (base + 1) 2 (.slice aa L ac)) (fun i e => .inl e)
              have hB : Below w.heap.size w (((wr.setCell ⟨base + 1, 0, none⟩ (.slice a5 T c5)).setCell ⟨base + 1, 1, none⟩ (.slice a6 L c6)).setCell ⟨base + 1, 2, none⟩ (.slice aa L ac)) := ((hfr.setCell hlo _).setCell hlo _).setCell hlo _
              have boxC : ∀ g, some cb = some g → ∃ cur t fr, W9.heap[g]? = some (.cells cur t fr) ∧ t = 25 := fun g h1 => (by injection h1 with h1; subst h1; exact ⟨_, _, _, HB9.out, rfl⟩)
              have boxR : ∀ g, some (base + 1) = some g → ∃ cur t fr, wr.heap[g]? = some (.cells cur t fr) ∧ t = 25 := fun g h1 => (by injection h1 with h1; subst h1; exact ⟨_, _, _, HRw.out, rfl⟩)
              have ho1 := own_kept_ty (own_kept_ty HO.out HS.out.frm (fun g h1 => by obtain ⟨cur, t, fr, h2, rfl⟩ := boxC g h1; exact ⟨cur, _, fr, h2, by decide⟩)) hg (fun g h1 => by obtain ⟨cur, t, fr, h2, rfl⟩ := boxR g h1; exact ⟨cur, _, fr, h2, by decide⟩)
              have hn1 := own_kept_ty (own_kept_ty HN.out HS.out.frm (fun g h1 => by obtain ⟨cur, t, fr, h2, rfl⟩ := boxC g h1; exact ⟨cur, _, fr, h2, by decide⟩)) hg (fun g h1 => by obtain ⟨cur, t, fr, h2, rfl⟩ := boxR g h1; exact ⟨cur, _, fr, h2, by decide⟩)
              have hr1 := own_kept_ty HS.out.row hg (fun g h1 => by obtain ⟨cur, t, fr, h2, rfl⟩ := boxR g h1; exact ⟨cur, _, fr, h2, by decide⟩)
              have hx1 := fun x hx => (HS.out.ins x hx).kept hg (fun g h1 => by obtain ⟨cur, t, fr, h2, rfl⟩ := boxR g h1; exact ⟨cur, _, fr, h2, by decide, by decide⟩)
              have hxl : xs.length = L := by
                have h := congrArg List.length HS.out.is_
                simp only [List.length_map, List.length_take] at h
                rw [HL.out, Nat.min_self] at h
                exact h
              have hpe := HS.out.is_
              rw [List.take_of_length_le (by rw [HL.out]; exact Nat.le_refl _)] at hpe
              have HX1 := Lib.hid hx1
              have HT1 := Lib.hid (show Nms _ a5 c5 ts from own_vals ho1 (by rw [List.length_map, HT.out]))
              have HN1 := Lib.hid (show Nms _ a6 c6 NM from own_vals hn1 (by rw [List.length_map, hNl.out]))
              have HR1 := Lib.hid (own_vals hr1 (by rw [List.length_map, hxl]))
              have Hxl := Lib.hid hxl
              have Hpe := Lib.hid hpe
              have HBB := Lib.hid hB
              have HRR := Lib.hid hR
              have q0 := HS.out.box.cell 0
              have q1 := HS.out.box.cell 1
              have q2 := HS.out.box.cell 2
              have ql := HS.out.box.lt
              have r0 := HRw.out.cell 0
              have r1 := HRw.out.cell 1
              have r2 := HRw.out.cell 2
              have rl := HRw.out.lt
              have rf0 := HRw.out.frozen 0
              have rf1 := HRw.out.frozen 1
              have rf2 := HRw.out.frozen 2
              simp only [List.getElem?_cons_zero, List.getElem?_cons_succ] at q0 q1 q2 r0 r1 r2
              clear hR hg hB boxC boxR ho1 hn1 hr1 hx1 hxl hpe hfr
              go_wp2_with (fail)
              generalize hW : World.setCell (World.setCell (World.setCell wr _ _) _ _) _ _ = WF at HX1 HT1 HN1 HR1 HBB HRR ⊢
              have hR := HRR.out
              simp only [List.set_cons_zero, List.set_cons_succ] at hR
              have y0 := hR.cell 0
              have y1 := hR.cell 1
              have y2 := hR.cell 2
              simp only [List.getElem?_cons_zero, List.getElem?_cons_succ] at y0 y1 y2
              refine bodyPost_ret (v := .tuple #[.agg #[.slice a5 T c5, .slice a6 L c6, .slice aa L ac], .int .i64 0]) (by simp [results, Try.results100, go_sem, y0, y1, y2]; try first | rfl | assumption | omega) rfl ?_
              rw [← hQ.out, hEE.out]
              exact ⟨⟨ts, a5, c5, NM, a6, c6, xs, aa, ac⟩, by show _ = Ending.returned (.tuple #[.agg #[.slice a5 ts.length c5, .slice a6 NM.length c6, .slice aa xs.length ac], .int .i64 0]); rw [HT.out, hNl.out, Hxl.out], ⟨HT1.out, HN1.out, HR1.out, fun x hx => (HX1.out x hx).alts⟩, by rw [if_pos rfl]; unfold CfD.p; dsimp only; rw [Hpe.out], HBB.out⟩
        ·
          go_simp
          refine hK.out _ _ ?_ (fun hHeld => ?_)
          · exact by simpa using (HA5.out.alloc _).cell 0
          clear hK K
          try simp only [Act.put, List.setIfInBounds_toArray, List.set_cons_zero, List.set_cons_succ]
          refine wpAnyH_ready (rs := [3]) (by kernel_rfl) (by simp) ?_
          refine AllReadyH.cons (iatLS (iatSS (iatSS (iatSS iatZS)))) (fun K hK => ?_) AllReadyH.nil
          have HCa := Lib.hid (Blk.new V5 25 #[.slice none 0 0, .slice none 0 0, .slice none 0 0])
          have HAa := Lib.hid (HA5.out.alloc (.cells #[.slice none 0 0, .slice none 0 0, .slice none 0 0] 25))
          have HRa := Lib.hid (HR5.out.alloc (.cells #[.slice none 0 0, .slice none 0 0, .slice none 0 0] 25))
          have Hba := Lib.hid (Hb5.out.alloc hx5 (.cells #[.slice none 0 0, .slice none 0 0, .slice none 0 0] 25))
          have hxa : w.heap.size ≤ (World.alloc V5 (.cells #[.slice none 0 0, .slice none 0 0, .slice none 0 0] 25)).heap.size := Nat.le_trans hx5 (by simp [go_sem])
          have HO5_a := Lib.hid (World.ownsRow.alloc HO5_5.out (.cells #[.slice none 0 0, .slice none 0 0, .slice none 0 0] 25))
          have hcbb := HR5.out.lt
          obtain ⟨cb, hcb⟩ : ∃ q, Hid ((V5).heap.size = q) := ⟨_, Lib.hid rfl⟩
          rw [hcb.out] at HCa hcbb
          try rw [hcb.out]
          try rw [show w4.heap.size = cb from hcb.out]
          generalize hVa : World.alloc V5 _ = Va at HCa HAa HRa Hba hxa HO5_a ⊢
          clear hVa
          go_simp
          (with_reducible refine (Hnm'.out Va Hba.out).mono ?_)
          rintro e5 V6 ⟨a6, c6, rfl, ho6, hb6⟩
          have HN6 := Lib.hid ho6
          have HA6 := Lib.hid (HAa.out.below hb6 HAa.out.lt)
          have HR6 := Lib.hid (HRa.out.below hb6 HRa.out.lt)
          have HS6 : Hid (V6.cell? ⟨base, 0, none⟩ = some (.slice ga L gc)) := Lib.hid (by simpa using HA6.out.cell 0)
          have Hb6 := Lib.hid (Hba.out.trans (hb6.mono hxa))
          have hx6 := Nat.le_trans hxa hb6.size
          have HO5_6 := Lib.hid (World.ownsRow.kept HO5_a.out (below_grownBy hb6 none) (by cases h : (Value.slice a5 T c5).ownBlock <;> simp))
          have HC6 := Lib.hid (HCa.out.below hb6 HCa.out.lt)
          clear ho6 hb6
          try dsimp only
          have q0 := HC6.out.cell 0
          have q1 := HC6.out.cell 1
          have q2 := HC6.out.cell 2
          have ql := HC6.out.lt
          have qf0 := HC6.out.frozen 0
          have qf1 := HC6.out.frozen 1
          have qf2 := HC6.out.frozen 2
          simp only [List.getElem?_cons_zero, List.getElem?_cons_succ] at q0 q1 q2
          refine hK.out _ _ ?_ (fun hHeld => ?_)
          · exact HS6.out
          clear hK K
          try simp only [Act.put, List.setIfInBounds_toArray, List.set_cons_zero, List.set_cons_succ]
          refine wpAnyH_take (i := 4) (v := ?_) (iatLS (iatSS (iatSS (iatSS (iatSS iatZS))))) (by kernel_rfl) (by kernel_rfl) (by kernel_rfl) (fun _ _ _ h => h) (Or.inl ⟨by rfl, ?_⟩) (by assumption) ?_
          rotate_left
          · intro w hSw
            try dsimp only at hSw
            go_simp
            all_goals with_reducible rfl
          try simp only [Act.put, List.setIfInBounds_toArray, List.set_cons_zero, List.set_cons_succ]
          refine wpAnyH_ready (rs := [6]) (by kernel_rfl) (by simp) ?_
          refine AllReadyH.cons (iatLS (iatSS (iatSS (iatSS (iatSS (iatSS (iatSS iatZS))))))) (fun K hK => ?_) AllReadyH.nil
          go_simp
          have hg9 : V6.grownBy (((V6.setCell ⟨cb, 0, none⟩ (.slice a5 T c5)).setCell ⟨cb, 1, none⟩ (.slice a6 L c6)).setCell ⟨cb, 2, none⟩ (.slice none 0 0)) (some cb) := grownBy_trans (grownBy_trans (grownBy_set V6 cb 0 (.slice a5 T c5)) (grownBy_set _ cb 1 (.slice a6 L c6)) (fun i e => .inl e)) (grownBy_set _ cb 2 (.slice none 0 0)) (fun i e => .inl e)
          have hB9 := ((HC6.out.set 0 (.slice a5 T c5)).set 1 (.slice a6 L c6)).set 2 (.slice none 0 0)
          simp only [List.set_cons_zero, List.set_cons_succ] at hB9
          have HB9 := Lib.hid hB9
          have HA9 := Lib.hid (HA6.out.kept hg9 (fun e => by injection e with e; omega))
          have HR9 := Lib.hid (HR6.out.kept hg9 (fun e => by injection e with e; omega))
          have Hb9 := Lib.hid (Hb6.out.trans (belowAt hg9 (B := w.heap.size) (fun i e => by injection e with e; have := hbase.out; omega) hx6))
          have HO9 := Lib.hid (own_kept_ty HO5_6.out hg9 (fun g h1 => by injection h1 with h1; subst h1; exact ⟨_, _, _, HC6.out, by decide⟩))
          have HN9 := Lib.hid (own_kept_ty HN6.out hg9 (fun g h1 => by injection h1 with h1; subst h1; exact ⟨_, _, _, HC6.out, by decide⟩))
          clear hg9 hB9
          generalize hW : World.setCell (World.setCell (World.setCell V6 _ _) _ _) _ _ = W9 at HB9 HA9 HR9 Hb9 HO9 HN9 ⊢
          clear hW
          have hO9 := own_mono HO9.out (Nat.zero_le _)
          have hN9 := own_mono HN9.out (Nat.zero_le _)
          have HO := Lib.hid hO9
          have HN := Lib.hid hN9
          have HS9 : Hid (W9.cell? ⟨base, 0, none⟩ = some (.slice ga L gc)) := Lib.hid (by simpa using HA9.out.cell 0)
          clear hO9 hN9 HO9 HN9
          refine hK.out _ _ ?_ (fun hHeld => ?_)
          · exact HS9.out
          clear hK K
          try simp only [Act.put, List.setIfInBounds_toArray, List.set_cons_zero, List.set_cons_succ]
          refine wpAnyH_done (by kernel_rfl) ?_ _
          have x0 := HA9.out.cell 0
          have xl := HA9.out.lt
          simp only [List.getElem?_cons_zero] at x0
          obtain ⟨f, hf⟩ : ∃ q, Hid (W9.heap.size = q) := ⟨_, Lib.hid rfl⟩
          have hcf : cb < f := by rw [← hf.out]; exact HB9.out.lt
          have HK0 : Hid (RbSt W9 W9 f cb G T L rs a5 c5 a6 c6 0 none 0 []) := Lib.hid ⟨HB9.out, World.ownsRow_nil _ _ _ 1, (fun x h => by cases h), rfl, below_grownBy (Below.refl _ W9) _⟩
          go_wp2_with (fail)
          clear x0 xl
          go_loopw [62] (fun iv wr => ∃ (k : Nat) (aa : Option Addr) (ac : Nat) (xs : List IrD), k ≤ L ∧ iv = .int .i64 (k : Int) ∧ Hid (RbSt W9 wr f cb G T L rs a5 c5 a6 c6 k aa ac xs)) (fun iv _ => L - (intOf iv).toNat)
          case atStart => exact ⟨0, none, 0, [], Nat.zero_le _, rfl, HK0⟩
          case round =>
            clear HK0
            obtain ⟨k, aa, ac, xs, hk, rfl, HS⟩ := hrel
            have hfr : Below w.heap.size w wr := Hb9.out.trans (belowAt HS.out.frm (B := w.heap.size) (fun i e => by injection e with e; have := hbase.out; omega) Hb9.out.size)
            have hfw : f ≤ wr.heap.size := by rw [← hf.out]; exact HS.out.frm.size
            by_cases hlt : k < L
            · have hkI : (k : Int) < (L : Int) := by omega
              have hkI0 : (0 : Int) ≤ (k : Int) := by omega
              have hkl : k < rs.length := by rw [HL.out]; exact hlt
              obtain ⟨b, off, rfl⟩ := Hl.out.at_ k hkl
              obtain ⟨c0, c1⟩ := (Hl.out.grown hfr).cell b off rfl k hkl
              have hm : rs[k] ∈ rs := List.getElem_mem hkl
              have hst : Hid ((rs.take (k + 1)).map (fun r => r.ds.map (fun d => d.l.map G)) = (rs.take k).map (fun r => r.ds.map (fun d => d.l.map G)) ++ [rs[k].ds.map (fun d => d.l.map G)]) := Lib.hid (by rw [List.take_add_one, List.getElem?_eq_getElem hkl, List.map_append]; rfl)
              have hsz := szR_take rs k hkl
              have hsz2 := szR_le rs (k + 1)
              obtain ⟨e, he⟩ : ∃ v, Hid (rs[k] = v) := ⟨_, Lib.hid rfl⟩
              rw [he.out] at c0 c1 hm hst hsz
              have hal := Hl.out.alts e hm
              have hGe := HG.out e hm
              have hfe := Hfew.out
              have hszm : ∀ d ∈ e.ds, d.l.length ≤ 1000 := fun d hd => by have := szA_mem hd; omega
              have hel : e.ds.length ≤ 1000 := by omega
              obtain ⟨en, eds, ea, ec⟩ := e
              dsimp only at c0 c1 hst hal hGe hszm hel
              have Hal := Lib.hid hal
              have HGe := Lib.hid hGe
              have Hszm := Lib.hid hszm
              have Hst := Lib.hid hst
              clear hsz hsz2 hal hGe hfe hszm hst hm
              have hbl := World.block_lt_of_cell? wr _ c0
              have hdm : eds.length ≤ ec ∧ ec ≤ 9223372036854775807 := ⟨by have := Hal.out.row.le; rwa [List.length_map] at this, Hal.out.row.max⟩
              obtain ⟨ED, hED⟩ : ∃ q, Hid (eds.length = q) := ⟨_, Lib.hid rfl⟩
              rw [hED.out] at c1 hdm hel
              have hg1 : wr.grownBy (wr.alloc (.cells #[.string en, .slice ea ED ec] 177)) none := World.grownBy_alloc _ _ _
              have HV := Lib.hid (HS.out.grow hg1)
              have hBx := Blk.new wr 177 #[.string en, .slice ea ED ec]
              have HNv0 := own_kept_ty HN.out HS.out.frm (fun g h1 => by injection h1 with h1; subst h1; exact ⟨_, _, _, HB9.out, by decide⟩)
              have HNv := Lib.hid (show Nms _ a6 c6 NM from own_vals (World.ownsRow.alloc HNv0 (.cells #[.string en, .slice ea ED ec] 177)) (by rw [List.length_map, hNl.out]))
              have HfV := Lib.hid (hfr.alloc hfr.size (.cells #[.string en, .slice ea ED ec] 177))
              have hfV : f ≤ (wr.alloc (.cells #[.string en, .slice ea ED ec] 177)).heap.size := Nat.le_trans hfw (by simp [go_sem])
              have y1 := hBx.cell 1
              have yl := hBx.lt
              simp only [List.getElem?_cons_zero, List.getElem?_cons_succ] at y1
              clear hg1 HNv0 hBx
              go_wp2_with (fail)
              generalize hV : World.alloc wr _ = V0 at HV HNv HfV hfV y1 yl ⊢
              clear hV y1 yl c0 c1 hbl HS hfr hfw
              obtain ⟨b1, hb1⟩ : ∃ q, Hid (V0.heap.size = q) := ⟨_, Lib.hid rfl⟩
              go_loopw [12, 69] (fun s iv wr => ∃ (j : Nat) (a2 : Option Addr) (c2 : Nat) (ds2 : List IltD), j ≤ ED ∧ iv = .int .i64 (j : Int) ∧ s = .slice a2 j c2 ∧ Hid (ds2.length = j) ∧ Hid (OwnXI wr b1 a2 c2 ds2) ∧ Hid (ds2.map (fun d => d.l) = (eds.take j).map (fun d => d.l.map G)) ∧ Below b1 V0 wr) (fun _ iv _ => ED - (intOf iv).toNat)
              case atStart => exact ⟨0, none, 0, [], Nat.zero_le _, rfl, rfl, Lib.hid rfl, Lib.hid ⟨World.ownsRow_nil _ _ _ 1, fun d h => by cases h⟩, Lib.hid rfl, Below.refl _ V0⟩
              case round =>
                obtain ⟨j, a2, c2, ds2, hj, rfl, rfl, Hd2, HX, Hm2, hbr⟩ := hrel
                have hbr' : Below V0.heap.size V0 wr := by rw [hb1.out]; exact hbr
                have hfr2 : Below w.heap.size w wr := HfV.out.trans (hbr'.mono HfV.out.size)
                have hb1w : b1 ≤ wr.heap.size := by rw [← hb1.out]; exact hbr.size
                by_cases hlt2 : j < ED
                · have hjI : (j : Int) < (ED : Int) := by omega
                  have hjI0 : (0 : Int) ≤ (j : Int) := by omega
                  have hje : j < eds.length := by rw [hED.out]; exact hlt2
                  have hAw := Hal.out.grown hfr2
                  obtain ⟨b2, o2, rfl⟩ := hAw.row.at_ j (by rw [List.length_map]; exact hje)
                  have f0 := hAw.row.cell b2 o2 rfl j (by rw [List.length_map]; exact hje)
                  rw [List.getElem_map] at f0
                  have hu := hAw.nms _ (List.getElem_mem hje)
                  have hGu := HGe.out _ (List.getElem_mem hje)
                  have hNu := Hszm.out _ (List.getElem_mem hje)
                  have hst2 : Hid ((eds.take (j + 1)).map (fun d => d.l.map G) = (eds.take j).map (fun d => d.l.map G) ++ [eds[j].l.map G]) := Lib.hid (by rw [List.take_add_one, List.getElem?_eq_getElem hje, List.map_append]; rfl)
                  obtain ⟨u, hud⟩ : ∃ v, Hid (eds[j] = v) := ⟨_, Lib.hid rfl⟩
                  rw [hud.out] at f0 hu hGu hNu hst2
                  unfold AltD.v at f0
                  obtain ⟨ul, ua, uc⟩ := u
                  dsimp only at f0 hu hGu hNu hst2
                  obtain ⟨N, hN⟩ : ∃ q, Hid (ul.length = q) := ⟨_, Lib.hid rfl⟩
                  rw [hN.out] at f0 hNu
                  have HU := Lib.hid hu
                  have HGu := Lib.hid hGu
                  have hbl := World.block_lt_of_cell? wr _ f0
                  clear hu hGu hAw hbr'
                  go_wp2_with (fail)
                  clear f0 hbl
                  obtain ⟨V2, rfl⟩ : ∃ V2, V2 = wr := ⟨_, rfl⟩
                  have HTw := Lib.hid (Ht.out.grown hfr2)
                  have HNw := Lib.hid (HNv.out.grown (show Below V0.heap.size V0 V2 by rw [hb1.out]; exact hbr))
                  have HVw := Lib.hid (HV.out.grow (below_grownBy (show Below V0.heap.size V0 V2 by rw [hb1.out]; exact hbr) none))
                  have Hfr2 := Lib.hid hfr2
                  clear hfr2
                  obtain ⟨g2, hg2⟩ : ∃ q, Hid (V2.heap.size = q) := ⟨_, Lib.hid rfl⟩
                  go_loopw [15, 75] (fun s iv wr => ∃ (i : Nat) (a3 : Option Addr) (c3 : Nat), i ≤ N ∧ iv = .int .i64 (i : Int) ∧ s = .slice a3 i c3 ∧ Hid (wr.ownsRow g2 3 1 (.slice a3 i c3) i ((ul.take i).map (fun x => Value.int .i64 (G x)))) ∧ Below g2 V2 wr) (fun _ iv _ => N - (intOf iv).toNat)
                  case atStart => exact ⟨0, none, 0, Nat.zero_le _, rfl, rfl, Lib.hid (World.ownsRow_nil _ _ _ 1), Below.refl _ V2⟩
                  case round =>
                    obtain ⟨i, a3, c3, hi, rfl, rfl, HO3, hbi⟩ := hrel
                    have hbi' : Below V2.heap.size V2 wr := by rw [hg2.out]; exact hbi
                    have hg2w : g2 ≤ wr.heap.size := by rw [← hg2.out]; exact hbi.size
                    by_cases hlt3 : i < N
                    · have hiI : (i : Int) < (N : Int) := by omega
                      have hiI0 : (0 : Int) ≤ (i : Int) := by omega
                      have hil : i < ul.length := by rw [hN.out]; exact hlt3
                      have hUw := HU.out.grown hbi'
                      obtain ⟨b4, o4, rfl⟩ := hUw.at_ i (by rw [List.length_map]; exact hil)
                      have n0 := hUw.cell b4 o4 rfl i (by rw [List.length_map]; exact hil)
                      rw [List.getElem_map] at n0
                      have hGx := HGu.out _ (List.getElem_mem hil)
                      have htk : Hid ((ul.take (i + 1)).map (fun x => Value.int .i64 (G x)) = (ul.take i).map (fun x => Value.int .i64 (G x)) ++ [.int .i64 (G ul[i])]) := Lib.hid (by rw [List.take_add_one, List.getElem?_eq_getElem hil, List.map_append]; rfl)
                      obtain ⟨y, hy⟩ : ∃ v, Hid (ul[i] = v) := ⟨_, Lib.hid rfl⟩
                      rw [hy.out] at n0 hGx htk
                      have hbl := World.block_lt_of_cell? wr _ n0
                      have Hc1 := Lib.hid (place_any ts ta tc y wr (HTw.out.grown hbi'))
                      have Hc2 := Lib.hid (place_any NM a6 c6 y wr (HNw.out.grown hbi'))
                      have hp1 := plc_bound y ts 0
                      have hp2 := plc_bound y NM 0
                      obtain ⟨P1, hP1⟩ : ∃ q, Hid (plcP y 0 ts = q) := ⟨_, Lib.hid rfl⟩
                      obtain ⟨P2, hP2⟩ : ∃ q, Hid (plcP y 0 NM = q) := ⟨_, Lib.hid rfl⟩
                      rw [hP1.out, HT.out] at hp1 Hc1
                      rw [hP2.out, hNl.out] at hp2 Hc2
                      rw [hP1.out, hP2.out] at hGx
                      obtain ⟨a4, c4, w5, hrun, ho4, hg4⟩ := run_pushV wr 35 35 3 (.int .i64 0) 1 8 Try.underlying35 info_elI rfl (by decide) (by decide) [.int .i64 (G y)] rfl (by simp [Value.oneCell']) HO3.out (by omega) hg2w
                      have hb5 := Lib.hid (hbi.trans (belowAt hg4 (B := g2) (fun g e => (own_typ HO3.out g e).1) hg2w))
                      have HO4 : Hid (w5.ownsRow g2 3 1 (.slice a4 (i + 1) c4) (i + 1) ((ul.take (i + 1)).map (fun x => Value.int .i64 (G x)))) := Lib.hid (by rw [htk.out]; exact ho4)
                      have HVi := Lib.hid (HVw.out.grow (below_grownBy hbi' none))
                      have d1 := HVi.out.box.cell 1
                      have dl := HVi.out.box.lt
                      simp only [List.getElem?_cons_zero, List.getElem?_cons_succ] at d1
                      obtain ⟨gv, hgv⟩ : ∃ q, Hid (G y = q) := ⟨_, Lib.hid rfl⟩
                      rw [hgv.out] at hrun hGx
                      clear ho4 hg4 htk HO3 hUw hbi'
                      by_cases hneg : P1 < 0
                      · rw [if_pos hneg] at hGx
                        rw [hGx] at hrun
                        have Hrun := Lib.hid hrun
                        clear hrun hGx hgv
                        go_wp2_with (fail)
                        refine Hc1.out.mono ?_
                        rintro r w3 ⟨rfl, hw3⟩
                        subst w3
                        go_wp2_with (fail)
                        refine Hc2.out.mono ?_
                        rintro r w3 ⟨rfl, hw3⟩
                        subst w3
                        go_wp2_with (at_builtin; refine wpList_append_run rfl _ _ 35 35 rfl _ _ _ _ rfl rfl Hrun.out ?_)
                        exact ⟨⟨i + 1, a4, c4, by omega, by go_num, rfl, HO4, hb5.out⟩, by simp [intOf]; omega⟩
                      · rw [if_neg hneg] at hGx
                        rw [hGx] at hrun
                        have Hrun := Lib.hid hrun
                        clear hrun hGx hgv
                        go_wp2_with (fail)
                        refine Hc1.out.mono ?_
                        rintro r w3 ⟨rfl, hw3⟩
                        subst w3
                        go_wp2_with (at_builtin; refine wpList_append_run rfl _ _ 35 35 rfl _ _ _ _ rfl rfl Hrun.out ?_)
                        exact ⟨⟨i + 1, a4, c4, by omega, by go_num, rfl, HO4, hb5.out⟩, by simp [intOf]; omega⟩
                    · obtain rfl : i = N := by omega
                      have hiI : ¬ (i : Int) < (i : Int) := by omega
                      have hul : ul.take i = ul := List.take_of_length_le (by rw [hN.out]; exact Nat.le_refl _)
                      have HXw := HX.out.below hbi'
                      have hg2b : b1 ≤ g2 := by rw [← hg2.out]; exact hb1w
                      have hout := HXw.out
                      rw [Hd2.out] at hout
                      obtain ⟨a4, c4, w5, hrun, ho4, hg4⟩ := run_pushV wr 32 32 35 (.slice none 0 0) 1 24 Try.underlying32 info_rowI rfl (by decide) (by decide) [.slice a3 i c3] rfl (by simp [Value.oneCell']) hout (by omega) (Nat.le_trans hg2b hg2w)
                      have rowA : ∀ g, (Value.slice a2 j c2).ownBlock = some g → ∃ cur t fr, wr.heap[g]? = some (.cells cur t fr) ∧ t = 35 := fun g h1 => (by obtain ⟨_, cur, h2⟩ := own_typ hout g h1; exact ⟨cur, _, _, h2, rfl⟩)
                      have hnew := own_kept_ty (own_mono HO3.out hg2b) hg4 (fun g h1 => by obtain ⟨cur, t, fr, h2, rfl⟩ := rowA g h1; exact ⟨cur, _, fr, h2, by decide⟩)
                      have hold := fun d hd => own_kept_ty (HXw.ins d hd) hg4 (fun g h1 => by obtain ⟨cur, t, fr, h2, rfl⟩ := rowA g h1; exact ⟨cur, _, fr, h2, by decide⟩)
                      have HX2 : Hid (OwnXI w5 b1 a4 c4 (ds2 ++ [⟨ul.map G, a3, c3⟩])) := Lib.hid ⟨by
                        rw [List.length_append, Hd2.out, List.map_append]
                        show w5.ownsRow b1 35 1 (.slice a4 (j + 1) c4) (j + 1) (ds2.map IltD.v ++ [.slice a3 (ul.map G).length c3])
                        rw [List.length_map, hN.out]
                        exact ho4, fun d hd => by
                        rcases List.mem_append.1 hd with hd | hd
                        · exact hold d hd
                        · rw [List.mem_singleton] at hd
                          subst hd
                          dsimp only
                          rw [List.length_map, hN.out, List.map_map]
                          rw [hul] at hnew
                          exact hnew⟩
                      have hb5 := Lib.hid (hbr.trans ((hbi'.mono hb1w).trans (belowAt hg4 (B := b1) (fun g e => (own_typ hout g e).1) (Nat.le_trans hg2b hg2w))))
                      have Hm3 : Hid ((ds2 ++ [(⟨ul.map G, a3, c3⟩ : IltD)]).map (fun d => d.l) = (eds.take (j + 1)).map (fun d => d.l.map G)) := Lib.hid (by rw [List.map_append, Hm2.out, hst2.out]; rfl)
                      have Hd3 : Hid ((ds2 ++ [(⟨ul.map G, a3, c3⟩ : IltD)]).length = j + 1) := Lib.hid (by rw [List.length_append, Hd2.out]; rfl)
                      have Hrun := Lib.hid hrun
                      clear hrun hout rowA hnew hold ho4 hg4 HXw hul hbi'
                      go_wp2_with (at_builtin; refine wpList_append_run rfl _ _ 32 32 rfl _ _ _ _ rfl rfl Hrun.out ?_)
                      exact ⟨⟨j + 1, a4, c4, _, by omega, by go_num, rfl, Hd3, HX2, Hm3, hb5.out⟩, by simp [intOf]; omega⟩
                · obtain rfl : j = ED := by omega
                  have hjI : ¬ (j : Int) < (j : Int) := by omega
                  have hds : eds.take j = eds := List.take_of_length_le (by rw [hED.out]; exact Nat.le_refl _)
                  have HVw := HV.out.grow (below_grownBy hbr' none)
                  have hfb : f ≤ b1 := by rw [← hb1.out]; exact hfV
                  have hfw := Nat.le_trans hfb hb1w
                  obtain ⟨aa2, ac2, W5, hrun5, hr5, hg5⟩ := run_pushV wr 23 23 32 (.slice none 0 0) 1 24 Try.underlying23 info_alts2 rfl (by decide) (by decide) [.slice a2 j c2] rfl (by simp [Value.oneCell']) HVw.row (by omega) hfw
                  have rowA : ∀ g, (Value.slice aa k ac).ownBlock = some g → ∃ cur t fr, wr.heap[g]? = some (.cells cur t fr) ∧ t = 32 := fun g h1 => (by obtain ⟨_, cur, h2⟩ := own_typ HVw.row g h1; exact ⟨cur, _, _, h2, rfl⟩)
                  have hC5 := HVw.box.kept hg5 (fun h1 => own_ne_ty HVw.row HVw.box (by decide) h1.symm)
                  have hX5 := fun x hx => (HVw.ins x hx).kept hg5 (fun g h1 => by obtain ⟨cur, t, fr, h2, rfl⟩ := rowA g h1; exact ⟨cur, _, fr, h2, by decide, by decide⟩)
                  have hx5 := (HX.out.mono hfb).kept hg5 (fun g h1 => by obtain ⟨cur, t, fr, h2, rfl⟩ := rowA g h1; exact ⟨cur, _, fr, h2, by decide, by decide⟩)
                  have hgS := grownBy_set W5 cb 2 (.slice aa2 (k + 1) ac2)
                  have boxS : ∀ g, some cb = some g → ∃ cur t fr, W5.heap[g]? = some (.cells cur t fr) ∧ t = 25 := fun g h1 => (by injection h1 with h1; subst h1; exact ⟨_, _, _, hC5, rfl⟩)
                  have hC6 := hC5.set 2 (.slice aa2 (k + 1) ac2)
                  simp only [List.set_cons_zero, List.set_cons_succ] at hC6
                  have hr6 := own_kept_ty hr5 hgS (fun g h1 => by obtain ⟨cur, t, fr, h2, rfl⟩ := boxS g h1; exact ⟨cur, _, fr, h2, by decide⟩)
                  have hX6 := fun x hx => (hX5 x hx).kept hgS (fun g h1 => by obtain ⟨cur, t, fr, h2, rfl⟩ := boxS g h1; exact ⟨cur, _, fr, h2, by decide, by decide⟩)
                  have hx6 := hx5.kept hgS (fun g h1 => by obtain ⟨cur, t, fr, h2, rfl⟩ := boxS g h1; exact ⟨cur, _, fr, h2, by decide, by decide⟩)
                  have hf6 : W9.grownBy (W5.setCell ⟨cb, 2, none⟩ (.slice aa2 (k + 1) ac2)) (some cb) := grownBy_trans (grownBy_trans HVw.frm hg5 (fun i e => .inr (by rw [hf.out]; exact (own_typ HVw.row i e).1))) hgS (fun i e => .inl e)
                  have HRb : Hid (RbSt W9 (W5.setCell ⟨cb, 2, none⟩ (.slice aa2 (k + 1) ac2)) f cb G T L rs a5 c5 a6 c6 (k + 1) aa2 ac2 (xs ++ [⟨ds2, a2, c2⟩])) := Lib.hid ⟨hC6, (by rw [List.map_append]; show World.ownsRow _ _ _ _ _ _ (xs.map IrD.v ++ [.slice a2 ds2.length c2]); rw [Hd2.out]; exact hr6),
                    (fun x hx => by rcases List.mem_append.1 hx with hx | hx; exact hX6 x hx; rw [List.mem_singleton] at hx; subst hx; exact hx6), (by rw [List.map_append, HVw.is_, Hst.out]; congr 1; show [ds2.map (fun d => d.l)] = _; rw [Hm2.out, hds]), hf6⟩
                  have q2 := HVw.box.cell 2
                  have q2l := HVw.box.lt
                  have q5 := hC5.cell 2
                  have q5l := hC5.lt
                  have q5f := hC5.frozen 2
                  simp only [List.getElem?_cons_zero, List.getElem?_cons_succ] at q2 q5
                  have Hrun := Lib.hid hrun5
                  clear hrun5 hr5 hg5 rowA hC5 hX5 hx5 hgS boxS hC6 hr6 hX6 hx6 hf6 HVw hbr' hds
                  go_wp2_with (at_builtin; refine wpList_append_run rfl _ _ 23 23 rfl _ _ _ _ rfl rfl Hrun.out ?_)
                  exact ⟨⟨k + 1, aa2, ac2, _, by omega, by go_num, HRb⟩, by simp [intOf]; omega⟩
            · obtain rfl : L = k := by omega
              have hkI : ¬ (L : Int) < (L : Int) := by omega
              have hcne : base + 1 ≠ cb := by omega
              have hlo : w.heap.size ≤ base + 1 := by have := hbase.out; omega
              have HRw := Lib.hid (HR9.out.kept HS.out.frm (fun e => by injection e with e; omega))
              have hR := ((HRw.out.set 0 (.slice a5 T c5)).set 1 (.slice a6 L c6)).set 2 (.slice aa L ac)
              have hg : wr.grownBy (((wr.setCell ⟨base + 1, 0, none⟩ (.slice a5 T c5)).setCell ⟨base + 1, 1, none⟩ (.slice a6 L c6)).setCell ⟨base + 1, 2, none⟩ (.slice aa L ac)) (some (base + 1)) := grownBy_trans (grownBy_trans (grownBy_set wr (base + 1) 0 (.slice a5 T c5)) (grownBy_set _ (base + 1) 1 (.slice a6 L c6)) (fun i e => .inl e)) (grownBy_set _ (base + 1) 2 (.slice aa L ac)) (fun i e => .inl e)
              have hB : Below w.heap.size w (((wr.setCell ⟨base + 1, 0, none⟩ (.slice a5 T c5)).setCell ⟨base + 1, 1, none⟩ (.slice a6 L c6)).setCell ⟨base + 1, 2, none⟩ (.slice aa L ac)) := ((hfr.setCell hlo _).setCell hlo _).setCell hlo _
              have boxC : ∀ g, some cb = some g → ∃ cur t fr, W9.heap[g]? = some (.cells cur t fr) ∧ t = 25 := fun g h1 => (by injection h1 with h1; subst h1; exact ⟨_, _, _, HB9.out, rfl⟩)
              have boxR : ∀ g, some (base + 1) = some g → ∃ cur t fr, wr.heap[g]? = some (.cells cur t fr) ∧ t = 25 := fun g h1 => (by injection h1 with h1; subst h1; exact ⟨_, _, _, HRw.out, rfl⟩)
              have ho1 := own_kept_ty (own_kept_ty HO.out HS.out.frm (fun g h1 => by obtain ⟨cur, t, fr, h2, rfl⟩ := boxC g h1; exact ⟨cur, _, fr, h2, by decide⟩)) hg (fun g h1 => by obtain ⟨cur, t, fr, h2, rfl⟩ := boxR g h1; exact ⟨cur, _, fr, h2, by decide⟩)
              have hn1 := own_kept_ty (own_kept_ty HN.out HS.out.frm (fun g h1 => by obtain ⟨cur, t, fr, h2, rfl⟩ := boxC g h1; exact ⟨cur, _, fr, h2, by decide⟩)) hg (fun g h1 => by obtain ⟨cur, t, fr, h2, rfl⟩ := boxR g h1; exact ⟨cur, _, fr, h2, by decide⟩)
              have hr1 := own_kept_ty HS.out.row hg (fun g h1 => by obtain ⟨cur, t, fr, h2, rfl⟩ := boxR g h1; exact ⟨cur, _, fr, h2, by decide⟩)
              have hx1 := fun x hx => (HS.out.ins x hx).kept hg (fun g h1 => by obtain ⟨cur, t, fr, h2, rfl⟩ := boxR g h1; exact ⟨cur, _, fr, h2, by decide, by decide⟩)
              have hxl : xs.length = L := by
                have h := congrArg List.length HS.out.is_
                simp only [List.length_map, List.length_take] at h
                rw [HL.out, Nat.min_self] at h
                exact h
              have hpe := HS.out.is_
              rw [List.take_of_length_le (by rw [HL.out]; exact Nat.le_refl _)] at hpe
              have HX1 := Lib.hid hx1
              have HT1 := Lib.hid (show Nms _ a5 c5 ts from own_vals ho1 (by rw [List.length_map, HT.out]))
              have HN1 := Lib.hid (show Nms _ a6 c6 NM from own_vals hn1 (by rw [List.length_map, hNl.out]))
              have HR1 := Lib.hid (own_vals hr1 (by rw [List.length_map, hxl]))
              have Hxl := Lib.hid hxl
              have Hpe := Lib.hid hpe
              have HBB := Lib.hid hB
              have HRR := Lib.hid hR
              have q0 := HS.out.box.cell 0
              have q1 := HS.out.box.cell 1
              have q2 := HS.out.box.cell 2
              have ql := HS.out.box.lt
              have r0 := HRw.out.cell 0
              have r1 := HRw.out.cell 1
              have r2 := HRw.out.cell 2
              have rl := HRw.out.lt
              have rf0 := HRw.out.frozen 0
              have rf1 := HRw.out.frozen 1
              have rf2 := HRw.out.frozen 2
              simp only [List.getElem?_cons_zero, List.getElem?_cons_succ] at q0 q1 q2 r0 r1 r2
              clear hR hg hB boxC boxR ho1 hn1 hr1 hx1 hxl hpe hfr
              go_wp2_with (fail)
              generalize hW : World.setCell (World.setCell (World.setCell wr _ _) _ _) _ _ = WF at HX1 HT1 HN1 HR1 HBB HRR ⊢
              have hR := HRR.out
              simp only [List.set_cons_zero, List.set_cons_succ] at hR
              have y0 := hR.cell 0
              have y1 := hR.cell 1
              have y2 := hR.cell 2
              simp only [List.getElem?_cons_zero, List.getElem?_cons_succ] at y0 y1 y2
              refine bodyPost_ret (v := .tuple #[.agg #[.slice a5 T c5, .slice a6 L c6, .slice aa L ac], .int .i64 0]) (by simp [results, Try.results100, go_sem, y0, y1, y2]; try first | rfl | assumption | omega) rfl ?_
              rw [← hQ.out, hEE.out]
              exact ⟨⟨ts, a5, c5, NM, a6, c6, xs, aa, ac⟩, by show _ = Ending.returned (.tuple #[.agg #[.slice a5 ts.length c5, .slice a6 NM.length c6, .slice aa xs.length ac], .int .i64 0]); rw [HT.out, hNl.out, Hxl.out], ⟨HT1.out, HN1.out, HR1.out, fun x hx => (HX1.out x hx).alts⟩, by rw [if_pos rfl]; unfold CfD.p; dsimp only; rw [Hpe.out], HBB.out⟩
      ·
        go_simp
        refine hK.out _ _ ?_ (fun hHeld => ?_)
        · exact by simpa using (HA4.out.alloc _).cell 0
        clear hK K
        try simp only [Act.put, List.setIfInBounds_toArray, List.set_cons_zero, List.set_cons_succ]
        refine wpAnyH_ready (rs := [1]) (by kernel_rfl) (by simp) ?_
        refine AllReadyH.cons (iatLS (iatSS iatZS)) (fun K hK => ?_) AllReadyH.nil
        have HCa := Lib.hid (Blk.new w4 25 #[.slice none 0 0, .slice none 0 0, .slice none 0 0])
        have HAa := Lib.hid (HA4.out.alloc (.cells #[.slice none 0 0, .slice none 0 0, .slice none 0 0] 25))
        have HRa := Lib.hid (HR4.out.alloc (.cells #[.slice none 0 0, .slice none 0 0, .slice none 0 0] 25))
        have Hba := Lib.hid (Hb4.out.alloc hxb4 (.cells #[.slice none 0 0, .slice none 0 0, .slice none 0 0] 25))
        have hxa : w.heap.size ≤ (World.alloc w4 (.cells #[.slice none 0 0, .slice none 0 0, .slice none 0 0] 25)).heap.size := Nat.le_trans hxb4 (by simp [go_sem])
        have hcbb := HR4.out.lt
        obtain ⟨cb, hcb⟩ : ∃ q, Hid ((w4).heap.size = q) := ⟨_, Lib.hid rfl⟩
        rw [hcb.out] at HCa hcbb
        try rw [hcb.out]
        try rw [show w4.heap.size = cb from hcb.out]
        generalize hVa : World.alloc w4 _ = Va at HCa HAa HRa Hba hxa ⊢
        clear hVa
        have Hbad := Lib.hid (Hba.out.drew)
        have hxad : w.heap.size ≤ Va.drew.heap.size := hxa
        have HAad := Lib.hid (show Blk Va.drew base 124 [.slice ga L gc] from HAa.out)
        have HRad := Lib.hid (show Blk Va.drew (base + 1) 25 [.slice none 0 0, .slice none 0 0, .slice none 0 0] from HRa.out)
        have HCad := Lib.hid (show Blk Va.drew cb 25 [.slice none 0 0, .slice none 0 0, .slice none 0 0] from HCa.out)
        obtain ⟨a5, c5, V5, hr5, ho5, hb5⟩ := Hap.out Va.drew Hbad.out
        rw [List.nil_append] at ho5
        have HO5_5 := Lib.hid ho5
        have HA5 := Lib.hid (HAad.out.below hb5 HAad.out.lt)
        have HR5 := Lib.hid (HRad.out.below hb5 HRad.out.lt)
        have HS5 : Hid (V5.cell? ⟨base, 0, none⟩ = some (.slice ga L gc)) := Lib.hid (by simpa using HA5.out.cell 0)
        have Hb5 := Lib.hid (Hbad.out.trans (hb5.mono hxad))
        have hx5 := Nat.le_trans hxad hb5.size
        have HC5 := Lib.hid (HCad.out.below hb5 HCad.out.lt)
        clear ho5 hb5
        refine stepAppS rfl _ _ 22 22 rfl _ _ _ _ rfl rfl hr5 ?_
        clear hr5
        refine hK.out _ _ ?_ (fun hHeld => ?_)
        · exact HS5.out
        clear hK K
        try simp only [Act.put, List.setIfInBounds_toArray, List.set_cons_zero, List.set_cons_succ]
        refine wpAnyH_ready (rs := [3]) (by kernel_rfl) (by simp) ?_
        refine AllReadyH.cons (iatLS (iatSS (iatSS (iatSS iatZS)))) (fun K hK => ?_) AllReadyH.nil
        go_simp
        (with_reducible refine (Hnm'.out V5 Hb5.out).mono ?_)
        rintro e5 V6 ⟨a6, c6, rfl, ho6, hb6⟩
        have HN6 := Lib.hid ho6
        have HA6 := Lib.hid (HA5.out.below hb6 HA5.out.lt)
        have HR6 := Lib.hid (HR5.out.below hb6 HR5.out.lt)
        have HS6 : Hid (V6.cell? ⟨base, 0, none⟩ = some (.slice ga L gc)) := Lib.hid (by simpa using HA6.out.cell 0)
        have Hb6 := Lib.hid (Hb5.out.trans (hb6.mono hx5))
        have hx6 := Nat.le_trans hx5 hb6.size
        have HO5_6 := Lib.hid (World.ownsRow.kept HO5_5.out (below_grownBy hb6 none) (by cases h : (Value.slice a5 T c5).ownBlock <;> simp))
        have HC6 := Lib.hid (HC5.out.below hb6 HC5.out.lt)
        clear ho6 hb6
        try dsimp only
        have q0 := HC6.out.cell 0
        have q1 := HC6.out.cell 1
        have q2 := HC6.out.cell 2
        have ql := HC6.out.lt
        have qf0 := HC6.out.frozen 0
        have qf1 := HC6.out.frozen 1
        have qf2 := HC6.out.frozen 2
        simp only [List.getElem?_cons_zero, List.getElem?_cons_succ] at q0 q1 q2
        refine hK.out _ _ ?_ (fun hHeld => ?_)
        · exact HS6.out
        clear hK K
        try simp only [Act.put, List.setIfInBounds_toArray, List.set_cons_zero, List.set_cons_succ]
        refine wpAnyH_take (i := 4) (v := ?_) (iatLS (iatSS (iatSS (iatSS (iatSS iatZS))))) (by kernel_rfl) (by kernel_rfl) (by kernel_rfl) (fun _ _ _ h => h) (Or.inl ⟨by rfl, ?_⟩) (by assumption) ?_
        rotate_left
        · intro w hSw
          try dsimp only at hSw
          go_simp
          all_goals with_reducible rfl
        try simp only [Act.put, List.setIfInBounds_toArray, List.set_cons_zero, List.set_cons_succ]
        refine wpAnyH_ready (rs := [6]) (by kernel_rfl) (by simp) ?_
        refine AllReadyH.cons (iatLS (iatSS (iatSS (iatSS (iatSS (iatSS (iatSS iatZS))))))) (fun K hK => ?_) AllReadyH.nil
        go_simp
        have hg9 : V6.grownBy (((V6.setCell ⟨cb, 0, none⟩ (.slice a5 T c5)).setCell ⟨cb, 1, none⟩ (.slice a6 L c6)).setCell ⟨cb, 2, none⟩ (.slice none 0 0)) (some cb) := grownBy_trans (grownBy_trans (grownBy_set V6 cb 0 (.slice a5 T c5)) (grownBy_set _ cb 1 (.slice a6 L c6)) (fun i e => .inl e)) (grownBy_set _ cb 2 (.slice none 0 0)) (fun i e => .inl e)
        have hB9 := ((HC6.out.set 0 (.slice a5 T c5)).set 1 (.slice a6 L c6)).set 2 (.slice none 0 0)
        simp only [List.set_cons_zero, List.set_cons_succ] at hB9
        have HB9 := Lib.hid hB9
        have HA9 := Lib.hid (HA6.out.kept hg9 (fun e => by injection e with e; omega))
        have HR9 := Lib.hid (HR6.out.kept hg9 (fun e => by injection e with e; omega))
        have Hb9 := Lib.hid (Hb6.out.trans (belowAt hg9 (B := w.heap.size) (fun i e => by injection e with e; have := hbase.out; omega) hx6))
        have HO9 := Lib.hid (own_kept_ty HO5_6.out hg9 (fun g h1 => by injection h1 with h1; subst h1; exact ⟨_, _, _, HC6.out, by decide⟩))
        have HN9 := Lib.hid (own_kept_ty HN6.out hg9 (fun g h1 => by injection h1 with h1; subst h1; exact ⟨_, _, _, HC6.out, by decide⟩))
        clear hg9 hB9
        generalize hW : World.setCell (World.setCell (World.setCell V6 _ _) _ _) _ _ = W9 at HB9 HA9 HR9 Hb9 HO9 HN9 ⊢
        clear hW
        have hO9 := own_mono HO9.out (Nat.zero_le _)
        have hN9 := own_mono HN9.out (Nat.zero_le _)
        have HO := Lib.hid hO9
        have HN := Lib.hid hN9
        have HS9 : Hid (W9.cell? ⟨base, 0, none⟩ = some (.slice ga L gc)) := Lib.hid (by simpa using HA9.out.cell 0)
        clear hO9 hN9 HO9 HN9
        refine hK.out _ _ ?_ (fun hHeld => ?_)
        · exact HS9.out
        clear hK K
        try simp only [Act.put, List.setIfInBounds_toArray, List.set_cons_zero, List.set_cons_succ]
        refine wpAnyH_done (by kernel_rfl) ?_ _
        have x0 := HA9.out.cell 0
        have xl := HA9.out.lt
        simp only [List.getElem?_cons_zero] at x0
        obtain ⟨f, hf⟩ : ∃ q, Hid (W9.heap.size = q) := ⟨_, Lib.hid rfl⟩
        have hcf : cb < f := by rw [← hf.out]; exact HB9.out.lt
        have HK0 : Hid (RbSt W9 W9 f cb G T L rs a5 c5 a6 c6 0 none 0 []) := Lib.hid ⟨HB9.out, World.ownsRow_nil _ _ _ 1, (fun x h => by cases h), rfl, below_grownBy (Below.refl _ W9) _⟩
        go_wp2_with (fail)
        clear x0 xl
        go_loopw [62] (fun iv wr => ∃ (k : Nat) (aa : Option Addr) (ac : Nat) (xs : List IrD), k ≤ L ∧ iv = .int .i64 (k : Int) ∧ Hid (RbSt W9 wr f cb G T L rs a5 c5 a6 c6 k aa ac xs)) (fun iv _ => L - (intOf iv).toNat)
        case atStart => exact ⟨0, none, 0, [], Nat.zero_le _, rfl, HK0⟩
        case round =>
          clear HK0
          obtain ⟨k, aa, ac, xs, hk, rfl, HS⟩ := hrel
          have hfr : Below w.heap.size w wr := Hb9.out.trans (belowAt HS.out.frm (B := w.heap.size) (fun i e => by injection e with e; have := hbase.out; omega) Hb9.out.size)
          have hfw : f ≤ wr.heap.size := by rw [← hf.out]; exact HS.out.frm.size
          by_cases hlt : k < L
          · have hkI : (k : Int) < (L : Int) := by omega
            have hkI0 : (0 : Int) ≤ (k : Int) := by omega
            have hkl : k < rs.length := by rw [HL.out]; exact hlt
            obtain ⟨b, off, rfl⟩ := Hl.out.at_ k hkl
            obtain ⟨c0, c1⟩ := (Hl.out.grown hfr).cell b off rfl k hkl
            have hm : rs[k] ∈ rs := List.getElem_mem hkl
            have hst : Hid ((rs.take (k + 1)).map (fun r => r.ds.map (fun d => d.l.map G)) = (rs.take k).map (fun r => r.ds.map (fun d => d.l.map G)) ++ [rs[k].ds.map (fun d => d.l.map G)]) := Lib.hid (by rw [List.take_add_one, List.getElem?_eq_getElem hkl, List.map_append]; rfl)
            have hsz := szR_take rs k hkl
            have hsz2 := szR_le rs (k + 1)
            obtain ⟨e, he⟩ : ∃ v, Hid (rs[k] = v) := ⟨_, Lib.hid rfl⟩
            rw [he.out] at c0 c1 hm hst hsz
            have hal := Hl.out.alts e hm
            have hGe := HG.out e hm
            have hfe := Hfew.out
            have hszm : ∀ d ∈ e.ds, d.l.length ≤ 1000 := fun d hd => by have := szA_mem hd; omega
            have hel : e.ds.length ≤ 1000 := by omega
            obtain ⟨en, eds, ea, ec⟩ := e
            dsimp only at c0 c1 hst hal hGe hszm hel
            have Hal := Lib.hid hal
            have HGe := Lib.hid hGe
            have Hszm := Lib.hid hszm
            have Hst := Lib.hid hst
            clear hsz hsz2 hal hGe hfe hszm hst hm
            have hbl := World.block_lt_of_cell? wr _ c0
            have hdm : eds.length ≤ ec ∧ ec ≤ 9223372036854775807 := ⟨by have := Hal.out.row.le; rwa [List.length_map] at this, Hal.out.row.max⟩
            obtain ⟨ED, hED⟩ : ∃ q, Hid (eds.length = q) := ⟨_, Lib.hid rfl⟩
            rw [hED.out] at c1 hdm hel
            have hg1 : wr.grownBy (wr.alloc (.cells #[.string en, .slice ea ED ec] 177)) none := World.grownBy_alloc _ _ _
            have HV := Lib.hid (HS.out.grow hg1)
            have hBx := Blk.new wr 177 #[.string en, .slice ea ED ec]
            have HNv0 := own_kept_ty HN.out HS.out.frm (fun g h1 => by injection h1 with h1; subst h1; exact ⟨_, _, _, HB9.out, by decide⟩)
            have HNv := Lib.hid (show Nms _ a6 c6 NM from own_vals (World.ownsRow.alloc HNv0 (.cells #[.string en, .slice ea ED ec] 177)) (by rw [List.length_map, hNl.out]))
            have HfV := Lib.hid (hfr.alloc hfr.size (.cells #[.string en, .slice ea ED ec] 177))
            have hfV : f ≤ (wr.alloc (.cells #[.string en, .slice ea ED ec] 177)).heap.size := Nat.le_trans hfw (by simp [go_sem])
            have y1 := hBx.cell 1
            have yl := hBx.lt
            simp only [List.getElem?_cons_zero, List.getElem?_cons_succ] at y1
            clear hg1 HNv0 hBx
            go_wp2_with (fail)
            generalize hV : World.alloc wr _ = V0 at HV HNv HfV hfV y1 yl ⊢
            clear hV y1 yl c0 c1 hbl HS hfr hfw
            obtain ⟨b1, hb1⟩ : ∃ q, Hid (V0.heap.size = q) := ⟨_, Lib.hid rfl⟩
            go_loopw [12, 69] (fun s iv wr => ∃ (j : Nat) (a2 : Option Addr) (c2 : Nat) (ds2 : List IltD), j ≤ ED ∧ iv = .int .i64 (j : Int) ∧ s = .slice a2 j c2 ∧ Hid (ds2.length = j) ∧ Hid (OwnXI wr b1 a2 c2 ds2) ∧ Hid (ds2.map (fun d => d.l) = (eds.take j).map (fun d => d.l.map G)) ∧ Below b1 V0 wr) (fun _ iv _ => ED - (intOf iv).toNat)
            case atStart => exact ⟨0, none, 0, [], Nat.zero_le _, rfl, rfl, Lib.hid rfl, Lib.hid ⟨World.ownsRow_nil _ _ _ 1, fun d h => by cases h⟩, Lib.hid rfl, Below.refl _ V0⟩
            case round =>
              obtain ⟨j, a2, c2, ds2, hj, rfl, rfl, Hd2, HX, Hm2, hbr⟩ := hrel
              have hbr' : Below V0.heap.size V0 wr := by rw [hb1.out]; exact hbr
              have hfr2 : Below w.heap.size w wr := HfV.out.trans (hbr'.mono HfV.out.size)
              have hb1w : b1 ≤ wr.heap.size := by rw [← hb1.out]; exact hbr.size
              by_cases hlt2 : j < ED
              · have hjI : (j : Int) < (ED : Int) := by omega
                have hjI0 : (0 : Int) ≤ (j : Int) := by omega
                have hje : j < eds.length := by rw [hED.out]; exact hlt2
                have hAw := Hal.out.grown hfr2
                obtain ⟨b2, o2, rfl⟩ := hAw.row.at_ j (by rw [List.length_map]; exact hje)
                have f0 := hAw.row.cell b2 o2 rfl j (by rw [List.length_map]; exact hje)
                rw [List.getElem_map] at f0
                have hu := hAw.nms _ (List.getElem_mem hje)
                have hGu := HGe.out _ (List.getElem_mem hje)
                have hNu := Hszm.out _ (List.getElem_mem hje)
                have hst2 : Hid ((eds.take (j + 1)).map (fun d => d.l.map G) = (eds.take j).map (fun d => d.l.map G) ++ [eds[j].l.map G]) := Lib.hid (by rw [List.take_add_one, List.getElem?_eq_getElem hje, List.map_append]; rfl)
                obtain ⟨u, hud⟩ : ∃ v, Hid (eds[j] = v) := ⟨_, Lib.hid rfl⟩
                rw [hud.out] at f0 hu hGu hNu hst2
                unfold AltD.v at f0
                obtain ⟨ul, ua, uc⟩ := u
                dsimp only at f0 hu hGu hNu hst2
                obtain ⟨N, hN⟩ : ∃ q, Hid (ul.length = q) := ⟨_, Lib.hid rfl⟩
                rw [hN.out] at f0 hNu
                have HU := Lib.hid hu
                have HGu := Lib.hid hGu
                have hbl := World.block_lt_of_cell? wr _ f0
                clear hu hGu hAw hbr'
                go_wp2_with (fail)
                clear f0 hbl
                obtain ⟨V2, rfl⟩ : ∃ V2, V2 = wr := ⟨_, rfl⟩
                have HTw := Lib.hid (Ht.out.grown hfr2)
                have HNw := Lib.hid (HNv.out.grown (show Below V0.heap.size V0 V2 by rw [hb1.out]; exact hbr))
                have HVw := Lib.hid (HV.out.grow (below_grownBy (show Below V0.heap.size V0 V2 by rw [hb1.out]; exact hbr) none))
                have Hfr2 := Lib.hid hfr2
                clear hfr2
                obtain ⟨g2, hg2⟩ : ∃ q, Hid (V2.heap.size = q) := ⟨_, Lib.hid rfl⟩
                go_loopw [15, 75] (fun s iv wr => ∃ (i : Nat) (a3 : Option Addr) (c3 : Nat), i ≤ N ∧ iv = .int .i64 (i : Int) ∧ s = .slice a3 i c3 ∧ Hid (wr.ownsRow g2 3 1 (.slice a3 i c3) i ((ul.take i).map (fun x => Value.int .i64 (G x)))) ∧ Below g2 V2 wr) (fun _ iv _ => N - (intOf iv).toNat)
                case atStart => exact ⟨0, none, 0, Nat.zero_le _, rfl, rfl, Lib.hid (World.ownsRow_nil _ _ _ 1), Below.refl _ V2⟩
                case round =>
                  obtain ⟨i, a3, c3, hi, rfl, rfl, HO3, hbi⟩ := hrel
                  have hbi' : Below V2.heap.size V2 wr := by rw [hg2.out]; exact hbi
                  have hg2w : g2 ≤ wr.heap.size := by rw [← hg2.out]; exact hbi.size
                  by_cases hlt3 : i < N
                  · have hiI : (i : Int) < (N : Int) := by omega
                    have hiI0 : (0 : Int) ≤ (i : Int) := by omega
                    have hil : i < ul.length := by rw [hN.out]; exact hlt3
                    have hUw := HU.out.grown hbi'
                    obtain ⟨b4, o4, rfl⟩ := hUw.at_ i (by rw [List.length_map]; exact hil)
                    have n0 := hUw.cell b4 o4 rfl i (by rw [List.length_map]; exact hil)
                    rw [List.getElem_map] at n0
                    have hGx := HGu.out _ (List.getElem_mem hil)
                    have htk : Hid ((ul.take (i + 1)).map (fun x => Value.int .i64 (G x)) = (ul.take i).map (fun x => Value.int .i64 (G x)) ++ [.int .i64 (G ul[i])]) := Lib.hid (by rw [List.take_add_one, List.getElem?_eq_getElem hil, List.map_append]; rfl)
                    obtain ⟨y, hy⟩ : ∃ v, Hid (ul[i] = v) := ⟨_, Lib.hid rfl⟩
                    rw [hy.out] at n0 hGx htk
                    have hbl := World.block_lt_of_cell? wr _ n0
                    have Hc1 := Lib.hid (place_any ts ta tc y wr (HTw.out.grown hbi'))
                    have Hc2 := Lib.hid (place_any NM a6 c6 y wr (HNw.out.grown hbi'))
                    have hp1 := plc_bound y ts 0
                    have hp2 := plc_bound y NM 0
                    obtain ⟨P1, hP1⟩ : ∃ q, Hid (plcP y 0 ts = q) := ⟨_, Lib.hid rfl⟩
                    obtain ⟨P2, hP2⟩ : ∃ q, Hid (plcP y 0 NM = q) := ⟨_, Lib.hid rfl⟩
                    rw [hP1.out, HT.out] at hp1 Hc1
                    rw [hP2.out, hNl.out] at hp2 Hc2
                    rw [hP1.out, hP2.out] at hGx
                    obtain ⟨a4, c4, w5, hrun, ho4, hg4⟩ := run_pushV wr 35 35 3 (.int .i64 0) 1 8 Try.underlying35 info_elI rfl (by decide) (by decide) [.int .i64 (G y)] rfl (by simp [Value.oneCell']) HO3.out (by omega) hg2w
                    have hb5 := Lib.hid (hbi.trans (belowAt hg4 (B := g2) (fun g e => (own_typ HO3.out g e).1) hg2w))
                    have HO4 : Hid (w5.ownsRow g2 3 1 (.slice a4 (i + 1) c4) (i + 1) ((ul.take (i + 1)).map (fun x => Value.int .i64 (G x)))) := Lib.hid (by rw [htk.out]; exact ho4)
                    have HVi := Lib.hid (HVw.out.grow (below_grownBy hbi' none))
                    have d1 := HVi.out.box.cell 1
                    have dl := HVi.out.box.lt
                    simp only [List.getElem?_cons_zero, List.getElem?_cons_succ] at d1
                    obtain ⟨gv, hgv⟩ : ∃ q, Hid (G y = q) := ⟨_, Lib.hid rfl⟩
                    rw [hgv.out] at hrun hGx
                    clear ho4 hg4 htk HO3 hUw hbi'
                    by_cases hneg : P1 < 0
                    · rw [if_pos hneg] at hGx
                      rw [hGx] at hrun
                      have Hrun := Lib.hid hrun
                      clear hrun hGx hgv
                      go_wp2_with (fail)
                      refine Hc1.out.mono ?_
                      rintro r w3 ⟨rfl, hw3⟩
                      subst w3
                      go_wp2_with (fail)
                      refine Hc2.out.mono ?_
                      rintro r w3 ⟨rfl, hw3⟩
                      subst w3
                      go_wp2_with (at_builtin; refine wpList_append_run rfl _ _ 35 35 rfl _ _ _ _ rfl rfl Hrun.out ?_)
                      exact ⟨⟨i + 1, a4, c4, by omega, by go_num, rfl, HO4, hb5.out⟩, by simp [intOf]; omega⟩
                    · rw [if_neg hneg] at hGx
                      rw [hGx] at hrun
                      have Hrun := Lib.hid hrun
                      clear hrun hGx hgv
                      go_wp2_with (fail)
                      refine Hc1.out.mono ?_
                      rintro r w3 ⟨rfl, hw3⟩
                      subst w3
                      go_wp2_with (at_builtin; refine wpList_append_run rfl _ _ 35 35 rfl _ _ _ _ rfl rfl Hrun.out ?_)
                      exact ⟨⟨i + 1, a4, c4, by omega, by go_num, rfl, HO4, hb5.out⟩, by simp [intOf]; omega⟩
                  · obtain rfl : i = N := by omega
                    have hiI : ¬ (i : Int) < (i : Int) := by omega
                    have hul : ul.take i = ul := List.take_of_length_le (by rw [hN.out]; exact Nat.le_refl _)
                    have HXw := HX.out.below hbi'
                    have hg2b : b1 ≤ g2 := by rw [← hg2.out]; exact hb1w
                    have hout := HXw.out
                    rw [Hd2.out] at hout
                    obtain ⟨a4, c4, w5, hrun, ho4, hg4⟩ := run_pushV wr 32 32 35 (.slice none 0 0) 1 24 Try.underlying32 info_rowI rfl (by decide) (by decide) [.slice a3 i c3] rfl (by simp [Value.oneCell']) hout (by omega) (Nat.le_trans hg2b hg2w)
                    have rowA : ∀ g, (Value.slice a2 j c2).ownBlock = some g → ∃ cur t fr, wr.heap[g]? = some (.cells cur t fr) ∧ t = 35 := fun g h1 => (by obtain ⟨_, cur, h2⟩ := own_typ hout g h1; exact ⟨cur, _, _, h2, rfl⟩)
                    have hnew := own_kept_ty (own_mono HO3.out hg2b) hg4 (fun g h1 => by obtain ⟨cur, t, fr, h2, rfl⟩ := rowA g h1; exact ⟨cur, _, fr, h2, by decide⟩)
                    have hold := fun d hd => own_kept_ty (HXw.ins d hd) hg4 (fun g h1 => by obtain ⟨cur, t, fr, h2, rfl⟩ := rowA g h1; exact ⟨cur, _, fr, h2, by decide⟩)
                    have HX2 : Hid (OwnXI w5 b1 a4 c4 (ds2 ++ [⟨ul.map G, a3, c3⟩])) := Lib.hid ⟨by
                      rw [List.length_append, Hd2.out, List.map_append]
                      show w5.ownsRow b1 35 1 (.slice a4 (j + 1) c4) (j + 1) (ds2.map IltD.v ++ [.slice a3 (ul.map G).length c3])
                      rw [List.length_map, hN.out]
                      exact ho4, fun d hd => by
                      rcases List.mem_append.1 hd with hd | hd
                      · exact hold d hd
                      · rw [List.mem_singleton] at hd
                        subst hd
                        dsimp only
                        rw [List.length_map, hN.out, List.map_map]
                        rw [hul] at hnew
                        exact hnew⟩
                    have hb5 := Lib.hid (hbr.trans ((hbi'.mono hb1w).trans (belowAt hg4 (B := b1) (fun g e => (own_typ hout g e).1) (Nat.le_trans hg2b hg2w))))
                    have Hm3 : Hid ((ds2 ++ [(⟨ul.map G, a3, c3⟩ : IltD)]).map (fun d => d.l) = (eds.take (j + 1)).map (fun d => d.l.map G)) := Lib.hid (by rw [List.map_append, Hm2.out, hst2.out]; rfl)
                    have Hd3 : Hid ((ds2 ++ [(⟨ul.map G, a3, c3⟩ : IltD)]).length = j + 1) := Lib.hid (by rw [List.length_append, Hd2.out]; rfl)
                    have Hrun := Lib.hid hrun
                    clear hrun hout rowA hnew hold ho4 hg4 HXw hul hbi'
                    go_wp2_with (at_builtin; refine wpList_append_run rfl _ _ 32 32 rfl _ _ _ _ rfl rfl Hrun.out ?_)
                    exact ⟨⟨j + 1, a4, c4, _, by omega, by go_num, rfl, Hd3, HX2, Hm3, hb5.out⟩, by simp [intOf]; omega⟩
              · obtain rfl : j = ED := by omega
                have hjI : ¬ (j : Int) < (j : Int) := by omega
                have hds : eds.take j = eds := List.take_of_length_le (by rw [hED.out]; exact Nat.le_refl _)
                have HVw := HV.out.grow (below_grownBy hbr' none)
                have hfb : f ≤ b1 := by rw [← hb1.out]; exact hfV
                have hfw := Nat.le_trans hfb hb1w
                obtain ⟨aa2, ac2, W5, hrun5, hr5, hg5⟩ := run_pushV wr 23 23 32 (.slice none 0 0) 1 24 Try.underlying23 info_alts2 rfl (by decide) (by decide) [.slice a2 j c2] rfl (by simp [Value.oneCell']) HVw.row (by omega) hfw
                have rowA : ∀ g, (Value.slice aa k ac).ownBlock = some g → ∃ cur t fr, wr.heap[g]? = some (.cells cur t fr) ∧ t = 32 := fun g h1 => (by obtain ⟨_, cur, h2⟩ := own_typ HVw.row g h1; exact ⟨cur, _, _, h2, rfl⟩)
                have hC5 := HVw.box.kept hg5 (fun h1 => own_ne_ty HVw.row HVw.box (by decide) h1.symm)
                have hX5 := fun x hx => (HVw.ins x hx).kept hg5 (fun g h1 => by obtain ⟨cur, t, fr, h2, rfl⟩ := rowA g h1; exact ⟨cur, _, fr, h2, by decide, by decide⟩)
                have hx5 := (HX.out.mono hfb).kept hg5 (fun g h1 => by obtain ⟨cur, t, fr, h2, rfl⟩ := rowA g h1; exact ⟨cur, _, fr, h2, by decide, by decide⟩)
                have hgS := grownBy_set W5 cb 2 (.slice aa2 (k + 1) ac2)
                have boxS : ∀ g, some cb = some g → ∃ cur t fr, W5.heap[g]? = some (.cells cur t fr) ∧ t = 25 := fun g h1 => (by injection h1 with h1; subst h1; exact ⟨_, _, _, hC5, rfl⟩)
                have hC6 := hC5.set 2 (.slice aa2 (k + 1) ac2)
                simp only [List.set_cons_zero, List.set_cons_succ] at hC6
                have hr6 := own_kept_ty hr5 hgS (fun g h1 => by obtain ⟨cur, t, fr, h2, rfl⟩ := boxS g h1; exact ⟨cur, _, fr, h2, by decide⟩)
                have hX6 := fun x hx => (hX5 x hx).kept hgS (fun g h1 => by obtain ⟨cur, t, fr, h2, rfl⟩ := boxS g h1; exact ⟨cur, _, fr, h2, by decide, by decide⟩)
                have hx6 := hx5.kept hgS (fun g h1 => by obtain ⟨cur, t, fr, h2, rfl⟩ := boxS g h1; exact ⟨cur, _, fr, h2, by decide, by decide⟩)
                have hf6 : W9.grownBy (W5.setCell ⟨cb, 2, none⟩ (.slice aa2 (k + 1) ac2)) (some cb) := grownBy_trans (grownBy_trans HVw.frm hg5 (fun i e => .inr (by rw [hf.out]; exact (own_typ HVw.row i e).1))) hgS (fun i e => .inl e)
                have HRb : Hid (RbSt W9 (W5.setCell ⟨cb, 2, none⟩ (.slice aa2 (k + 1) ac2)) f cb G T L rs a5 c5 a6 c6 (k + 1) aa2 ac2 (xs ++ [⟨ds2, a2, c2⟩])) := Lib.hid ⟨hC6, (by rw [List.map_append]; show World.ownsRow _ _ _ _ _ _ (xs.map IrD.v ++ [.slice a2 ds2.length c2]); rw [Hd2.out]; exact hr6),
                  (fun x hx => by rcases List.mem_append.1 hx with hx | hx; exact hX6 x hx; rw [List.mem_singleton] at hx; subst hx; exact hx6), (by rw [List.map_append, HVw.is_, Hst.out]; congr 1; show [ds2.map (fun d => d.l)] = _; rw [Hm2.out, hds]), hf6⟩
                have q2 := HVw.box.cell 2
                have q2l := HVw.box.lt
                have q5 := hC5.cell 2
                have q5l := hC5.lt
                have q5f := hC5.frozen 2
                simp only [List.getElem?_cons_zero, List.getElem?_cons_succ] at q2 q5
                have Hrun := Lib.hid hrun5
                clear hrun5 hr5 hg5 rowA hC5 hX5 hx5 hgS boxS hC6 hr6 hX6 hx6 hf6 HVw hbr' hds
                go_wp2_with (at_builtin; refine wpList_append_run rfl _ _ 23 23 rfl _ _ _ _ rfl rfl Hrun.out ?_)
                exact ⟨⟨k + 1, aa2, ac2, _, by omega, by go_num, HRb⟩, by simp [intOf]; omega⟩
          · obtain rfl : L = k := by omega
            have hkI : ¬ (L : Int) < (L : Int) := by omega
            have hcne : base + 1 ≠ cb := by omega
            have hlo : w.heap.size ≤ base + 1 := by have := hbase.out; omega
            have HRw := Lib.hid (HR9.out.kept HS.out.frm (fun e => by injection e with e; omega))
            have hR := ((HRw.out.set 0 (.slice a5 T c5)).set 1 (.slice a6 L c6)).set 2 (.slice aa L ac)
            have hg : wr.grownBy (((wr.setCell ⟨base + 1, 0, none⟩ (.slice a5 T c5)).setCell ⟨base + 1, 1, none⟩ (.slice a6 L c6)).setCell ⟨base + 1, 2, none⟩ (.slice aa L ac)) (some (base + 1)) := grownBy_trans (grownBy_trans (grownBy_set wr (base + 1) 0 (.slice a5 T c5)) (grownBy_set _ (base + 1) 1 (.slice a6 L c6)) (fun i e => .inl e)) (grownBy_set _ (base + 1) 2 (.slice aa L ac)) (fun i e => .inl e)
            have hB : Below w.heap.size w (((wr.setCell ⟨base + 1, 0, none⟩ (.slice a5 T c5)).setCell ⟨base + 1, 1, none⟩ (.slice a6 L c6)).setCell ⟨base + 1, 2, none⟩ (.slice aa L ac)) := ((hfr.setCell hlo _).setCell hlo _).setCell hlo _
            have boxC : ∀ g, some cb = some g → ∃ cur t fr, W9.heap[g]? = some (.cells cur t fr) ∧ t = 25 := fun g h1 => (by injection h1 with h1; subst h1; exact ⟨_, _, _, HB9.out, rfl⟩)
            have boxR : ∀ g, some (base + 1) = some g → ∃ cur t fr, wr.heap[g]? = some (.cells cur t fr) ∧ t = 25 := fun g h1 => (by injection h1 with h1; subst h1; exact ⟨_, _, _, HRw.out, rfl⟩)
            have ho1 := own_kept_ty (own_kept_ty HO.out HS.out.frm (fun g h1 => by obtain ⟨cur, t, fr, h2, rfl⟩ := boxC g h1; exact ⟨cur, _, fr, h2, by decide⟩)) hg (fun g h1 => by obtain ⟨cur, t, fr, h2, rfl⟩ := boxR g h1; exact ⟨cur, _, fr, h2, by decide⟩)
            have hn1 := own_kept_ty (own_kept_ty HN.out HS.out.frm (fun g h1 => by obtain ⟨cur, t, fr, h2, rfl⟩ := boxC g h1; exact ⟨cur, _, fr, h2, by decide⟩)) hg (fun g h1 => by obtain ⟨cur, t, fr, h2, rfl⟩ := boxR g h1; exact ⟨cur, _, fr, h2, by decide⟩)
            have hr1 := own_kept_ty HS.out.row hg (fun g h1 => by obtain ⟨cur, t, fr, h2, rfl⟩ := boxR g h1; exact ⟨cur, _, fr, h2, by decide⟩)
            have hx1 := fun x hx => (HS.out.ins x hx).kept hg (fun g h1 => by obtain ⟨cur, t, fr, h2, rfl⟩ := boxR g h1; exact ⟨cur, _, fr, h2, by decide, by decide⟩)
            have hxl : xs.length = L := by
              have h := congrArg List.length HS.out.is_
              simp only [List.length_map, List.length_take] at h
              rw [HL.out, Nat.min_self] at h
              exact h
            have hpe := HS.out.is_
            rw [List.take_of_length_le (by rw [HL.out]; exact Nat.le_refl _)] at hpe
            have HX1 := Lib.hid hx1
            have HT1 := Lib.hid (show Nms _ a5 c5 ts from own_vals ho1 (by rw [List.length_map, HT.out]))
            have HN1 := Lib.hid (show Nms _ a6 c6 NM from own_vals hn1 (by rw [List.length_map, hNl.out]))
            have HR1 := Lib.hid (own_vals hr1 (by rw [List.length_map, hxl]))
            have Hxl := Lib.hid hxl
            have Hpe := Lib.hid hpe
            have HBB := Lib.hid hB
            have HRR := Lib.hid hR
            have q0 := HS.out.box.cell 0
            have q1 := HS.out.box.cell 1
            have q2 := HS.out.box.cell 2
            have ql := HS.out.box.lt
            have r0 := HRw.out.cell 0
            have r1 := HRw.out.cell 1
            have r2 := HRw.out.cell 2
            have rl := HRw.out.lt
            have rf0 := HRw.out.frozen 0
            have rf1 := HRw.out.frozen 1
            have rf2 := HRw.out.frozen 2
            simp only [List.getElem?_cons_zero, List.getElem?_cons_succ] at q0 q1 q2 r0 r1 r2
            clear hR hg hB boxC boxR ho1 hn1 hr1 hx1 hxl hpe hfr
            go_wp2_with (fail)
            generalize hW : World.setCell (World.setCell (World.setCell wr _ _) _ _) _ _ = WF at HX1 HT1 HN1 HR1 HBB HRR ⊢
            have hR := HRR.out
            simp only [List.set_cons_zero, List.set_cons_succ] at hR
            have y0 := hR.cell 0
            have y1 := hR.cell 1
            have y2 := hR.cell 2
            simp only [List.getElem?_cons_zero, List.getElem?_cons_succ] at y0 y1 y2
            refine bodyPost_ret (v := .tuple #[.agg #[.slice a5 T c5, .slice a6 L c6, .slice aa L ac], .int .i64 0]) (by simp [results, Try.results100, go_sem, y0, y1, y2]; try first | rfl | assumption | omega) rfl ?_
            rw [← hQ.out, hEE.out]
            exact ⟨⟨ts, a5, c5, NM, a6, c6, xs, aa, ac⟩, by show _ = Ending.returned (.tuple #[.agg #[.slice a5 ts.length c5, .slice a6 NM.length c6, .slice aa xs.length ac], .int .i64 0]); rw [HT.out, hNl.out, Hxl.out], ⟨HT1.out, HN1.out, HR1.out, fun x hx => (HX1.out x hx).alts⟩, by rw [if_pos rfl]; unfold CfD.p; dsimp only; rw [Hpe.out], HBB.out⟩
end Go.Proofs.Ythogiakfbgehnaa

