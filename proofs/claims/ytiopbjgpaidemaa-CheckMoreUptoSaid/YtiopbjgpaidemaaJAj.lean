/- Texts joined: Ir. -/
import Derived.Test.YtiopbjgpaidemaaJAi
set_option linter.unusedVariables false
set_option linter.unusedSimpArgs false
namespace Go.Proofs.Ytiopbjgpaidemaa
open Go.RowKit Go.Maps

attribute [local go_sem] Oper.semAt_some

/-- A grammar by numbers, plainly. -/
structure CfP where
  toks : List ByteArray
  names : List ByteArray
  alts : List (List (List Int))
deriving DecidableEq
/-- A rule's alternatives by numbers, and where they lie. -/
structure IrD where
  ds : List IltD
  a : Option Addr
  c : Nat
abbrev IrD.v (r : IrD) : Value := .slice r.a r.ds.length r.c
def IrD.p (r : IrD) : List (List Int) := r.ds.map (fun d => d.l)
/-- A grammar by numbers, and where it lies. -/
structure CfD where
  toks : List ByteArray
  ta : Option Addr
  tc : Nat
  names : List ByteArray
  na : Option Addr
  nc : Nat
  alts : List IrD
  aa : Option Addr
  ac : Nat
def CfD.p (d : CfD) : CfP := ⟨d.toks, d.names, d.alts.map IrD.p⟩
abbrev CfD.v (d : CfD) : Value := .agg #[.slice d.ta d.toks.length d.tc, .slice d.na d.names.length d.nc, .slice d.aa d.alts.length d.ac]
structure CfAt (W : World) (d : CfD) : Prop where
  toks : Nms W d.ta d.tc d.toks
  names : Nms W d.na d.nc d.names
  alts : Vs W d.aa d.ac (d.alts.map IrD.v)
  rules : ∀ r ∈ d.alts, AltsI W r.a r.c r.ds
theorem CfAt.grown {W W' : World} {d : CfD} (h : CfAt W d) (hb : Below W.heap.size W W') : CfAt W' d := ⟨h.toks.grown hb, h.names.grown hb, h.alts.grown hb, fun r hr => (h.rules r hr).grown hb⟩
def nilCf : CfD := ⟨[], none, 0, [], none, 0, [], none, 0⟩
theorem nilCf_at (W : World) : CfAt W nilCf := ⟨Vs.nil W, Vs.nil W, Vs.nil W, fun r h => by cases h⟩
/-- Why there are no numbers; 0: there are. -/
noncomputable def numE (rs : List RlD) (ts : List ByteArray) : Int := if chkG rs = 0 then if ckT ts = 0 then if (FLW rs ts).length = 0 then 0 else 80 else ckT ts else chkG rs
/-- The grammar by numbers. -/
def numC (rs : List RlD) (ts : List ByteArray) : CfP := ⟨ts, rs.map RlD.n, rs.map (fun r => r.ds.map (fun d => d.l.map (rlN ts (rs.map RlD.n) rs.length)))⟩
/-- What Number answers. -/
def NumQ (w : World) (E : Int) (C : CfP) (e : Ending) (W' : World) : Prop := ∃ d : CfD, e = .returned (.tuple #[d.v, .int .i64 E]) ∧ CfAt W' d ∧ d.p = (if E = 0 then C else ⟨[], [], []⟩) ∧ Below w.heap.size w W'
theorem info_alts2 : (Try.prog.info? 47).map (fun i => (i.zero, i.size, i.bytes)) = some (some (.slice none 0 0), 1, 24) := by kernel_rfl

set_option maxRecDepth 100000 in
theorem numLook_any (W : World) (vb b n : Nat) (m : ByteArray → Int) (s : ByteArray) (hv : Blk W vb 120 [.map (some b)]) (hm : NumT W b n m) (hs : s.size ≤ maxLen) :
    Calls Try.prog 93 #[.string s, .pointer (some ⟨vb, 0, none⟩)] W fun e w' => e = .returned (.int .i64 (m s)) ∧ Below W.heap.size W w' := by
  have hlk := hm.look s hs
  have v0 := hv.cell 0
  have vl := hv.lt
  simp only [List.getElem?_cons_zero] at v0
  obtain ⟨q, hq⟩ : ∃ q, Hid (m s = q) := ⟨_, Lib.hid rfl⟩
  rw [hq.out] at hlk ⊢
  clear hv hm
  go_enter Try.func93, Try.ntmps93
  go_wp2_with (fail)
  exact bodyPost_ret (v := .int .i64 q) (by simp [results, Try.results93, go_sem]; try rfl) rfl ⟨rfl, Below.refl _ _⟩

theorem szA_mem : ∀ {ds : List AltD} {d : AltD}, d ∈ ds → d.l.length ≤ szA ds
  | e :: ds, d, h => by
    have e1 : szA (e :: ds) = e.l.length + szA ds := by simp [szA]
    rcases List.mem_cons.1 h with rfl | h
    · omega
    · have := szA_mem h
      omega
/-- What Number keeps while it turns rules into numbers. -/
structure NbSt (w9 wr : World) (cb : Nat) (g : ByteArray → Int) (T : Nat) (NM : List ByteArray) (rs : List RlD) (ct : Option Addr) (cc k : Nat) (na : Option Addr) (nc : Nat) (aa : Option Addr) (ac : Nat) (xs : List IrD) : Prop where
  box : Blk wr cb 41 [.slice ct T cc, .slice na k nc, .slice aa k ac]
  nms : wr.ownsRow cb 9 1 (.slice na k nc) k ((NM.take k).map Value.string)
  row : wr.ownsRow cb 47 1 (.slice aa k ac) k (xs.map IrD.v)
  ins : ∀ x ∈ xs, OwnXI wr cb x.a x.c x.ds
  is_ : xs.map IrD.p = (rs.take k).map (fun r => r.ds.map (fun d => d.l.map g))
  frm : Below cb w9 wr

set_option maxRecDepth 100000 in
set_option maxHeartbeats 16000000 in
theorem number_any (rs : List RlD) (ga : Option Addr) (gc : Nat) (ts : List ByteArray) (ta : Option Addr) (tc : Nat) (w : World) (hl : Rls w ga gc rs) (ht : Nms w ta tc ts) (hf : FitG rs ts) (hfew : rs.length + ts.length + szR rs ≤ 1000) :
    Calls Try.prog 48 #[.agg #[.slice ga rs.length gc], .slice ta ts.length tc] w (NumQ w (numE rs ts) (numC rs ts)) := by
  have hlm : rs.length ≤ gc ∧ gc ≤ 9223372036854775807 := ⟨hl.le, hl.max⟩
  have htm : ts.length ≤ tc ∧ tc ≤ 9223372036854775807 := ⟨by have := ht.le; rwa [List.length_map] at this, ht.max⟩
  have hb0 : Below w.heap.size w (w.alloc (.cells #[.slice ga rs.length gc] 24)) := (Below.refl _ w).alloc (Nat.le_refl _) _
  have hb1 : Below w.heap.size w ((w.alloc (.cells #[.slice ga rs.length gc] 24)).alloc (.cells #[.slice none 0 0, .slice none 0 0, .slice none 0 0] 41)) := hb0.alloc hb0.size _
  have hA0 := (Blk.new w 24 #[.slice ga rs.length gc]).alloc (.cells #[.slice none 0 0, .slice none 0 0, .slice none 0 0] 41)
  have hR0 := Blk.new (w.alloc (.cells #[.slice ga rs.length gc] 24)) 41 #[.slice none 0 0, .slice none 0 0, .slice none 0 0]
  rw [show (w.alloc (.cells #[.slice ga rs.length gc] 24)).heap.size = w.heap.size + 1 by simp] at hR0
  have Hck := Lib.hid (fun W (hb : Below w.heap.size w W) => gcheck_any rs ga gc W (hl.grown hb))
  have Htk := Lib.hid (fun W (hb : Below w.heap.size w W) => checkTokens_any ts ta tc W (ht.grown hb) (by omega))
  have Hfl := Lib.hid (fun W (hb : Below w.heap.size w W) => flaws_any rs ga gc ts ta tc W (hl.grown hb) (ht.grown hb) hf (by omega))
  have Hno := Lib.hid (fun W (hb : Below w.heap.size w W) => numbersOf_any rs ga gc ts ta tc W (hl.grown hb) (ht.grown hb) (by omega) (by omega) hf.rules hf.toks)
  have Hcl := Lib.hid (fun W (hb : Below w.heap.size w W) => clone_any ts ta tc W (ht.grown hb) (by omega))
  have Hl := Lib.hid hl
  obtain ⟨NM, hNM⟩ : ∃ q, Hid (rs.map RlD.n = q) := ⟨_, Lib.hid rfl⟩
  have hNl : Hid (NM.length = rs.length) := Lib.hid (by rw [← hNM.out, List.length_map])
  have hNk : Hid (∀ k (h : k < rs.length), NM[k]? = some rs[k].n) := Lib.hid (fun k h => by rw [← hNM.out, List.getElem?_map, List.getElem?_eq_getElem h]; rfl)
  have HC : Hid (numC rs ts = ⟨ts, NM, rs.map (fun r => r.ds.map (fun d => d.l.map (rlN ts NM rs.length)))⟩) := Lib.hid (by unfold numC; rw [hNM.out])
  rw [hNM.out] at Hno
  obtain ⟨G, hG⟩ : ∃ q, Hid (rlN ts NM rs.length = q) := ⟨_, Lib.hid rfl⟩
  rw [hG.out] at Hno HC
  obtain ⟨FF, hFF⟩ : ∃ q, Hid (FLW rs ts = q) := ⟨_, Lib.hid rfl⟩
  have hE : Hid (numE rs ts = if chkG rs = 0 then if ckT ts = 0 then if FF.length = 0 then 0 else 80 else ckT ts else chkG rs) := Lib.hid (by unfold numE; rw [hFF.out])
  rw [hFF.out] at Hfl
  obtain ⟨C1, hC1⟩ : ∃ q, Hid (chkG rs = q) := ⟨_, Lib.hid rfl⟩
  obtain ⟨C2, hC2⟩ : ∃ q, Hid (ckT ts = q) := ⟨_, Lib.hid rfl⟩
  rw [hC1.out, hC2.out] at hE
  rw [hC1.out] at Hck
  rw [hC2.out] at Htk
  rw [HC.out]
  obtain ⟨Q, hQ⟩ : ∃ Q, Hid (NumQ w (numE rs ts) ⟨ts, NM, rs.map (fun r => r.ds.map (fun d => d.l.map G))⟩ = Q) := ⟨_, Lib.hid rfl⟩
  rw [hQ.out]
  obtain ⟨L, HL⟩ : ∃ L, Hid (rs.length = L) := ⟨_, Lib.hid rfl⟩
  obtain ⟨T, HT⟩ : ∃ L, Hid (ts.length = L) := ⟨_, Lib.hid rfl⟩
  rw [HL.out] at hlm hfew hNl Hck Hfl Hno hA0 hR0 hb0 hb1 ⊢
  rw [HT.out] at hfew htm Htk Hfl Hno Hcl ⊢
  have Hck' : Hid (∀ W, Below w.heap.size w W → Calls Try.prog 88 #[.agg #[.slice ga L gc]] W fun r w' => r = .returned (.int .i64 C1) ∧ Below W.heap.size W w') := Hck
  have Htk' : Hid (∀ W, Below w.heap.size w W → Calls Try.prog 89 #[.slice ta T tc] W fun r w' => r = .returned (.int .i64 C2) ∧ Below W.heap.size W w') := Htk
  have Hfl' : Hid (∀ W, Below w.heap.size w W → Calls Try.prog 15 #[.agg #[.slice ga L gc], .slice ta T tc] W (FlawQ W FF)) := Hfl
  have Hno' : Hid (∀ W, Below w.heap.size w W → Calls Try.prog 90 #[.agg #[.slice ga L gc], .slice ta T tc] W fun r w' => ∃ b n, r = .returned (.map (some b)) ∧ NumT w' b n G ∧ W.heap.size ≤ b ∧ Below W.heap.size W w') := Hno
  have Hcl' : Hid (∀ W, Below w.heap.size w W → Calls Try.prog 91 #[.slice ta T tc] W fun e w' => ∃ a' c', e = .returned (.slice a' T c') ∧ OwnS w' W.heap.size T a' c' ts ∧ Below W.heap.size W w') := Hcl
  clear Hck Htk Hfl Hno Hcl hl ht hb0
  have x0 := hA0.cell 0
  have xl := hA0.lt
  simp only [List.getElem?_cons_zero] at x0
  have HA := Lib.hid hA0
  have HR := Lib.hid hR0
  have Hb1 := Lib.hid hb1
  obtain ⟨base, hbase⟩ : ∃ q, Hid (w.heap.size = q) := ⟨_, Lib.hid rfl⟩
  have hbW : base ≤ w.heap.size := by rw [hbase.out]; exact Nat.le_refl _
  clear hA0 hR0 hb1
  go_enter Try.func48, Try.ntmps48
  go_wp2_with (fail)
  rw [hbase.out] at HA HR x0 xl ⊢
  have Hc1 := Lib.hid (Hck'.out _ Hb1.out)
  generalize hV : World.alloc (World.alloc w _) _ = V at HA HR Hb1 x0 xl Hc1 ⊢
  clear hV
  refine Hc1.out.mono ?_
  clear Hc1
  rintro e w2 ⟨rfl, hb2⟩
  have HA2 := Lib.hid (HA.out.below hb2 HA.out.lt)
  have HR2 := Lib.hid (HR.out.below hb2 HR.out.lt)
  have Hb2 := Lib.hid (Hb1.out.trans (hb2.mono Hb1.out.size))
  clear hb2 x0 xl HA HR Hb1
  have r0 := HR2.out.cell 0
  have r1 := HR2.out.cell 1
  have r2 := HR2.out.cell 2
  have rl := HR2.out.lt
  have rf0 := HR2.out.frozen 0
  have rf1 := HR2.out.frozen 1
  have rf2 := HR2.out.frozen 2
  simp only [List.getElem?_cons_zero, List.getElem?_cons_succ] at r0 r1 r2
  by_cases h1 : C1 = 0
  case neg =>
    have h1b : (C1 != 0) = true := by rw [bne_iff_ne]; exact h1
    have hEE : Hid (numE rs ts = C1) := Lib.hid (by rw [hE.out]; exact if_neg h1)
    have HN1 := Lib.hid h1
    clear h1
    go_wp2_with (fail)
    have hR := ((HR2.out.set 0 (.slice none 0 0)).set 1 (.slice none 0 0)).set 2 (.slice none 0 0)
    have hlo : w.heap.size ≤ base + 1 := by have := hbase.out; omega
    have hB : Below w.heap.size w (((w2.setCell ⟨base + 1, 0, none⟩ (.slice none 0 0)).setCell ⟨base + 1, 1, none⟩ (.slice none 0 0)).setCell ⟨base + 1, 2, none⟩ (.slice none 0 0)) := ((Hb2.out.setCell hlo _).setCell hlo _).setCell hlo _
    generalize hW : World.setCell (World.setCell (World.setCell w2 _ _) _ _) _ _ = W9 at hR hB ⊢
    simp only [List.set_cons_zero, List.set_cons_succ] at hR
    have y0 := hR.cell 0
    have y1 := hR.cell 1
    have y2 := hR.cell 2
    simp only [List.getElem?_cons_zero, List.getElem?_cons_succ] at y0 y1 y2
    refine bodyPost_ret (v := .tuple #[.agg #[.slice none 0 0, .slice none 0 0, .slice none 0 0], .int .i64 C1]) (by simp [results, Try.results48, go_sem, y0, y1, y2]; try first | rfl | assumption | omega) rfl ?_
    rw [← hQ.out, hEE.out]
    exact ⟨nilCf, rfl, nilCf_at _, by rw [if_neg HN1.out]; rfl, hB⟩
  case pos =>
  have h1b : (C1 != 0) = false := by rw [h1]; rfl
  have HP1 := Lib.hid h1
  clear h1
  have Hc2 := Lib.hid (Htk'.out w2 Hb2.out)
  have HA2c := HA2.out.cell 0
  have HA2l := HA2.out.lt
  simp only [List.getElem?_cons_zero] at HA2c
  go_wp2_with (fail)
  refine Hc2.out.mono ?_
  clear Hc2
  rintro e w4 ⟨rfl, hb4⟩
  have HA4 := Lib.hid (HA2.out.below hb4 HA2.out.lt)
  have HR4 := Lib.hid (HR2.out.below hb4 HR2.out.lt)
  have Hb4 := Lib.hid (Hb2.out.trans (hb4.mono Hb2.out.size))
  clear hb4 HA2 HR2 Hb2 r0 r1 r2 rl rf0 rf1 rf2 HA2c HA2l
  have r0 := HR4.out.cell 0
  have r1 := HR4.out.cell 1
  have r2 := HR4.out.cell 2
  have rl := HR4.out.lt
  have rf0 := HR4.out.frozen 0
  have rf1 := HR4.out.frozen 1
  have rf2 := HR4.out.frozen 2
  simp only [List.getElem?_cons_zero, List.getElem?_cons_succ] at r0 r1 r2
  by_cases h1 : C2 = 0
  case neg =>
    have h2b : (C2 != 0) = true := by rw [bne_iff_ne]; exact h1
    have hEE : Hid (numE rs ts = C2) := Lib.hid (by rw [hE.out, if_pos HP1.out]; exact if_neg h1)
    have HN1 := Lib.hid h1
    clear h1
    go_wp2_with (fail)
    have hR := ((HR4.out.set 0 (.slice none 0 0)).set 1 (.slice none 0 0)).set 2 (.slice none 0 0)
    have hlo : w.heap.size ≤ base + 1 := by have := hbase.out; omega
    have hB : Below w.heap.size w (((w4.setCell ⟨base + 1, 0, none⟩ (.slice none 0 0)).setCell ⟨base + 1, 1, none⟩ (.slice none 0 0)).setCell ⟨base + 1, 2, none⟩ (.slice none 0 0)) := ((Hb4.out.setCell hlo _).setCell hlo _).setCell hlo _
    generalize hW : World.setCell (World.setCell (World.setCell w4 _ _) _ _) _ _ = W9 at hR hB ⊢
    simp only [List.set_cons_zero, List.set_cons_succ] at hR
    have y0 := hR.cell 0
    have y1 := hR.cell 1
    have y2 := hR.cell 2
    simp only [List.getElem?_cons_zero, List.getElem?_cons_succ] at y0 y1 y2
    refine bodyPost_ret (v := .tuple #[.agg #[.slice none 0 0, .slice none 0 0, .slice none 0 0], .int .i64 C2]) (by simp [results, Try.results48, go_sem, y0, y1, y2]; try first | rfl | assumption | omega) rfl ?_
    rw [← hQ.out, hEE.out]
    exact ⟨nilCf, rfl, nilCf_at _, by rw [if_neg HN1.out]; rfl, hB⟩
  case pos =>
  have h2b : (C2 != 0) = false := by rw [h1]; rfl
  have HP2 := Lib.hid h1
  clear h1
  have Hc3 := Lib.hid (Hfl'.out w4 Hb4.out)
  have HA4c := HA4.out.cell 0
  have HA4l := HA4.out.lt
  simp only [List.getElem?_cons_zero] at HA4c
  go_wp2_with (fail)
  refine Hc3.out.mono ?_
  clear Hc3
  rintro e w6 ⟨fa, fc, rfl, _, hb6⟩
  have HA6 := Lib.hid (HA4.out.below hb6 HA4.out.lt)
  have HR6 := Lib.hid (HR4.out.below hb6 HR4.out.lt)
  have Hb6 := Lib.hid (Hb4.out.trans (hb6.mono Hb4.out.size))
  clear hb6 HA4 HR4 Hb4 r0 r1 r2 rl rf0 rf1 rf2 HA4c HA4l
  have r0 := HR6.out.cell 0
  have r1 := HR6.out.cell 1
  have r2 := HR6.out.cell 2
  have rl := HR6.out.lt
  have rf0 := HR6.out.frozen 0
  have rf1 := HR6.out.frozen 1
  have rf2 := HR6.out.frozen 2
  simp only [List.getElem?_cons_zero, List.getElem?_cons_succ] at r0 r1 r2
  obtain ⟨FN, hFN⟩ : ∃ q, Hid (FF.length = q) := ⟨_, Lib.hid rfl⟩
  rw [hFN.out]
  by_cases h1 : FN = 0
  case neg =>
    have h1b : ((FN : Nat) : Int) > 0 := by omega
    have hEE : Hid (numE rs ts = 80) := Lib.hid (by rw [hE.out, if_pos HP1.out, if_pos HP2.out]; exact if_neg (by rw [hFN.out]; exact h1))
    clear h1
    go_wp2_with (fail)
    have hR := ((HR6.out.set 0 (.slice none 0 0)).set 1 (.slice none 0 0)).set 2 (.slice none 0 0)
    have hlo : w.heap.size ≤ base + 1 := by have := hbase.out; omega
    have hB : Below w.heap.size w (((w6.setCell ⟨base + 1, 0, none⟩ (.slice none 0 0)).setCell ⟨base + 1, 1, none⟩ (.slice none 0 0)).setCell ⟨base + 1, 2, none⟩ (.slice none 0 0)) := ((Hb6.out.setCell hlo _).setCell hlo _).setCell hlo _
    generalize hW : World.setCell (World.setCell (World.setCell w6 _ _) _ _) _ _ = W9 at hR hB ⊢
    simp only [List.set_cons_zero, List.set_cons_succ] at hR
    have y0 := hR.cell 0
    have y1 := hR.cell 1
    have y2 := hR.cell 2
    simp only [List.getElem?_cons_zero, List.getElem?_cons_succ] at y0 y1 y2
    refine bodyPost_ret (v := .tuple #[.agg #[.slice none 0 0, .slice none 0 0, .slice none 0 0], .int .i64 80]) (by simp [results, Try.results48, go_sem, y0, y1, y2]; try first | rfl | assumption | omega) rfl ?_
    rw [← hQ.out, hEE.out]
    exact ⟨nilCf, rfl, nilCf_at _, by rw [if_neg (by decide)]; rfl, hB⟩
  case pos =>
  obtain rfl : FN = 0 := h1
  have hEE : Hid (numE rs ts = 0) := Lib.hid (by rw [hE.out, if_pos HP1.out, if_pos HP2.out]; exact if_pos (by rw [hFN.out]))
  rw [hEE.out] at hQ
  have Hc4 := Lib.hid (Hno'.out w6 Hb6.out)
  have HA6c := HA6.out.cell 0
  have HA6l := HA6.out.lt
  simp only [List.getElem?_cons_zero] at HA6c
  go_wp2_with (fail)
  refine Hc4.out.mono ?_
  clear Hc4
  rintro e w7 ⟨nb, nn, rfl, hN7, _, hb7⟩
  have hg8 : Below w7.heap.size w7 (w7.alloc (.cells #[.map (some nb)] 120)) := (Below.refl _ w7).alloc (Nat.le_refl _) _
  have hV8 := Blk.new w7 120 #[.map (some nb)]
  have hN8 := hN7.kept (below_grownBy hg8 none) (by simp)
  have hb8 := hb7.trans (hg8.mono hb7.size)
  have HA8 := Lib.hid (HA6.out.below hb8 HA6.out.lt)
  have HR8 := Lib.hid (HR6.out.below hb8 HR6.out.lt)
  have Hb8 := Lib.hid (Hb6.out.trans (hb8.mono Hb6.out.size))
  have HV8 := Lib.hid hV8
  have HN8 := Lib.hid hN8
  clear hb7 hb8 hg8 hV8 hN7 hN8 HA6 HR6 Hb6 r0 r1 r2 rl rf0 rf1 rf2 HA6c HA6l
  have Hc5 := Lib.hid (Hcl'.out _ Hb8.out)
  go_wp2_with (fail)
  obtain ⟨vb, hvb⟩ : ∃ q, Hid (w7.heap.size = q) := ⟨_, Lib.hid rfl⟩
  rw [hvb.out] at HV8 ⊢
  generalize hW : World.alloc w7 _ = w8 at HA8 HR8 Hb8 HV8 HN8 Hc5 ⊢
  clear hW hvb
  refine Hc5.out.mono ?_
  clear Hc5
  rintro e w9 ⟨ct, cc, rfl, hct, hb9⟩
  have hct9 := Lib.hid (OwnS.nms hct)
  have HA9 := Lib.hid (HA8.out.below hb9 HA8.out.lt)
  have HR9 := Lib.hid (HR8.out.below hb9 HR8.out.lt)
  have HV9 := Lib.hid (HV8.out.below hb9 HV8.out.lt)
  have HN9 := Lib.hid (HN8.out.kept (below_grownBy hb9 none) (by simp))
  have Hb9 := Lib.hid (Hb8.out.trans (hb9.mono Hb8.out.size))
  have hg10 : Below w9.heap.size w9 (w9.alloc (.cells #[.slice ct T cc, .slice none 0 0, .slice none 0 0] 41)) := (Below.refl _ w9).alloc (Nat.le_refl _) _
  have hK10 := Blk.new w9 41 #[.slice ct T cc, .slice none 0 0, .slice none 0 0]
  have HK10 : Hid (NbSt w9 (w9.alloc (.cells #[.slice ct T cc, .slice none 0 0, .slice none 0 0] 41)) w9.heap.size G T NM rs ct cc 0 none 0 none 0 []) := Lib.hid ⟨hK10, World.ownsRow_nil _ _ _ 1, World.ownsRow_nil _ _ _ 1, fun x h => (by cases h), rfl, hg10⟩
  clear hb9 hg10 hK10 hct HA8 HR8 HV8 HN8 Hb8
  have a0 := HA9.out.cell 0
  have al := HA9.out.lt
  simp only [List.getElem?_cons_zero] at a0
  have hrb : base + 1 < w9.heap.size := HR9.out.lt
  go_wp2_with (fail)
  obtain ⟨cb, hcb⟩ : ∃ q, Hid (w9.heap.size = q) := ⟨_, Lib.hid rfl⟩
  rw [hcb.out] at HK10 hrb ⊢
  generalize hW : World.alloc w9 _ = V at HK10 ⊢
  clear hW a0 al
  have hwc : w.heap.size ≤ cb := by rw [← hcb.out]; exact Hb9.out.size
  go_loopw [39] (fun iv wr => ∃ (k : Nat) (na : Option Addr) (nc : Nat) (aa : Option Addr) (ac : Nat) (xs : List IrD), k ≤ L ∧ iv = .int .i64 (k : Int) ∧ Hid (NbSt w9 wr cb G T NM rs ct cc k na nc aa ac xs)) (fun iv _ => L - (intOf iv).toNat)
  case atStart => exact ⟨0, none, 0, none, 0, [], Nat.zero_le _, rfl, HK10⟩
  case round =>
    clear HK10
    obtain ⟨k, na, nc, aa, ac, xs, hk, rfl, HS⟩ := hrel
    have hfr : Below w.heap.size w wr := Hb9.out.trans (HS.out.frm.mono hwc)
    by_cases hlt : k < L
    · have hkI : (k : Int) < (L : Int) := by omega
      have hkI0 : (0 : Int) ≤ (k : Int) := by omega
      have hkl : k < rs.length := by rw [HL.out]; exact hlt
      obtain ⟨b, off, hga⟩ := Hl.out.at_ k hkl
      obtain ⟨c0, c1⟩ := (Hl.out.grown hfr).cell b off hga k hkl
      have hm : rs[k] ∈ rs := List.getElem_mem hkl
      have hNi := hNk.out k hkl
      have htk : Hid (NM.take (k + 1) = NM.take k ++ [rs[k].n]) := Lib.hid (by rw [List.take_add_one, hNi]; rfl)
      have hst : Hid ((rs.take (k + 1)).map (fun r => r.ds.map (fun d => d.l.map G)) = (rs.take k).map (fun r => r.ds.map (fun d => d.l.map G)) ++ [rs[k].ds.map (fun d => d.l.map G)]) := Lib.hid (by rw [List.take_add_one, List.getElem?_eq_getElem hkl, List.map_append]; rfl)
      have hsz := szR_take rs k hkl
      have hsz2 := szR_le rs (k + 1)
      obtain ⟨e, he⟩ : ∃ v, Hid (rs[k] = v) := ⟨_, Lib.hid rfl⟩
      rw [he.out] at c0 c1 hm htk hst hsz
      have hal := Hl.out.alts e hm
      have hbl := World.block_lt_of_cell? wr _ c0
      have hdm : e.ds.length ≤ e.c ∧ e.c ≤ 9223372036854775807 := ⟨by have := hal.row.le; rwa [List.length_map] at this, hal.row.max⟩
      -- the rule's box
      have hg1 : Below wr.heap.size wr (wr.alloc (.cells #[.string e.n, .slice e.a e.ds.length e.c] 34)) := (Below.refl _ wr).alloc (Nat.le_refl _) _
      have hB1 := Blk.new wr 34 #[.string e.n, .slice e.a e.ds.length e.c]
      have hC1 := HS.out.box.below hg1 HS.out.box.lt
      have hn1 : OwnKS (wr.alloc (.cells #[.string e.n, .slice e.a e.ds.length e.c] 34)) cb na nc (NM.take k) := by
        have h1 := World.ownsRow.alloc HS.out.nms (.cells #[.string e.n, .slice e.a e.ds.length e.c] 34)
        have h2 : (NM.take k).length = k := by rw [List.length_take, hNl.out]; omega
        unfold OwnKS
        rw [h2]
        exact h1
      have hr1 := World.ownsRow.alloc HS.out.row (.cells #[.string e.n, .slice e.a e.ds.length e.c] 34)
      have hx1 := fun x hx => (HS.out.ins x hx).below hg1
      have hf1 := HS.out.frm.trans (hg1.mono (by rw [← hcb.out]; exact HS.out.frm.size))
      have hkn : (NM.take k).length = k := by rw [List.length_take, hNl.out]; omega
      have hsz1 : cb ≤ (wr.alloc (.cells #[.string e.n, .slice e.a e.ds.length e.c] 34)).heap.size := by rw [← hcb.out]; exact (by rw [← hcb.out] at hf1; exact hf1.size)
      obtain ⟨na2, nc2, w2, hrun2, hn2, hg2, hli2⟩ := hn1.push e.n 25 (by omega) hsz1
      -- names are put down
      have tyN : ∀ {g t : Nat} {cs : List Value}, Blk (wr.alloc (.cells #[.string e.n, .slice e.a e.ds.length e.c] 34)) g t cs → 9 ≠ t → some g ≠ (Value.slice na (NM.take k).length nc).ownBlock := fun h1 h2 h3 => own_ne_ty hn1 h1 h2 h3.symm
      have hB2 := hB1.kept hg2 (tyN hB1 (by decide))
      have hC2 := hC1.kept hg2 (tyN hC1 (by decide))
      have rowN : ∀ g, (Value.slice na (NM.take k).length nc).ownBlock = some g → ∃ cur t fr, (wr.alloc (.cells #[.string e.n, .slice e.a e.ds.length e.c] 34)).heap[g]? = some (.cells cur t fr) ∧ t = 9 := fun g h1 => by
        obtain ⟨_, cur, h2⟩ := own_typ hn1 g h1
        exact ⟨cur, _, _, h2, rfl⟩
      have hr2 := own_kept_ty hr1 hg2 (fun g h1 => by obtain ⟨cur, t, fr, h2, rfl⟩ := rowN g h1; exact ⟨cur, _, fr, h2, by decide⟩)
      have hx2 := fun x hx => (hx1 x hx).kept hg2 (fun g h1 => by obtain ⟨cur, t, fr, h2, rfl⟩ := rowN g h1; exact ⟨cur, _, fr, h2, by decide, by decide⟩)
      have hf2 := hf1.trans (belowAt hg2 (B := cb) (fun g h1 => (own_typ hn1 g h1).1) hsz1)
      have hsz2' : cb ≤ w2.heap.size := Nat.le_trans hsz1 hg2.size
      -- .. and the box is written
      have hgS := grownBy_set w2 cb 1 (.slice na2 (k + 1) nc2)
      have hB3 := hB2.kept hgS (fun h1 => by injection h1 with h1; have h2 := hB1; have h3 := hC1; unfold Blk at h2 h3; rw [h1, h3] at h2; cases h2)
      have hC3 := hC2.set 1 (.slice na2 (k + 1) nc2)
      simp only [List.set_cons_zero, List.set_cons_succ] at hC3
      have boxS : ∀ g, some cb = some g → ∃ cur t fr, w2.heap[g]? = some (.cells cur t fr) ∧ t = 41 := fun g h1 => by injection h1 with h1; subst h1; exact ⟨_, _, _, hC2, rfl⟩
      have hr3 := own_kept_ty hr2 hgS (fun g h1 => by obtain ⟨cur, t, fr, h2, rfl⟩ := boxS g h1; exact ⟨cur, _, fr, h2, by decide⟩)
      have hx3 := fun x hx => (hx2 x hx).kept hgS (fun g h1 => by obtain ⟨cur, t, fr, h2, rfl⟩ := boxS g h1; exact ⟨cur, _, fr, h2, by decide, by decide⟩)
      have hn3 := own_kept_ty hn2 hgS (fun g h1 => by obtain ⟨cur, t, fr, h2, rfl⟩ := boxS g h1; exact ⟨cur, _, fr, h2, by decide⟩)
      have hf3 := hf2.trans (belowAt hgS (B := cb) (fun g h1 => by injection h1 with h1; omega) hsz2')
      have b0 := HS.out.box.cell 1
      have bl := HS.out.box.lt
      have y0 := hB1.cell 0
      have yl := hB1.lt
      have d0 := hC2.cell 1
      have dl := hC2.lt
      have df := hC2.frozen 1
      simp only [List.getElem?_cons_zero, List.getElem?_cons_succ] at b0 y0 d0
      rw [hkn, show (wr.alloc (.cells #[.string e.n, .slice e.a e.ds.length e.c] 34)).heap.size = wr.heap.size + 1 by simp] at hrun2
      have hnl3 : (NM.take k ++ [e.n]).length = k + 1 := by rw [List.length_append, hkn]; rfl
      rw [hnl3, ← htk.out] at hn3
      have HB3 := Lib.hid hB3
      have HC3 := Lib.hid hC3
      have HR3 := Lib.hid hr3
      have HX3 := Lib.hid hx3
      have HN3 := Lib.hid hn3
      have HF3 := Lib.hid hf3
      have Hrun2 := Lib.hid hrun2
      have Hal := Lib.hid hal
      have hel : e.ds.length ≤ 1000 := by omega
      have hdl : ∀ d ∈ e.ds, d.l.length ≤ 1000000 := fun d hd => by
        have h1 : d.l.length ≤ szA e.ds := by
          exact szA_mem hd
        omega
      have Hdl := Lib.hid hdl
      have HeF : Hid (∀ x, (∃ d ∈ e.ds, x ∈ d.l) → x.size ≤ maxLen) := Lib.hid (fun x ⟨d, h1, h2⟩ => hf.alts e hm d h1 x h2)
      obtain ⟨ED, hED⟩ : ∃ q, Hid (e.ds.length = q) := ⟨_, Lib.hid rfl⟩
      rw [hED.out] at c1 HB3 Hrun2 hdm hel y0 yl
      obtain ⟨rb, hrbe⟩ : ∃ q, Hid (wr.heap.size = q) := ⟨_, Lib.hid rfl⟩
      rw [hga] at *
      have Hsz1 := Lib.hid hsz1
      clear hli2 hkn hsz1 hC2 hn1 hr1 hx1 hf1 hn2 hg2 hB2 tyN rowN hr2 hx2 hf2 hgS hB3 hC3 boxS hr3 hx3 hn3 hf3 hrun2 hB1 hC1 hg1 hal hdl hm hNi hsz hsz2 hfr hnl3
      go_wp2_with (at_builtin; refine wpList_append_run rfl _ _ 25 25 rfl _ _ _ _ rfl rfl Hrun2.out ?_)
      rw [hrbe.out] at HB3 ⊢
      generalize hW : World.setCell w2 _ _ = V3 at HB3 HC3 HR3 HX3 HN3 HF3 ⊢
      clear hW d0 dl df b0 bl y0 yl c0 c1 hbl Hrun2 hsz2'
      have hw3 : Below w.heap.size w V3 := Hb9.out.trans (HF3.out.mono hwc)
      have hc3 : cb ≤ V3.heap.size := by have := HF3.out.size; rw [← hcb.out]; exact this
      have HF9 : Hid (∀ W', Below V3.drew.heap.size V3.drew W' → Below w9.heap.size w9 W') := Lib.hid (fun W' hb => by
        have h1 : Below cb w9 W' := (HF3.out.drew).trans (hb.mono hc3)
        rw [← hcb.out] at h1
        exact h1)
      have hK : ∀ (args : Array Value) (w : World), (callFunc 93 args).run Try.prog w = .ok (.enter 93 args) w := fun args w => by kernel_rfl
      have Hc := Lib.hid (exchI_any e.ds e.a e.c V3.drew (Hal.out.grown (hw3.drew)) 93 (.pointer (some ⟨vb, 0, none⟩)) hK G (fun W' x hb hx => numLook_any W' vb nb nn G x (HV9.out.below (HF9.out W' hb) HV9.out.lt) (HN9.out.kept (below_grownBy (HF9.out W' hb) none) (by simp)) (HeF.out x hx)) (by rw [hED.out]; omega) Hdl.out)
      rw [hED.out] at Hc
      have q1 : V3.drew.cell? ⟨cb, 2, none⟩ = some (.slice aa k ac) := by simpa using HC3.out.cell 2
      have HS15 : Hid (V3.drew.cell? ⟨rb, 1, none⟩ = some (.slice e.a ED e.c)) := Lib.hid (by simpa using HB3.out.cell 1)
      have HedL : Hid ((e.ds.map (fun d => d.l.map G)).length = ED) := Lib.hid (by rw [List.length_map, hED.out])
      clear hw3 hK
      go_wp2_with (fail)
      refine wp_region_held_drew (S := fun w' => w'.cell? ⟨rb, 1, none⟩ = some (.slice e.a ED e.c)) (by kernel_rfl) ?_ (fun hHeld => ?_)
      · exact HS15.out
      refine wpAnyH_take (i := 0) (v := ?_) (iatLS iatZS) (by kernel_rfl) (by kernel_rfl) (by kernel_rfl) (fun _ _ _ h => h) (Or.inl ⟨by rfl, ?_⟩) (by assumption) ?_
      rotate_left
      · intro w hSw
        try dsimp only at hSw
        go_simp
        all_goals with_reducible rfl
      try simp only [Act.put, List.setIfInBounds_toArray, List.set_cons_zero, List.set_cons_succ]
      refine wpAnyH_take (i := 2) (v := ?_) (iatLS (iatSS (iatSS iatZS))) (by kernel_rfl) (by kernel_rfl) (by kernel_rfl) (fun _ _ _ h => h) (Or.inl ⟨by rfl, ?_⟩) (by assumption) ?_
      rotate_left
      · intro w hSw
        try dsimp only at hSw
        go_simp
        all_goals with_reducible rfl
      try simp only [Act.put, List.setIfInBounds_toArray, List.set_cons_zero, List.set_cons_succ]
      refine wpAnyH_take (i := 3) (v := ?_) (iatLS (iatSS (iatSS (iatSS iatZS)))) (by kernel_rfl) (by kernel_rfl) (by kernel_rfl) (fun _ _ _ h => h) (Or.inl ⟨by rfl, ?_⟩) (by assumption) ?_
      rotate_left
      · intro w hSw
        try dsimp only at hSw
        go_simp
        all_goals with_reducible rfl
      try simp only [Act.put, List.setIfInBounds_toArray, List.set_cons_zero, List.set_cons_succ]
      refine wpAnyH_take (i := 4) (v := ?_) (iatLS (iatSS (iatSS (iatSS (iatSS iatZS))))) (by kernel_rfl) (by kernel_rfl) (by kernel_rfl) (fun _ _ _ h => h) (Or.inl ⟨by rfl, ?_⟩) (by assumption) ?_
      rotate_left
      · intro w hSw
        try dsimp only at hSw
        go_simp
        all_goals with_reducible rfl
      try simp only [Act.put, List.setIfInBounds_toArray, List.set_cons_zero, List.set_cons_succ]
      refine wpAnyH_ready (rs := [1, 5]) (by kernel_rfl) (by simp) ?_
      refine AllReadyH.cons (iatLS (iatSS iatZS)) (fun K hK => ?_) (AllReadyH.cons (iatLS (iatSS (iatSS (iatSS (iatSS (iatSS iatZS)))))) (fun K hK => ?_) (AllReadyH.nil))
      ·
        go_simp
        refine hK.out _ _ ?_ (fun hHeld => ?_)
        · exact HS15.out
        clear hK K
        try simp only [Act.put, List.setIfInBounds_toArray, List.set_cons_zero, List.set_cons_succ]
        refine wpAnyH_ready (rs := [5]) (by kernel_rfl) (by simp) ?_
        refine AllReadyH.cons (iatLS (iatSS (iatSS (iatSS (iatSS (iatSS iatZS)))))) (fun K hK => ?_) AllReadyH.nil
        go_simp
        (with_reducible refine Hc.out.mono ?_)
        rintro e4 V4 ⟨xa, xc, ds2, rfl, hx4, hm4, hb4⟩
        have hdn : ds2.length = ED := (by have h1 := congrArg List.length hm4; rw [List.length_map, HedL.out] at h1; exact h1)
        have hb3d : Below V3.heap.size V3 V4 := (Below.refl _ V3).drew.trans hb4
        have hB4 := HB3.out.below hb3d HB3.out.lt
        have hC4 := HC3.out.below hb3d HC3.out.lt
        have hR4 := World.ownsRow.kept HR3.out (below_grownBy hb3d none) (by cases e : (Value.slice aa k ac).ownBlock <;> simp)
        have hN4 := World.ownsRow.kept HN3.out (below_grownBy hb3d none) (by cases e : (Value.slice na2 (k + 1) nc2).ownBlock <;> simp)
        have hX4 := fun x hx => (HX3.out x hx).below hb3d
        have hc4 := Nat.le_trans hc3 hb3d.size
        have hF4 := HF3.out.trans (hb3d.mono hc3)
        have hx4m := hx4.mono hc3
        obtain ⟨aa2, ac2, W5, hrun5, hr5, hg5⟩ := run_pushV V4 39 39 47 (.slice none 0 0) 1 24 Try.underlying39 info_alts2 rfl (by decide) (by decide) [.slice xa ED xc] rfl (by simp [Value.oneCell']) hR4 (by omega) hc4
        have rowA : ∀ g, (Value.slice aa k ac).ownBlock = some g → ∃ cur t fr, V4.heap[g]? = some (.cells cur t fr) ∧ t = 47 := fun g h1 => (by obtain ⟨_, cur, h2⟩ := own_typ hR4 g h1; exact ⟨cur, _, _, h2, rfl⟩)
        have hB5 := hB4.kept hg5 (fun h1 => own_ne_ty hR4 hB4 (by decide) h1.symm)
        have hC5 := hC4.kept hg5 (fun h1 => own_ne_ty hR4 hC4 (by decide) h1.symm)
        have hN5 := own_kept_ty hN4 hg5 (fun g h1 => by obtain ⟨cur, t, fr, h2, rfl⟩ := rowA g h1; exact ⟨cur, _, fr, h2, by decide⟩)
        have hX5 := fun x hx => (hX4 x hx).kept hg5 (fun g h1 => by obtain ⟨cur, t, fr, h2, rfl⟩ := rowA g h1; exact ⟨cur, _, fr, h2, by decide, by decide⟩)
        have hx5 := hx4m.kept hg5 (fun g h1 => by obtain ⟨cur, t, fr, h2, rfl⟩ := rowA g h1; exact ⟨cur, _, fr, h2, by decide, by decide⟩)
        have hF5 := hF4.trans (belowAt hg5 (B := cb) (fun g h1 => (own_typ hR4 g h1).1) hc4)
        have hc5 := Nat.le_trans hc4 hg5.size
        have hgS := grownBy_set W5 cb 2 (.slice aa2 (k + 1) ac2)
        have boxS : ∀ g, some cb = some g → ∃ cur t fr, W5.heap[g]? = some (.cells cur t fr) ∧ t = 41 := fun g h1 => (by injection h1 with h1; subst h1; exact ⟨_, _, _, hC5, rfl⟩)
        have hC6 := hC5.set 2 (.slice aa2 (k + 1) ac2)
        simp only [List.set_cons_zero, List.set_cons_succ] at hC6
        have hB6 := hB5.kept hgS (fun h1 => by injection h1 with h1; have h2 := hB5; have h3 := hC5; unfold Blk at h2 h3; rw [h1, h3] at h2; cases h2)
        have hr6 := own_kept_ty hr5 hgS (fun g h1 => by obtain ⟨cur, t, fr, h2, rfl⟩ := boxS g h1; exact ⟨cur, _, fr, h2, by decide⟩)
        have hN6 := own_kept_ty hN5 hgS (fun g h1 => by obtain ⟨cur, t, fr, h2, rfl⟩ := boxS g h1; exact ⟨cur, _, fr, h2, by decide⟩)
        have hX6 := fun x hx => (hX5 x hx).kept hgS (fun g h1 => by obtain ⟨cur, t, fr, h2, rfl⟩ := boxS g h1; exact ⟨cur, _, fr, h2, by decide, by decide⟩)
        have hx6 := hx5.kept hgS (fun g h1 => by obtain ⟨cur, t, fr, h2, rfl⟩ := boxS g h1; exact ⟨cur, _, fr, h2, by decide, by decide⟩)
        have hF6 := hF5.trans (belowAt hgS (B := cb) (fun g h1 => by injection h1 with h1; omega) hc5)
        have HNb : Hid (NbSt w9 (W5.setCell ⟨cb, 2, none⟩ (.slice aa2 (k + 1) ac2)) cb G T NM rs ct cc (k + 1) na2 nc2 aa2 ac2 (xs ++ [⟨ds2, xa, xc⟩])) := Lib.hid ⟨hC6, hN6, (by rw [List.map_append]; show World.ownsRow _ _ _ _ _ _ (xs.map IrD.v ++ [.slice xa ds2.length xc]); rw [hdn]; exact hr6), (fun x hx => by rcases List.mem_append.1 hx with hx | hx; exact hX6 x hx; rw [List.mem_singleton] at hx; subst hx; exact hx6), (by rw [List.map_append, HS.out.is_, hst.out]; congr 1; show [ds2.map (fun d => d.l)] = _; rw [hm4]), hF6⟩
        have q2 : V4.cell? ⟨cb, 2, none⟩ = some (.slice aa k ac) := (by simpa using hC4.cell 2)
        have q2l := hC4.lt
        have q3 : ∀ o, (V4.alloc o).cell? ⟨cb, 2, none⟩ = some (.slice aa k ac) := fun o => (by simpa using (hC4.alloc o).cell 2)
        have q5 : W5.cell? ⟨cb, 2, none⟩ = some (.slice aa k ac) := (by simpa using hC5.cell 2)
        have q5l := hC5.lt
        have q5f := hC5.frozen 2
        have Hap := Lib.hid hrun5
        have HS15b : Hid (V4.cell? ⟨rb, 1, none⟩ = some (.slice e.a ED e.c)) := Lib.hid (by simpa using hB4.cell 1)
        have HS15c : Hid (∀ o, (V4.alloc o).cell? ⟨rb, 1, none⟩ = some (.slice e.a ED e.c)) := Lib.hid (fun o => by simpa using (hB4.alloc o).cell 1)
        have HS15d : Hid (W5.cell? ⟨rb, 1, none⟩ = some (.slice e.a ED e.c)) := Lib.hid (by simpa using hB5.cell 1)
        have HS15e : Hid ((W5.setCell ⟨cb, 2, none⟩ (.slice aa2 (k + 1) ac2)).cell? ⟨rb, 1, none⟩ = some (.slice e.a ED e.c)) := Lib.hid (by simpa using hB6.cell 1)
        clear hx4 hm4 hb4 hdn hb3d hB4 hC4 hR4 hN4 hX4 hc4 hF4 hx4m hrun5 hr5 hg5 rowA hB5 hC5 hN5 hX5 hx5 hF5 hc5 hgS boxS hC6 hB6 hr6 hN6 hX6 hx6 hF6
        try dsimp only
        refine hK.out _ _ ?_ (fun hHeld => ?_)
        · exact HS15b.out
        clear hK K
        try simp only [Act.put, List.setIfInBounds_toArray, List.set_cons_zero, List.set_cons_succ]
        refine wpAnyH_ready (rs := [6]) (by kernel_rfl) (by simp) ?_
        refine AllReadyH.cons (iatLS (iatSS (iatSS (iatSS (iatSS (iatSS (iatSS iatZS))))))) (fun K hK => ?_) AllReadyH.nil
        go_simp
        refine hK.out _ _ ?_ (fun hHeld => ?_)
        · exact HS15c.out _
        clear hK K
        try simp only [Act.put, List.setIfInBounds_toArray, List.set_cons_zero, List.set_cons_succ]
        refine wpAnyH_ready (rs := [7]) (by kernel_rfl) (by simp) ?_
        refine AllReadyH.cons (iatLS (iatSS (iatSS (iatSS (iatSS (iatSS (iatSS (iatSS iatZS)))))))) (fun K hK => ?_) AllReadyH.nil
        refine stepAppS rfl _ _ 39 39 rfl _ _ _ _ rfl rfl Hap.out ?_
        refine hK.out _ _ ?_ (fun hHeld => ?_)
        · exact HS15d.out
        clear hK K
        try simp only [Act.put, List.setIfInBounds_toArray, List.set_cons_zero, List.set_cons_succ]
        refine wpAnyH_take (i := 8) (v := ?_) (iatLS (iatSS (iatSS (iatSS (iatSS (iatSS (iatSS (iatSS (iatSS iatZS))))))))) (by kernel_rfl) (by kernel_rfl) (by kernel_rfl) (fun _ _ _ h => h) (Or.inl ⟨by rfl, ?_⟩) (by assumption) ?_
        rotate_left
        · intro w hSw
          try dsimp only at hSw
          go_simp
          all_goals with_reducible rfl
        try simp only [Act.put, List.setIfInBounds_toArray, List.set_cons_zero, List.set_cons_succ]
        refine wpAnyH_ready (rs := [9]) (by kernel_rfl) (by simp) ?_
        refine AllReadyH.cons (iatLS (iatSS (iatSS (iatSS (iatSS (iatSS (iatSS (iatSS (iatSS (iatSS iatZS)))))))))) (fun K hK => ?_) AllReadyH.nil
        go_simp
        refine hK.out _ _ ?_ (fun hHeld => ?_)
        · exact HS15e.out
        clear hK K
        try simp only [Act.put, List.setIfInBounds_toArray, List.set_cons_zero, List.set_cons_succ]
        refine wpAnyH_done (by kernel_rfl) ?_ _
        go_wp2_with (fail)
        exact ⟨⟨k + 1, na2, nc2, aa2, ac2, _, by omega, by go_num, HNb⟩, by simp [intOf]; omega⟩
      ·
        go_simp
        (with_reducible refine Hc.out.mono ?_)
        rintro e4 V4 ⟨xa, xc, ds2, rfl, hx4, hm4, hb4⟩
        have hdn : ds2.length = ED := (by have h1 := congrArg List.length hm4; rw [List.length_map, HedL.out] at h1; exact h1)
        have hb3d : Below V3.heap.size V3 V4 := (Below.refl _ V3).drew.trans hb4
        have hB4 := HB3.out.below hb3d HB3.out.lt
        have hC4 := HC3.out.below hb3d HC3.out.lt
        have hR4 := World.ownsRow.kept HR3.out (below_grownBy hb3d none) (by cases e : (Value.slice aa k ac).ownBlock <;> simp)
        have hN4 := World.ownsRow.kept HN3.out (below_grownBy hb3d none) (by cases e : (Value.slice na2 (k + 1) nc2).ownBlock <;> simp)
        have hX4 := fun x hx => (HX3.out x hx).below hb3d
        have hc4 := Nat.le_trans hc3 hb3d.size
        have hF4 := HF3.out.trans (hb3d.mono hc3)
        have hx4m := hx4.mono hc3
        obtain ⟨aa2, ac2, W5, hrun5, hr5, hg5⟩ := run_pushV V4 39 39 47 (.slice none 0 0) 1 24 Try.underlying39 info_alts2 rfl (by decide) (by decide) [.slice xa ED xc] rfl (by simp [Value.oneCell']) hR4 (by omega) hc4
        have rowA : ∀ g, (Value.slice aa k ac).ownBlock = some g → ∃ cur t fr, V4.heap[g]? = some (.cells cur t fr) ∧ t = 47 := fun g h1 => (by obtain ⟨_, cur, h2⟩ := own_typ hR4 g h1; exact ⟨cur, _, _, h2, rfl⟩)
        have hB5 := hB4.kept hg5 (fun h1 => own_ne_ty hR4 hB4 (by decide) h1.symm)
        have hC5 := hC4.kept hg5 (fun h1 => own_ne_ty hR4 hC4 (by decide) h1.symm)
        have hN5 := own_kept_ty hN4 hg5 (fun g h1 => by obtain ⟨cur, t, fr, h2, rfl⟩ := rowA g h1; exact ⟨cur, _, fr, h2, by decide⟩)
        have hX5 := fun x hx => (hX4 x hx).kept hg5 (fun g h1 => by obtain ⟨cur, t, fr, h2, rfl⟩ := rowA g h1; exact ⟨cur, _, fr, h2, by decide, by decide⟩)
        have hx5 := hx4m.kept hg5 (fun g h1 => by obtain ⟨cur, t, fr, h2, rfl⟩ := rowA g h1; exact ⟨cur, _, fr, h2, by decide, by decide⟩)
        have hF5 := hF4.trans (belowAt hg5 (B := cb) (fun g h1 => (own_typ hR4 g h1).1) hc4)
        have hc5 := Nat.le_trans hc4 hg5.size
        have hgS := grownBy_set W5 cb 2 (.slice aa2 (k + 1) ac2)
        have boxS : ∀ g, some cb = some g → ∃ cur t fr, W5.heap[g]? = some (.cells cur t fr) ∧ t = 41 := fun g h1 => (by injection h1 with h1; subst h1; exact ⟨_, _, _, hC5, rfl⟩)
        have hC6 := hC5.set 2 (.slice aa2 (k + 1) ac2)
        simp only [List.set_cons_zero, List.set_cons_succ] at hC6
        have hB6 := hB5.kept hgS (fun h1 => by injection h1 with h1; have h2 := hB5; have h3 := hC5; unfold Blk at h2 h3; rw [h1, h3] at h2; cases h2)
        have hr6 := own_kept_ty hr5 hgS (fun g h1 => by obtain ⟨cur, t, fr, h2, rfl⟩ := boxS g h1; exact ⟨cur, _, fr, h2, by decide⟩)
        have hN6 := own_kept_ty hN5 hgS (fun g h1 => by obtain ⟨cur, t, fr, h2, rfl⟩ := boxS g h1; exact ⟨cur, _, fr, h2, by decide⟩)
        have hX6 := fun x hx => (hX5 x hx).kept hgS (fun g h1 => by obtain ⟨cur, t, fr, h2, rfl⟩ := boxS g h1; exact ⟨cur, _, fr, h2, by decide, by decide⟩)
        have hx6 := hx5.kept hgS (fun g h1 => by obtain ⟨cur, t, fr, h2, rfl⟩ := boxS g h1; exact ⟨cur, _, fr, h2, by decide, by decide⟩)
        have hF6 := hF5.trans (belowAt hgS (B := cb) (fun g h1 => by injection h1 with h1; omega) hc5)
        have HNb : Hid (NbSt w9 (W5.setCell ⟨cb, 2, none⟩ (.slice aa2 (k + 1) ac2)) cb G T NM rs ct cc (k + 1) na2 nc2 aa2 ac2 (xs ++ [⟨ds2, xa, xc⟩])) := Lib.hid ⟨hC6, hN6, (by rw [List.map_append]; show World.ownsRow _ _ _ _ _ _ (xs.map IrD.v ++ [.slice xa ds2.length xc]); rw [hdn]; exact hr6), (fun x hx => by rcases List.mem_append.1 hx with hx | hx; exact hX6 x hx; rw [List.mem_singleton] at hx; subst hx; exact hx6), (by rw [List.map_append, HS.out.is_, hst.out]; congr 1; show [ds2.map (fun d => d.l)] = _; rw [hm4]), hF6⟩
        have q2 : V4.cell? ⟨cb, 2, none⟩ = some (.slice aa k ac) := (by simpa using hC4.cell 2)
        have q2l := hC4.lt
        have q3 : ∀ o, (V4.alloc o).cell? ⟨cb, 2, none⟩ = some (.slice aa k ac) := fun o => (by simpa using (hC4.alloc o).cell 2)
        have q5 : W5.cell? ⟨cb, 2, none⟩ = some (.slice aa k ac) := (by simpa using hC5.cell 2)
        have q5l := hC5.lt
        have q5f := hC5.frozen 2
        have Hap := Lib.hid hrun5
        have HS15b : Hid (V4.cell? ⟨rb, 1, none⟩ = some (.slice e.a ED e.c)) := Lib.hid (by simpa using hB4.cell 1)
        have HS15c : Hid (∀ o, (V4.alloc o).cell? ⟨rb, 1, none⟩ = some (.slice e.a ED e.c)) := Lib.hid (fun o => by simpa using (hB4.alloc o).cell 1)
        have HS15d : Hid (W5.cell? ⟨rb, 1, none⟩ = some (.slice e.a ED e.c)) := Lib.hid (by simpa using hB5.cell 1)
        have HS15e : Hid ((W5.setCell ⟨cb, 2, none⟩ (.slice aa2 (k + 1) ac2)).cell? ⟨rb, 1, none⟩ = some (.slice e.a ED e.c)) := Lib.hid (by simpa using hB6.cell 1)
        clear hx4 hm4 hb4 hdn hb3d hB4 hC4 hR4 hN4 hX4 hc4 hF4 hx4m hrun5 hr5 hg5 rowA hB5 hC5 hN5 hX5 hx5 hF5 hc5 hgS boxS hC6 hB6 hr6 hN6 hX6 hx6 hF6
        try dsimp only
        refine hK.out _ _ ?_ (fun hHeld => ?_)
        · exact HS15b.out
        clear hK K
        try simp only [Act.put, List.setIfInBounds_toArray, List.set_cons_zero, List.set_cons_succ]
        refine wpAnyH_ready (rs := [1, 6]) (by kernel_rfl) (by simp) ?_
        refine AllReadyH.cons (iatLS (iatSS iatZS)) (fun K hK => ?_) (AllReadyH.cons (iatLS (iatSS (iatSS (iatSS (iatSS (iatSS (iatSS iatZS))))))) (fun K hK => ?_) (AllReadyH.nil))
        ·
          go_simp
          refine hK.out _ _ ?_ (fun hHeld => ?_)
          · exact HS15b.out
          clear hK K
          try simp only [Act.put, List.setIfInBounds_toArray, List.set_cons_zero, List.set_cons_succ]
          refine wpAnyH_ready (rs := [6]) (by kernel_rfl) (by simp) ?_
          refine AllReadyH.cons (iatLS (iatSS (iatSS (iatSS (iatSS (iatSS (iatSS iatZS))))))) (fun K hK => ?_) AllReadyH.nil
          go_simp
          refine hK.out _ _ ?_ (fun hHeld => ?_)
          · exact HS15c.out _
          clear hK K
          try simp only [Act.put, List.setIfInBounds_toArray, List.set_cons_zero, List.set_cons_succ]
          refine wpAnyH_ready (rs := [7]) (by kernel_rfl) (by simp) ?_
          refine AllReadyH.cons (iatLS (iatSS (iatSS (iatSS (iatSS (iatSS (iatSS (iatSS iatZS)))))))) (fun K hK => ?_) AllReadyH.nil
          refine stepAppS rfl _ _ 39 39 rfl _ _ _ _ rfl rfl Hap.out ?_
          refine hK.out _ _ ?_ (fun hHeld => ?_)
          · exact HS15d.out
          clear hK K
          try simp only [Act.put, List.setIfInBounds_toArray, List.set_cons_zero, List.set_cons_succ]
          refine wpAnyH_take (i := 8) (v := ?_) (iatLS (iatSS (iatSS (iatSS (iatSS (iatSS (iatSS (iatSS (iatSS iatZS))))))))) (by kernel_rfl) (by kernel_rfl) (by kernel_rfl) (fun _ _ _ h => h) (Or.inl ⟨by rfl, ?_⟩) (by assumption) ?_
          rotate_left
          · intro w hSw
            try dsimp only at hSw
            go_simp
            all_goals with_reducible rfl
          try simp only [Act.put, List.setIfInBounds_toArray, List.set_cons_zero, List.set_cons_succ]
          refine wpAnyH_ready (rs := [9]) (by kernel_rfl) (by simp) ?_
          refine AllReadyH.cons (iatLS (iatSS (iatSS (iatSS (iatSS (iatSS (iatSS (iatSS (iatSS (iatSS iatZS)))))))))) (fun K hK => ?_) AllReadyH.nil
          go_simp
          refine hK.out _ _ ?_ (fun hHeld => ?_)
          · exact HS15e.out
          clear hK K
          try simp only [Act.put, List.setIfInBounds_toArray, List.set_cons_zero, List.set_cons_succ]
          refine wpAnyH_done (by kernel_rfl) ?_ _
          go_wp2_with (fail)
          exact ⟨⟨k + 1, na2, nc2, aa2, ac2, _, by omega, by go_num, HNb⟩, by simp [intOf]; omega⟩
        ·
          go_simp
          refine hK.out _ _ ?_ (fun hHeld => ?_)
          · exact HS15c.out _
          clear hK K
          try simp only [Act.put, List.setIfInBounds_toArray, List.set_cons_zero, List.set_cons_succ]
          refine wpAnyH_ready (rs := [1]) (by kernel_rfl) (by simp) ?_
          refine AllReadyH.cons (iatLS (iatSS iatZS)) (fun K hK => ?_) AllReadyH.nil
          go_simp
          refine hK.out _ _ ?_ (fun hHeld => ?_)
          · exact HS15c.out _
          clear hK K
          try simp only [Act.put, List.setIfInBounds_toArray, List.set_cons_zero, List.set_cons_succ]
          refine wpAnyH_ready (rs := [7]) (by kernel_rfl) (by simp) ?_
          refine AllReadyH.cons (iatLS (iatSS (iatSS (iatSS (iatSS (iatSS (iatSS (iatSS iatZS)))))))) (fun K hK => ?_) AllReadyH.nil
          refine stepAppS rfl _ _ 39 39 rfl _ _ _ _ rfl rfl Hap.out ?_
          refine hK.out _ _ ?_ (fun hHeld => ?_)
          · exact HS15d.out
          clear hK K
          try simp only [Act.put, List.setIfInBounds_toArray, List.set_cons_zero, List.set_cons_succ]
          refine wpAnyH_take (i := 8) (v := ?_) (iatLS (iatSS (iatSS (iatSS (iatSS (iatSS (iatSS (iatSS (iatSS iatZS))))))))) (by kernel_rfl) (by kernel_rfl) (by kernel_rfl) (fun _ _ _ h => h) (Or.inl ⟨by rfl, ?_⟩) (by assumption) ?_
          rotate_left
          · intro w hSw
            try dsimp only at hSw
            go_simp
            all_goals with_reducible rfl
          try simp only [Act.put, List.setIfInBounds_toArray, List.set_cons_zero, List.set_cons_succ]
          refine wpAnyH_ready (rs := [9]) (by kernel_rfl) (by simp) ?_
          refine AllReadyH.cons (iatLS (iatSS (iatSS (iatSS (iatSS (iatSS (iatSS (iatSS (iatSS (iatSS iatZS)))))))))) (fun K hK => ?_) AllReadyH.nil
          go_simp
          refine hK.out _ _ ?_ (fun hHeld => ?_)
          · exact HS15e.out
          clear hK K
          try simp only [Act.put, List.setIfInBounds_toArray, List.set_cons_zero, List.set_cons_succ]
          refine wpAnyH_done (by kernel_rfl) ?_ _
          go_wp2_with (fail)
          exact ⟨⟨k + 1, na2, nc2, aa2, ac2, _, by omega, by go_num, HNb⟩, by simp [intOf]; omega⟩
    · obtain rfl : k = L := by omega
      have hkI : ¬ (k : Int) < (k : Int) := by omega
      have s0 := HS.out.box.cell 0
      have s1 := HS.out.box.cell 1
      have s2 := HS.out.box.cell 2
      have sl := HS.out.box.lt
      have hR9 := HR9.out.below (by rw [hcb.out]; exact HS.out.frm) HR9.out.lt
      have r0 := hR9.cell 0
      have r1 := hR9.cell 1
      have r2 := hR9.cell 2
      have rl := hR9.lt
      have rf0 := hR9.frozen 0
      have rf1 := hR9.frozen 1
      have rf2 := hR9.frozen 2
      simp only [List.getElem?_cons_zero, List.getElem?_cons_succ] at s0 s1 s2 r0 r1 r2
      -- what is handed out
      have gS : wr.grownBy (((wr.setCell ⟨base + 1, 0, none⟩ (.slice ct T cc)).setCell ⟨base + 1, 1, none⟩ (.slice na k nc)).setCell ⟨base + 1, 2, none⟩ (.slice aa k ac)) (some (base + 1)) := grownBy_trans (grownBy_trans (grownBy_set wr _ _ _) (grownBy_set _ _ _ _) (fun i e => .inl e)) (grownBy_set _ _ _ _) (fun i e => .inl e)
      have hO := ((hR9.set 0 (.slice ct T cc)).set 1 (.slice na k nc)).set 2 (.slice aa k ac)
      simp only [List.set_cons_zero, List.set_cons_succ] at hO
      have boxT : ∀ g, some (base + 1) = some g → ∃ cur t fr, wr.heap[g]? = some (.cells cur t fr) ∧ t = 41 := fun g h1 => by injection h1 with h1; subst h1; exact ⟨_, _, _, hR9, rfl⟩
      have hn5 := own_kept_ty HS.out.nms gS (fun g h1 => by obtain ⟨cur, t, fr, h2, rfl⟩ := boxT g h1; exact ⟨cur, _, fr, h2, by decide⟩)
      have hr5 := own_kept_ty HS.out.row gS (fun g h1 => by obtain ⟨cur, t, fr, h2, rfl⟩ := boxT g h1; exact ⟨cur, _, fr, h2, by decide⟩)
      have hx5 := fun x hx => (HS.out.ins x hx).kept gS (fun g h1 => by obtain ⟨cur, t, fr, h2, rfl⟩ := boxT g h1; exact ⟨cur, _, fr, h2, by decide, by decide⟩)
      have hbF : Below w.heap.size w (((wr.setCell ⟨base + 1, 0, none⟩ (.slice ct T cc)).setCell ⟨base + 1, 1, none⟩ (.slice na k nc)).setCell ⟨base + 1, 2, none⟩ (.slice aa k ac)) := hfr.trans (belowAt gS (fun g h1 => by injection h1 with h1; have := hbase.out; omega) hfr.size)
      have ht5 : Nms (((wr.setCell ⟨base + 1, 0, none⟩ (.slice ct T cc)).setCell ⟨base + 1, 1, none⟩ (.slice na k nc)).setCell ⟨base + 1, 2, none⟩ (.slice aa k ac)) ct cc ts := by
        have hv := hct9.out
        refine ⟨hv.le, hv.max, hv.nil_, hv.at_, fun b2 o2 e2 i2 h2 => ?_⟩
        have h3 := hv.cell b2 o2 e2 i2 h2
        have h4 := World.block_lt_of_cell? _ _ h3
        have h5 := (HS.out.frm.cell (p := ⟨b2, o2 + i2, none⟩) (by show b2 < cb; rw [← hcb.out]; exact h4)).trans h3
        have h6 : b2 ≠ base + 1 := fun e3 => by
          have h7 := HR9.out
          unfold Blk at h7
          rw [e3] at h3
          unfold World.cell? at h3
          dsimp only at h3
          rw [h7] at h3
          simp only [Option.bind_some] at h3
          rw [List.getElem_map] at h3
          rcases Nat.lt_or_ge (o2 + i2) 3 with h8 | h8
          · obtain h9 | h9 | h9 : o2 + i2 = 0 ∨ o2 + i2 = 1 ∨ o2 + i2 = 2 := by omega
            all_goals (rw [h9] at h3; simp at h3)
          · rw [Array.getElem?_eq_none (by simpa using h8)] at h3
            cases h3
        rw [← h5]
        unfold World.cell?
        rw [gS.block b2 (Nat.lt_of_lt_of_le h4 (by rw [hcb.out]; have := HS.out.frm.size; rw [hcb.out] at this; exact this)) (fun e3 => h6 (by injection e3))]
      have hkn : (NM.take k).length = k := by rw [List.length_take, hNl.out, Nat.min_self]
      have HO := Lib.hid hO
      have HB := Lib.hid hbF
      have HN5 := Lib.hid hn5
      have HR5 := Lib.hid hr5
      have HX5 := Lib.hid hx5
      have HT5 := Lib.hid ht5
      have Hkn := Lib.hid hkn
      clear gS hO boxT hn5 hr5 hx5 hbF ht5 hkn hR9
      go_wp2_with (fail)
      generalize hW : World.setCell (World.setCell (World.setCell wr _ _) _ _) _ _ = W9 at HO HB HN5 HR5 HX5 HT5 ⊢
      have y0 := HO.out.cell 0
      have y1 := HO.out.cell 1
      have y2 := HO.out.cell 2
      simp only [List.getElem?_cons_zero, List.getElem?_cons_succ] at y0 y1 y2
      refine bodyPost_ret (v := .tuple #[.agg #[.slice ct T cc, .slice na k nc, .slice aa k ac], .int .i64 0]) (by simp [results, Try.results48, go_sem, y0, y1, y2]; try first | rfl | assumption | omega) rfl ?_
      rw [← hQ.out]
      have hxl : xs.length = k := by
        have := congrArg List.length HS.out.is_
        simpa [HL.out] using this
      have hNt : NM.take k = NM := List.take_of_length_le (by rw [hNl.out]; exact Nat.le_refl _)
      have hNk2 : NM.length = k := hNl.out
      refine ⟨⟨ts, ct, cc, NM, na, nc, xs, aa, ac⟩, by show _ = Ending.returned (.tuple #[.agg #[.slice ct ts.length cc, .slice na NM.length nc, .slice aa xs.length ac], .int .i64 0]); rw [HT.out, hNk2, hxl], ⟨HT5.out, ?_, own_vals HR5.out (by rw [List.length_map, hxl]), fun x hx => (HX5.out x hx).alts⟩, ?_, HB.out⟩
      · have := HN5.out
        rw [hNt] at this
        exact own_vals this (by rw [List.length_map, hNk2])
      · rw [if_pos rfl]
        unfold CfD.p
        dsimp only
        rw [HS.out.is_, List.take_of_length_le (by rw [HL.out]; exact Nat.le_refl _)]
end Go.Proofs.Ytiopbjgpaidemaa

