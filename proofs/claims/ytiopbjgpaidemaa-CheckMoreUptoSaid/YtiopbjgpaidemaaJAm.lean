/- Texts joined: Iv Iw Ix Iy Iz Ka Kb Km. -/
import Derived.Test.YtiopbjgpaidemaaJAl
import Derived.Test.YtiopbjgpaidemaaJAc
import Derived.Test.YtiopbjgpaidemaaJAa
set_option linter.unusedVariables false
set_option linter.unusedSimpArgs false
namespace Go.Proofs.Ytiopbjgpaidemaa
open Go.RowKit Go.Maps

attribute [local go_sem] Oper.semAt_some

/-- A grammar that lies nowhere. -/
def canR (r : Rl) : RlD := ⟨r.1, r.2.map (fun l => ⟨l, none, 0⟩), none, 0⟩
def can (G : List Rl) : List RlD := G.map canR
theorem grP_can (G : List Rl) : grP (can G) = G := by
  unfold grP can
  rw [List.map_map]
  refine (List.map_congr_left (fun r _ => ?_)).trans (List.map_id _)
  obtain ⟨n, al⟩ := r
  show (n, (al.map (fun l => (⟨l, none, 0⟩ : AltD))).map AltD.l) = (n, al)
  rw [List.map_map]
  exact congrArg (Prod.mk n) ((List.map_congr_left (fun l _ => rfl)).trans (List.map_id _))
def chkP (G : List Rl) : Int := if (G.all (fun r => nameB r.1 && decide (r.2.length ≠ 0) && r.2.all (fun a => a.all nameB)) && decide (0 < G.length)) = true then if (decide (60 < G.length) || G.any (fun r => decide (30 < r.2.length) || r.2.any (fun a => decide (30 < a.length)))) = true then 2 else 0 else 1
theorem chkG_is (rs : List RlD) : chkG rs = chkP (grP rs) := by
  have h1 : mayG rs = ((grP rs).all (fun r => nameB r.1 && decide (r.2.length ≠ 0) && r.2.all (fun a => a.all nameB)) && decide (0 < (grP rs).length)) := by
    unfold mayG grP
    rw [List.all_map, List.length_map]
    congr 2
    funext r
    simp [mayR, RlD.p, Function.comp, List.all_map]
    rfl
  have h2 : longG rs = (decide (60 < (grP rs).length) || (grP rs).any (fun r => decide (30 < r.2.length) || r.2.any (fun a => decide (30 < a.length)))) := by
    unfold longG grP
    rw [List.any_map, List.length_map]
    congr 2
    funext r
    simp [longR, RlD.p, Function.comp, List.any_map]
    rfl
  unfold chkG chkP
  rw [h1, h2]
theorem names_grP (rs : List RlD) : rs.map RlD.n = (grP rs).map Prod.fst := by simp [grP, RlD.p]
theorem FLW_congr {rs qs : List RlD} (h : grP rs = grP qs) (ts : List ByteArray) : FLW rs ts = FLW qs ts := by
  have hl : rs.length = qs.length := by
    have := congrArg List.length h
    unfold grP at this
    rwa [List.length_map, List.length_map] at this
  have hn : rs.map RlD.n = qs.map RlD.n := by rw [names_grP, names_grP, h]
  have hf : fertM rs ts = fertM qs ts := by unfold fertM; rw [h]
  have hm : nearM rs = nearM qs := by
    funext s
    rw [Bool.eq_iff_iff, nearM_iff, nearM_iff, h]
    cases rs with
    | nil =>
      have : qs = [] := List.length_eq_zero_iff.1 hl.symm
      rw [this]
    | cons r rs =>
      cases qs with
      | nil => simp at hl
      | cons q qs =>
        have : r.n = q.n := by
          rw [List.map_cons, List.map_cons] at hn
          exact (List.cons.inj hn).1
        simp [this]
  unfold FLW
  rw [hn, hf, hm, h, hl]
theorem numE_congr {rs qs : List RlD} (h : grP rs = grP qs) (ts : List ByteArray) : numE rs ts = numE qs ts := by
  unfold numE
  rw [chkG_is rs, chkG_is qs, FLW_congr h ts, h]
theorem numC_congr {rs qs : List RlD} (h : grP rs = grP qs) (ts : List ByteArray) : numC rs ts = numC qs ts := by
  have hn : rs.map RlD.n = qs.map RlD.n := by rw [names_grP, names_grP, h]
  have hl : rs.length = qs.length := by
    have := congrArg List.length h
    unfold grP at this
    rwa [List.length_map, List.length_map] at this
  have key : ∀ (rs : List RlD) (f : ByteArray → Int), rs.map (fun r => r.ds.map (fun d => d.l.map f)) = (grP rs).map (fun r => r.2.map (fun l => l.map f)) := fun rs f => by
    unfold grP
    rw [List.map_map]
    refine List.map_congr_left (fun r _ => ?_)
    simp [RlD.p, Function.comp, List.map_map]
  unfold numC
  rw [key, key, h, hn, hl]
/-- How many alternatives and numbers there are. -/
def szC (al : List (List (List Int))) : Nat := (al.map (fun r => r.length + (r.map List.length).sum)).sum
theorem back_sz (ts ns : List ByteArray) : ∀ (l : List ByteArray) (al : List (List (List Int))) (rs : List RlD), grP rs = backR ts ns l al → szR rs ≤ szC al ∧ rs.length ≤ l.length
  | [], al, rs, h => by
    have : rs = [] := by cases al <;> simpa [backR, grP] using h
    rw [this]; simp [szR]
  | n :: l, [], rs, h => by
    have : rs = [] := by simpa [backR, grP] using h
    rw [this]; simp [szR]
  | n :: l, a :: al, [], h => by simp [backR, grP] at h
  | n :: l, a :: al, r :: rs, h => by
    have h0 : r.p :: grP rs = (n, a.map (fun x => x.map (nmP ts ns))) :: backR ts ns l al := h
    obtain ⟨h1, h2⟩ := List.cons.inj h0
    obtain ⟨i1, i2⟩ := back_sz ts ns l al rs h2
    have h3 : r.ds.map AltD.l = a.map (fun x => x.map (nmP ts ns)) := (Prod.mk.inj h1).2
    have h4 : r.ds.length = a.length := by have := congrArg List.length h3; simpa using this
    have h5 : szA r.ds = (a.map List.length).sum := by
      have h6 := congrArg (List.map List.length) h3
      rw [List.map_map, List.map_map] at h6
      unfold szA
      rw [show (fun d : AltD => d.l.length) = List.length ∘ AltD.l from rfl, h6]
      congr 1
      refine List.map_congr_left (fun x _ => ?_)
      simp
    have e1 : szR (r :: rs) = (r.ds.length + szA r.ds) + szR rs := by simp [szR]
    have e2 : szC (a :: al) = (a.length + (a.map List.length).sum) + szC al := by simp [szC]
    rw [e1, e2, h4, h5]
    simp only [List.length_cons]
    omega
theorem nmP_fit {ts ns : List ByteArray} (h1 : ∀ t ∈ ts, t.size ≤ maxLen) (h2 : ∀ n ∈ ns, n.size ≤ maxLen) (x : Int) : (nmP ts ns x).size ≤ maxLen := by
  have key : ∀ (l : List ByteArray) (i : Nat), (∀ t ∈ l, t.size ≤ maxLen) → (l.getD i ⟨#[]⟩).size ≤ maxLen := fun l i h => by
    rw [List.getD_eq_getElem?_getD]
    cases e : l[i]? with
    | none => exact Nat.zero_le _
    | some t => exact h t (List.mem_of_getElem? e)
  unfold nmP
  split
  · exact key _ _ h2
  · exact key _ _ h1
theorem back_fit {ts ns : List ByteArray} (h1 : ∀ t ∈ ts, t.size ≤ maxLen) (h2 : ∀ n ∈ ns, n.size ≤ maxLen) : ∀ (l : List ByteArray) (al : List (List (List Int))) (rs : List RlD), (∀ n ∈ l, n.size ≤ maxLen) → grP rs = backR ts ns l al → FitG rs ts
  | [], al, rs, _, h => by
    have : rs = [] := by cases al <;> simpa [backR, grP] using h
    rw [this]
    exact ⟨fun r h => (by cases h), h1, fun r h => (by cases h)⟩
  | n :: l, [], rs, _, h => by
    have : rs = [] := by simpa [backR, grP] using h
    rw [this]
    exact ⟨fun r h => (by cases h), h1, fun r h => (by cases h)⟩
  | n :: l, a :: al, [], _, h => by simp [backR, grP] at h
  | n :: l, a :: al, r :: rs, hl, h => by
    have h0 : r.p :: grP rs = (n, a.map (fun x => x.map (nmP ts ns))) :: backR ts ns l al := h
    obtain ⟨h3, h4⟩ := List.cons.inj h0
    have ih := back_fit h1 h2 l al rs (fun m hm => hl m (List.mem_cons_of_mem _ hm)) h4
    have h5 : r.n = n := (Prod.mk.inj h3).1
    have h6 : r.ds.map AltD.l = a.map (fun x => x.map (nmP ts ns)) := (Prod.mk.inj h3).2
    refine ⟨fun q hq => ?_, h1, fun q hq d hd m hm => ?_⟩
    · rcases List.mem_cons.1 hq with rfl | hq
      · rw [h5]; exact hl n (by simp)
      · exact ih.rules q hq
    · rcases List.mem_cons.1 hq with rfl | hq
      · have h7 : d.l ∈ q.ds.map AltD.l := List.mem_map_of_mem hd
        rw [h6] at h7
        obtain ⟨x, _, hx⟩ := List.mem_map.1 h7
        rw [← hx] at hm
        obtain ⟨y, _, rfl⟩ := List.mem_map.1 hm
        exact nmP_fit h1 h2 y
      · exact ih.alts q hq d hd m hm
/-- Whether a grammar by numbers may be: what the program's Valid answers. -/
noncomputable def validE (p : CfP) : Int := if backE p = 0 then if numE (can (backG p)) p.toks = 0 then 0 else 80 else 80
/-- Few enough to be reckoned. -/
structure FewC (d : CfD) : Prop where
  few : d.toks.length + d.names.length + szC (d.alts.map IrD.p) ≤ 1000
  toks : ∀ t ∈ d.toks, t.size ≤ maxLen
  names : ∀ t ∈ d.names, t.size ≤ maxLen
theorem FewC.hs {d : CfD} (h : FewC d) : d.toks.length ≤ 1000000 ∧ d.names.length ≤ 1000000 ∧ ∀ r ∈ d.alts, r.ds.length ≤ 1000000 ∧ ∀ a ∈ r.ds, a.l.length ≤ 1000000 := by
  have hf := h.few
  have key : ∀ (al : List IrD) (r : IrD), r ∈ al → r.ds.length + (r.ds.map (fun a => a.l.length)).sum ≤ szC (al.map IrD.p) := by
    intro al
    induction al with
    | nil => intro r h; cases h
    | cons q al ih =>
      intro r hr
      have e : szC ((q :: al).map IrD.p) = (q.ds.length + (q.ds.map (fun a => a.l.length)).sum) + szC (al.map IrD.p) := by
        simp [szC, IrD.p, List.map_map]
        rfl
      rw [e]
      rcases List.mem_cons.1 hr with rfl | hr
      · omega
      · have := ih r hr
        omega
  have key2 : ∀ (ds : List IltD) (a : IltD), a ∈ ds → a.l.length ≤ (ds.map (fun a => a.l.length)).sum := by
    intro ds
    induction ds with
    | nil => intro a h; cases h
    | cons q ds ih =>
      intro a ha
      rw [List.map_cons, List.sum_cons]
      rcases List.mem_cons.1 ha with rfl | ha
      · omega
      · have := ih a ha
        omega
  refine ⟨by omega, by omega, fun r hr => ?_⟩
  have h1 := key d.alts r hr
  exact ⟨by omega, fun a ha => by have := key2 r.ds a ha; omega⟩

set_option maxRecDepth 100000 in
set_option maxHeartbeats 4000000 in
theorem valid_any (d : CfD) (w : World) (hd : CfAt w d) (hs : FewC d) :
    Calls Try.prog 50 #[d.v] w fun e w' => e = .returned (.int .i64 (validE d.p)) ∧ Below w.heap.size w w' := by
  have hat := hd
  have hf1 := hs.few
  have hf2 := hs.toks
  have hf3 := hs.names
  have hhs := hs.hs
  obtain ⟨R, hR⟩ : ∃ R, Hid (validE d.p = R) := ⟨_, Lib.hid rfl⟩
  rw [hR.out]
  have Hbk := Lib.hid (fun W (hb : Below w.heap.size w W) => back_any d W (hat.grown hb) hhs)
  have Hnu := Lib.hid (fun (W : World) (rs : List RlD) (a : Option Addr) (c : Nat) (hb : Below w.heap.size w W) (h : Rls W a c rs) (hg : grP rs = backG d.p) => number_any rs a c d.toks d.ta d.tc W h (hat.toks.grown hb) (back_fit hf2 hf3 d.names (d.alts.map IrD.p) rs hf3 hg) (by
    obtain ⟨h1, h2⟩ := back_sz d.toks d.names d.names (d.alts.map IrD.p) rs hg
    omega))
  have hE0 : Hid (backE d.p ≠ 0 → R = 80) := Lib.hid (fun h => by rw [← hR.out]; unfold validE; exact if_neg h)
  have hE1 : Hid (∀ rs, grP rs = backG d.p → backE d.p = 0 → R = if numE rs d.toks = 0 then 0 else 80) := Lib.hid (fun rs h h2 => by
    rw [← hR.out]
    unfold validE
    rw [if_pos h2, numE_congr (h.trans (grP_can _).symm)]
    rfl)
  dsimp only [CfD.v] at Hbk ⊢
  obtain ⟨T1, HT1⟩ : ∃ L, Hid (d.toks.length = L) := ⟨_, Lib.hid rfl⟩
  obtain ⟨N1, HN1⟩ : ∃ L, Hid (d.names.length = L) := ⟨_, Lib.hid rfl⟩
  obtain ⟨L1, HL1⟩ : ∃ L, Hid (d.alts.length = L) := ⟨_, Lib.hid rfl⟩
  rw [HT1.out, HN1.out, HL1.out] at Hbk ⊢
  rw [HT1.out] at Hnu
  have Hbk' : Hid (∀ W, Below w.heap.size w W → Calls Try.prog 95 #[.agg #[.slice d.ta T1 d.tc, .slice d.na N1 d.nc, .slice d.aa L1 d.ac]] W (BackQ W (backE d.p) (backG d.p))) := Hbk
  have Hnu' : Hid (∀ (W : World) (rs : List RlD) (a : Option Addr) (c : Nat), Below w.heap.size w W → Rls W a c rs → grP rs = backG d.p → Calls Try.prog 48 #[.agg #[.slice a rs.length c], .slice d.ta T1 d.tc] W (NumQ W (numE rs d.toks) (numC rs d.toks))) := Hnu
  have hb1 : Below w.heap.size w (w.alloc (.cells #[.slice d.ta T1 d.tc, .slice d.na N1 d.nc, .slice d.aa L1 d.ac] 41)) := (Below.refl _ w).alloc (Nat.le_refl _) _
  have hA := Blk.new w 41 #[.slice d.ta T1 d.tc, .slice d.na N1 d.nc, .slice d.aa L1 d.ac]
  have x0 := hA.cell 0
  have x1 := hA.cell 1
  have x2 := hA.cell 2
  have xl := hA.lt
  simp only [List.getElem?_cons_zero, List.getElem?_cons_succ] at x0 x1 x2
  have HA := Lib.hid hA
  have Hb1 := Lib.hid hb1
  obtain ⟨bx, hbx⟩ : ∃ q, Hid (w.heap.size = q) := ⟨_, Lib.hid rfl⟩
  have Hc1 := Lib.hid (Hbk'.out _ Hb1.out)
  obtain ⟨BE, hBE⟩ : ∃ q, Hid (backE d.p = q) := ⟨_, Lib.hid rfl⟩
  rw [hBE.out] at Hc1 hE0 hE1
  clear Hbk Hnu hA hb1 hd hat hf1 hf2 hf3 hhs hs
  go_enter Try.func50, Try.ntmps50
  go_wp2_with (fail)
  rw [hbx.out] at HA x0 x1 x2 xl ⊢
  generalize hV : World.alloc w _ = V at HA Hb1 x0 x1 x2 xl Hc1 ⊢
  clear hV
  refine Hc1.out.mono ?_
  clear Hc1
  rintro e w3 ⟨rs, ga, gc, rfl, hrl, hgr, hb3⟩
  have hg4 : Below w3.heap.size w3 (w3.alloc (.cells #[.slice ga rs.length gc] 24)) := (Below.refl _ w3).alloc (Nat.le_refl _) _
  have hG4 := Blk.new w3 24 #[.slice ga rs.length gc]
  have hr4 := hrl.grown hg4
  have hb4 := hb3.trans (hg4.mono hb3.size)
  have HA4 := Lib.hid (HA.out.below hb4 HA.out.lt)
  have Hb4 := Lib.hid (Hb1.out.trans (hb4.mono Hb1.out.size))
  have Hgr := Lib.hid hgr
  by_cases h0 : BE = 0
  case neg =>
    have hF : Hid (R = 80) := Lib.hid (hE0.out h0)
    have hne : (BE != 0) = true := by rw [bne_iff_ne]; exact h0
    clear h0 hgr hrl hg4 hG4 hr4 hb4 hb3 HA Hb1 x0 x1 x2 xl
    go_wp2_with (fail)
    exact bodyPost_ret (v := .int .i64 80) (by simp [results, Try.results50, go_sem]; try first | rfl | assumption | omega) rfl ⟨by rw [hF.out], Hb4.out⟩
  case pos =>
  have hne : (BE != 0) = false := by rw [h0]; rfl
  rw [if_pos h0] at hgr
  have hEr : Hid (R = if numE rs d.toks = 0 then 0 else 80) := Lib.hid (hE1.out rs hgr h0)
  have Hc2 := Lib.hid (Hnu'.out _ rs ga gc Hb4.out hr4 hgr)
  obtain ⟨NE, hNE⟩ : ∃ q, Hid (numE rs d.toks = q) := ⟨_, Lib.hid rfl⟩
  rw [hNE.out] at Hc2
  obtain ⟨RL, hRL⟩ : ∃ q, Hid (rs.length = q) := ⟨_, Lib.hid rfl⟩
  rw [hRL.out] at hG4 HA4 Hb4 Hc2 ⊢
  have y0 := hG4.cell 0
  have yl := hG4.lt
  have z0 := HA4.out.cell 0
  have zl := HA4.out.lt
  simp only [List.getElem?_cons_zero, List.getElem?_cons_succ] at y0 z0
  have Hh0 := Lib.hid h0
  clear h0 hgr hrl hg4 hG4 hr4 hb4 hb3 HA Hb1 x0 x1 x2 xl Hgr
  go_wp2_with (fail)
  refine Hc2.out.mono ?_
  clear Hc2
  rintro e w5 ⟨d5, rfl, _, _, hb5⟩
  have Hb5 := Lib.hid (Hb4.out.trans (hb5.mono Hb4.out.size))
  have hg6 : Below w5.heap.size w5 (w5.alloc (.cells #[.slice d5.ta d5.toks.length d5.tc, .slice d5.na d5.names.length d5.nc, .slice d5.aa d5.alts.length d5.ac] 41)) := (Below.refl _ w5).alloc (Nat.le_refl _) _
  have Hb6 := Lib.hid (Hb5.out.trans (hg6.mono Hb5.out.size))
  clear hb5 hg6 y0 yl z0 zl
  by_cases h1 : NE = 0
  · have hT : Hid (R = 0) := Lib.hid (by rw [hEr.out, hNE.out, if_pos h1])
    have hne2 : (NE != 0) = false := by rw [h1]; rfl
    have Hh1 := Lib.hid h1
    clear h1
    go_wp2_with (fail)
    exact bodyPost_ret (v := .int .i64 0) (by simp [results, Try.results50, go_sem]; try first | rfl | assumption | omega) rfl ⟨by rw [hT.out], Hb6.out⟩
  · have hT : Hid (R = 80) := Lib.hid (by rw [hEr.out, hNE.out, if_neg h1])
    have hne2 : (NE != 0) = true := by rw [bne_iff_ne]; exact h1
    clear h1
    go_wp2_with (fail)
    exact bodyPost_ret (v := .int .i64 80) (by simp [results, Try.results50, go_sem]; try first | rfl | assumption | omega) rfl ⟨by rw [hT.out], Hb6.out⟩
end Go.Proofs.Ytiopbjgpaidemaa

namespace Go.Proofs.Ytiopbjgpaidemaa
open Go.RowKit Go.Maps

attribute [local go_sem] Oper.semAt_some

abbrev bA : ByteArray := ⟨#[97]⟩
abbrev bB : ByteArray := ⟨#[98]⟩
abbrev bS : ByteArray := ⟨#[83]⟩
abbrev bBB : ByteArray := ⟨#[66]⟩
abbrev exG : List Rl := [(bS, [[bA]]), (bBB, [[bB]])]
abbrev exH : List Rl := [(bS, [[bA, bS], []])]
set_option maxRecDepth 100000 in
theorem ex_flaws {rs : List RlD} (h : grP rs = exG) : FLW rs [bA] = [(2, bB), (3, bBB), (4, bBB)] := by
  have h1 : FLW rs [bA] = FLW (can exG) [bA] := FLW_congr (h.trans (grP_can _).symm) _
  have h2 : LedR (can exG) (ledO (grP (can exG)) bS 4) := ⟨4, rfl, of_decide_eq_true (by kernel_rfl)⟩
  exact h1.trans ((flawsP_is h2).symm.trans (by kernel_rfl))
set_option maxRecDepth 100000 in
theorem ex_flaws2 {rs : List RlD} (h : grP rs = exH) : FLW rs [bB, bA] = [] := by
  have h1 : FLW rs [bB, bA] = FLW (can exH) [bB, bA] := FLW_congr (h.trans (grP_can _).symm) _
  have h2 : LedR (can exH) (ledO (grP (can exH)) bS 4) := ⟨4, rfl, of_decide_eq_true (by kernel_rfl)⟩
  exact h1.trans ((flawsP_is h2).symm.trans (by kernel_rfl))
set_option maxRecDepth 100000 in
theorem ex_num {rs : List RlD} (h : grP rs = exH) : numE rs [bB, bA] = 0 := by
  have h1 : chkP exH = 0 := by kernel_rfl
  have h2 : ckT [bB, bA] = 0 := by kernel_rfl
  unfold numE
  rw [chkG_is, h, h1, h2, ex_flaws2 h]
  rfl
abbrev exC : CfP := ⟨[bB, bA], [bS], [[[1, -1], []]]⟩
set_option maxRecDepth 100000 in
theorem ex_numC {rs : List RlD} (h : grP rs = exH) : numC rs [bB, bA] = exC := by
  rw [numC_congr (h.trans (grP_can _).symm)]
  kernel_rfl
set_option maxRecDepth 100000 in
theorem ex_valid : validE exC = 0 := by
  have h1 : backE exC = 0 := by kernel_rfl
  have h2 : backG exC = exH := by kernel_rfl
  unfold validE
  rw [if_pos h1, h2, ex_num (grP_can _)]
  rfl
theorem lit_vs (w : World) (vs : List Value) (e : TypeId) (h : vs.length ≤ 1000) : Vs (w.alloc (.cells vs.toArray e)) (some ⟨w.heap.size, 0, none⟩) vs.length vs :=
  own_vals (World.ownsRow_lit (base := 0) (e := e) (size := 1) w vs.toArray vs.length (Nat.zero_le _) (by unfold maxLen; omega) (by simp)) rfl
theorem lit_rls (w : World) (rs : List RlD) (h : rs.length ≤ 1000) (hr : ∀ r ∈ rs, Alts w r.a r.c r.ds) : Rls (w.alloc (.cells (rs.flatMap RlD.cells).toArray 34)) (some ⟨w.heap.size, 0, none⟩) rs.length rs := by
  have hO : OwnR (w.alloc (.cells (rs.flatMap RlD.cells).toArray 34)) 0 (some ⟨w.heap.size, 0, none⟩) rs.length rs := World.ownsRow_lit (base := 0) (e := 34) (size := 2) w (rs.flatMap RlD.cells).toArray rs.length (Nat.zero_le _) (by unfold maxLen; omega) (by rw [List.size_toArray, rlC_len])
  have hb : Below w.heap.size w (w.alloc (.cells (rs.flatMap RlD.cells).toArray 34)) := (Below.refl _ w).alloc (Nat.le_refl _) _
  refine ⟨Nat.le_refl _, by omega, fun e => (by cases e), fun i hi => ⟨_, 0, rfl⟩, fun b off e i hi => ?_, fun r h => (hr r h).grown hb⟩
  obtain ⟨g, h1, _, _, h2, h3⟩ := hO.at8 i hi
  rw [h1] at e
  cases e
  rw [Nat.zero_add]
  exact ⟨h2, h3⟩
theorem lit_fls (w : World) (l : List Fl) (h : l.length ≤ 1000) : Fls (w.alloc (.cells (l.flatMap flC).toArray 31)) (some ⟨w.heap.size, 0, none⟩) l.length l := by
  have hl : (l.flatMap flC).length = l.length * 2 := by
    induction l with
    | nil => rfl
    | cons f r ih => rw [List.flatMap_cons, List.length_append, ih (by simp at h; omega), List.length_cons, Nat.add_mul]; simp [flC]; omega
  exact own_fls (World.ownsRow_lit (base := 0) (e := 31) (size := 2) w (l.flatMap flC).toArray l.length (Nat.zero_le _) (by unfold maxLen; omega) (by rw [List.size_toArray, hl]))

theorem fit_of {rs : List RlD} {ts : List ByteArray} (h : (grP rs).all (fun r => decide (r.1.size ≤ 100) && r.2.all (fun a => a.all (fun n => decide (n.size ≤ 100)))) = true) (ht : ts.all (fun t => decide (t.size ≤ 100)) = true) : FitG rs ts := by
  have hm : (100 : Nat) ≤ maxLen := by unfold maxLen; omega
  have key : ∀ r ∈ rs, r.n.size ≤ 100 ∧ ∀ d ∈ r.ds, ∀ n ∈ d.l, n.size ≤ 100 := fun r hr => by
    have h1 := List.all_eq_true.1 h r.p (List.mem_map_of_mem hr)
    simp only [Bool.and_eq_true, decide_eq_true_eq] at h1
    refine ⟨h1.1, fun d hd n hn => ?_⟩
    have h2 := List.all_eq_true.1 h1.2 d.l (List.mem_map_of_mem hd)
    exact of_decide_eq_true (List.all_eq_true.1 h2 n hn)
  exact ⟨fun r hr => Nat.le_trans (key r hr).1 hm, fun t h1 => Nat.le_trans (of_decide_eq_true (List.all_eq_true.1 ht t h1)) hm, fun r hr d hd n hn => Nat.le_trans ((key r hr).2 d hd n hn) hm⟩
def szG (G : List Rl) : Nat := (G.map (fun r => r.2.length + (r.2.map List.length).sum)).sum
theorem szR_is (rs : List RlD) : szR rs = szG (grP rs) := by
  unfold szR szG grP
  rw [List.map_map]
  congr 1
  refine List.map_congr_left (fun r _ => ?_)
  simp [Function.comp, RlD.p, szA, List.map_map]
  rfl
set_option maxRecDepth 100000 in
theorem rule_any8 (nm : ByteArray) (a : Option Addr) (n c : Nat) (w : World) :
    Calls Try.prog 16 #[.string nm, .slice a n c] w fun e w' => e = .returned (.agg #[.string nm, .slice a n c]) ∧ Below w.heap.size w w' := by
  have hb : Below w.heap.size w (w.alloc (.cells #[.string nm, .slice a n c] 34)) := (Below.refl _ w).alloc (Nat.le_refl _) _
  have hA := Blk.new w 34 #[.string nm, .slice a n c]
  have y0 := hA.cell 0
  have y1 := hA.cell 1
  have yl := hA.lt
  simp only [List.getElem?_cons_zero, List.getElem?_cons_succ] at y0 y1
  go_enter Try.func16, Try.ntmps16
  go_wp2_with (fail)
  exact bodyPost_ret (v := .agg #[.string nm, .slice a n c]) (by simp [results, Try.results16, go_sem, y0, y1]; try first | rfl | assumption | omega) rfl ⟨rfl, hb⟩

theorem up1 (w : World) (o : Obj) : Below w.heap.size w (w.alloc o) := (Below.refl _ w).alloc (Nat.le_refl _) o

set_option maxRecDepth 100000 in
set_option maxHeartbeats 16000000 in
theorem live8_any (w : World) : Calls Try.prog 13 #[] w fun e w' => e = .returned (.bool true) ∧ Below w.heap.size w w' := by
  -- the first rule's alternative
  have Hb1 := Lib.hid ((up1 w (.cells #[.string bA] 9)).trans ((up1 (w.alloc (.cells #[.string bA] 9)) (.cells #[.slice (some ⟨w.heap.size, 0, none⟩) 1 1] 25)).mono (by simp)))
  have HA1 : Hid (Alts ((w.alloc (.cells #[.string bA] 9)).alloc (.cells #[.slice (some ⟨w.heap.size, 0, none⟩) 1 1] 25)) (some ⟨w.heap.size + 1, 0, none⟩) 1 [⟨[bA], some ⟨w.heap.size, 0, none⟩, 1⟩]) := Lib.hid ⟨by
      have := lit_vs (w.alloc (.cells #[.string bA] 9)) [.slice (some ⟨w.heap.size, 0, none⟩) 1 1] 25 (by simp)
      rw [show (w.alloc (.cells #[.string bA] 9)).heap.size = w.heap.size + 1 by simp] at this
      exact this, fun d hd => by
      rw [List.mem_singleton] at hd
      subst hd
      exact Vs.grown (lit_vs w [.string bA] 9 (by simp)) (up1 _ _)⟩
  go_enter Try.func13, Try.ntmps13
  go_wp2_with (fail)
  have Hc1 := Lib.hid (rule_any8 bS (some ⟨w.heap.size + 1, 0, none⟩) 1 1 ((w.alloc (.cells #[.string bA] 9)).alloc (.cells #[.slice (some ⟨w.heap.size, 0, none⟩) 1 1] 25)))
  obtain ⟨h0, hh0⟩ : ∃ q, Hid (w.heap.size = q) := ⟨_, Lib.hid rfl⟩
  have hW : h0 ≤ w.heap.size := by rw [hh0.out]; exact Nat.le_refl _
  rw [hh0.out] at HA1 Hc1 Hb1 ⊢
  generalize hV : World.alloc (World.alloc w _) _ = V1 at Hb1 HA1 Hc1 ⊢
  clear hV
  refine Hc1.out.mono ?_
  clear Hc1
  rintro e w1 ⟨rfl, hb1⟩
  have HA2 := Lib.hid (HA1.out.grown hb1)
  have Hb2 := Lib.hid (Hb1.out.trans (hb1.mono (Nat.le_trans hW Hb1.out.size)))
  clear hb1 HA1 Hb1
  -- the second rule's alternative
  have Hb3 := Lib.hid ((up1 w1 (.cells #[.string bB] 9)).trans ((up1 (w1.alloc (.cells #[.string bB] 9)) (.cells #[.slice (some ⟨w1.heap.size, 0, none⟩) 1 1] 25)).mono (by simp)))
  have HA3 := Lib.hid (HA2.out.grown Hb3.out)
  have HB3 : Hid (Alts ((w1.alloc (.cells #[.string bB] 9)).alloc (.cells #[.slice (some ⟨w1.heap.size, 0, none⟩) 1 1] 25)) (some ⟨w1.heap.size + 1, 0, none⟩) 1 [⟨[bB], some ⟨w1.heap.size, 0, none⟩, 1⟩]) := Lib.hid ⟨by
      have := lit_vs (w1.alloc (.cells #[.string bB] 9)) [.slice (some ⟨w1.heap.size, 0, none⟩) 1 1] 25 (by simp)
      rw [show (w1.alloc (.cells #[.string bB] 9)).heap.size = w1.heap.size + 1 by simp] at this
      exact this, fun d hd => by
      rw [List.mem_singleton] at hd
      subst hd
      exact Vs.grown (lit_vs w1 [.string bB] 9 (by simp)) (up1 _ _)⟩
  have Hb4 := Lib.hid (Hb2.out.trans (Hb3.out.mono (Nat.le_trans hW Hb2.out.size)))
  have Hc2 := Lib.hid (rule_any8 bBB (some ⟨w1.heap.size + 1, 0, none⟩) 1 1 ((w1.alloc (.cells #[.string bB] 9)).alloc (.cells #[.slice (some ⟨w1.heap.size, 0, none⟩) 1 1] 25)))
  obtain ⟨h1, hh1⟩ : ∃ q, Hid (w1.heap.size = q) := ⟨_, Lib.hid rfl⟩
  go_wp2_with (fail)
  rw [hh1.out] at HA3 HB3 Hc2 Hb4 ⊢
  generalize hV : World.alloc (World.alloc w1 _) _ = V3 at HA3 HB3 Hb4 Hc2 ⊢
  clear hV Hb2 Hb3 HA2
  refine Hc2.out.mono ?_
  clear Hc2
  rintro e w2 ⟨rfl, hb2⟩
  have HA5 := Lib.hid (HA3.out.grown hb2)
  have HB5 := Lib.hid (HB3.out.grown hb2)
  have Hb5 := Lib.hid (Hb4.out.trans (hb2.mono (Nat.le_trans hW Hb4.out.size)))
  clear hb2 HA3 HB3 Hb4
  -- the first grammar; the second one's alternatives
  obtain ⟨RG, hRG⟩ : ∃ q : List RlD, Hid ([⟨bS, [⟨[bA], some ⟨h0, 0, none⟩, 1⟩], some ⟨h0 + 1, 0, none⟩, 1⟩, ⟨bBB, [⟨[bB], some ⟨h1, 0, none⟩, 1⟩], some ⟨h1 + 1, 0, none⟩, 1⟩] = q) := ⟨_, Lib.hid rfl⟩
  have hRGp : Hid (grP RG = exG) := Lib.hid (by rw [← hRG.out]; rfl)
  have hRGl : Hid (RG.length = 2) := Lib.hid (by rw [← hRG.out]; rfl)
  have HG0 : Hid (Rls (w2.alloc (.cells #[.string bS, .slice (some ⟨h0 + 1, 0, none⟩) 1 1, .string bBB, .slice (some ⟨h1 + 1, 0, none⟩) 1 1] 34)) (some ⟨w2.heap.size, 0, none⟩) 2 RG) := Lib.hid (by
    have h := lit_rls w2 RG (by rw [hRGl.out]; omega) (fun r hr => by
      rw [← hRG.out] at hr
      simp only [List.mem_cons, List.not_mem_nil, or_false] at hr
      rcases hr with rfl | rfl
      · exact HA5.out
      · exact HB5.out)
    rw [hRGl.out] at h
    rw [← hRG.out] at h ⊢
    exact h)
  have Hu1 := up1 w2 (.cells #[.string bS, .slice (some ⟨h0 + 1, 0, none⟩) 1 1, .string bBB, .slice (some ⟨h1 + 1, 0, none⟩) 1 1] 34)
  obtain ⟨k2, hk2⟩ : ∃ q, Hid (w2.heap.size = q) := ⟨_, Lib.hid rfl⟩
  have hs1 : (w2.alloc (.cells #[.string bS, .slice (some ⟨h0 + 1, 0, none⟩) 1 1, .string bBB, .slice (some ⟨h1 + 1, 0, none⟩) 1 1] 34)).heap.size = k2 + 1 := by simp [hk2.out]
  go_wp2_with (fail)
  rw [hk2.out] at HG0 ⊢
  generalize hV : World.alloc w2 _ = va at HG0 Hu1 hs1 ⊢
  clear hV
  have Hu2 := up1 va (.cells #[.slice (some ⟨k2, 0, none⟩) 2 2] 24)
  have hG2 := Blk.new va 24 #[.slice (some ⟨k2, 0, none⟩) 2 2]
  have hs2 : (va.alloc (.cells #[.slice (some ⟨k2, 0, none⟩) 2 2] 24)).heap.size = k2 + 1 + 1 := by simp [hs1]
  rw [hs1] at hG2
  generalize hV : World.alloc va _ = vb at Hu2 hG2 hs2 ⊢
  clear hV
  have Hu3 := up1 vb (.cells #[.string bA, .string bS] 9)
  have hN3 := lit_vs vb [.string bA, .string bS] 9 (by simp)
  have hs3 : (vb.alloc (.cells #[.string bA, .string bS] 9)).heap.size = k2 + 1 + 1 + 1 := by simp [hs2]
  rw [hs2] at hN3
  generalize hV : World.alloc vb _ = vc at Hu3 hN3 hs3 ⊢
  clear hV
  have Hu4 := up1 vc (.cells #[.slice (some ⟨k2 + 1 + 1, 0, none⟩) 2 2, .slice none 0 0] 25)
  have hN4 := lit_vs vc [.slice (some ⟨k2 + 1 + 1, 0, none⟩) 2 2, .slice none 0 0] 25 (by simp)
  rw [hs3] at hN4
  generalize hV : World.alloc vc _ = vd at Hu4 hN4 ⊢
  clear hV
  have Hu24 := Hu2.trans ((Hu3.trans (Hu4.mono Hu3.size)).mono Hu2.size)
  have hH4 : Alts vd (some ⟨k2 + 1 + 1 + 1, 0, none⟩) 2 [⟨[bA, bS], some ⟨k2 + 1 + 1, 0, none⟩, 2⟩, ⟨[], none, 0⟩] := ⟨hN4, fun d hd => by
    simp only [List.mem_cons, List.not_mem_nil, or_false] at hd
    rcases hd with rfl | rfl
    · exact Vs.grown hN3 Hu4
    · exact Vs.nil vd⟩
  have HG4 := Lib.hid (HG0.out.grown Hu24)
  have HGb4 := Lib.hid (hG2.below (Hu3.trans (Hu4.mono Hu3.size)) hG2.lt)
  have Hb6 := Lib.hid (Hb5.out.trans ((Hu1.trans (Hu24.mono Hu1.size)).mono (Nat.le_trans hW Hb5.out.size)))
  have HH4 := Lib.hid hH4
  clear HG0 Hu1 Hu2 Hu3 Hu4 Hu24 hG2 hN3 hN4 hH4 hs1 hs2 hs3 HA5 HB5 Hb5
  refine (rule_any8 bS (some ⟨k2 + 1 + 1 + 1, 0, none⟩) 2 2 vd).mono ?_
  rintro e w4 ⟨rfl, hb4⟩
  have HG5 := Lib.hid (HG4.out.grown hb4)
  have HGb5 := Lib.hid (HGb4.out.below hb4 HGb4.out.lt)
  have HH5 := Lib.hid (HH4.out.grown hb4)
  have Hb7 := Lib.hid (Hb6.out.trans (hb4.mono (Nat.le_trans hW Hb6.out.size)))
  clear hb4 HG4 HGb4 HH4 Hb6
  -- the second grammar
  obtain ⟨RH, hRH⟩ : ∃ q : List RlD, Hid ([⟨bS, [⟨[bA, bS], some ⟨k2 + 1 + 1, 0, none⟩, 2⟩, ⟨[], none, 0⟩], some ⟨k2 + 1 + 1 + 1, 0, none⟩, 2⟩] = q) := ⟨_, Lib.hid rfl⟩
  have hRHp : Hid (grP RH = exH) := Lib.hid (by rw [← hRH.out]; rfl)
  have hRHl : Hid (RH.length = 1) := Lib.hid (by rw [← hRH.out]; rfl)
  have HI0 : Hid (Rls (w4.alloc (.cells #[.string bS, .slice (some ⟨k2 + 1 + 1 + 1, 0, none⟩) 2 2] 34)) (some ⟨w4.heap.size, 0, none⟩) 1 RH) := Lib.hid (by
    have h := lit_rls w4 RH (by rw [hRHl.out]; omega) (fun r hr => by
      rw [← hRH.out] at hr
      rw [List.mem_singleton] at hr
      subst hr
      exact HH5.out)
    rw [hRHl.out] at h
    rw [← hRH.out] at h ⊢
    exact h)
  have Hu1 := up1 w4 (.cells #[.string bS, .slice (some ⟨k2 + 1 + 1 + 1, 0, none⟩) 2 2] 34)
  obtain ⟨k4, hk4⟩ : ∃ q, Hid (w4.heap.size = q) := ⟨_, Lib.hid rfl⟩
  have hs1 : (w4.alloc (.cells #[.string bS, .slice (some ⟨k2 + 1 + 1 + 1, 0, none⟩) 2 2] 34)).heap.size = k4 + 1 := by simp [hk4.out]
  go_wp2_with (fail)
  rw [hk4.out] at HI0 ⊢
  generalize hV : World.alloc w4 _ = va2 at HI0 Hu1 hs1 ⊢
  clear hV
  have Hu2 := up1 va2 (.cells #[.slice (some ⟨k4, 0, none⟩) 1 1] 24)
  have hs2 : (va2.alloc (.cells #[.slice (some ⟨k4, 0, none⟩) 1 1] 24)).heap.size = k4 + 1 + 1 := by simp [hs1]
  generalize hV : World.alloc va2 _ = vb2 at Hu2 hs2 ⊢
  clear hV
  have Hu3 := up1 vb2 (.cells #[.string bB, .string bA] 9)
  have hN3 := lit_vs vb2 [.string bB, .string bA] 9 (by simp)
  rw [hs2] at hN3
  generalize hV : World.alloc vb2 _ = vc2 at Hu3 hN3 ⊢
  clear hV
  have Hu13 := Hu1.trans ((Hu2.trans (Hu3.mono Hu2.size)).mono Hu1.size)
  have HI3 := Lib.hid (HI0.out.grown (Hu2.trans (Hu3.mono Hu2.size)))
  have HG6 := Lib.hid (HG5.out.grown Hu13)
  have HGb6 := Lib.hid (HGb5.out.below Hu13 HGb5.out.lt)
  have Hb8 := Lib.hid (Hb7.out.trans (Hu13.mono (Nat.le_trans hW Hb7.out.size)))
  have HT3 : Hid (Nms vc2 (some ⟨k4 + 1 + 1, 0, none⟩) 2 [bB, bA]) := Lib.hid hN3
  clear HI0 Hu1 Hu2 Hu3 Hu13 hN3 hs1 hs2 HG5 HGb5 HH5 Hb7
  have Hnum := Lib.hid (number_any RH (some ⟨k4, 0, none⟩) 1 [bB, bA] (some ⟨k4 + 1 + 1, 0, none⟩) 2 vc2 HI3.out HT3.out (fit_of (by rw [hRHp.out]; decide) (by decide)) (by rw [hRHl.out, szR_is, hRHp.out]; decide))
  rw [hRHl.out, ex_num hRHp.out, ex_numC hRHp.out] at Hnum
  refine Hnum.out.mono ?_
  clear Hnum
  rintro e w5 ⟨d, rfl, hd, hdp, hb5⟩
  rw [if_pos rfl] at hdp
  have Hdp := Lib.hid hdp
  have HG7 := Lib.hid (HG6.out.grown hb5)
  have HGb7 := Lib.hid (HGb6.out.below hb5 HGb6.out.lt)
  have Hb9 := Lib.hid (Hb8.out.trans (hb5.mono (Nat.le_trans hW Hb8.out.size)))
  have HD5 := Lib.hid hd
  have Hfew : Hid (FewC d) := Lib.hid (by
    have h1 : d.toks = [bB, bA] := congrArg CfP.toks hdp
    have h2 : d.names = [bS] := congrArg CfP.names hdp
    have h3 : d.alts.map IrD.p = [[[1, -1], []]] := congrArg CfP.alts hdp
    exact ⟨by rw [h1, h2, h3]; decide, by rw [h1]; decide, by rw [h2]; decide⟩)
  clear hb5 hd hdp HG6 HGb6 Hb8 HI3 HT3
  -- what is held against what
  have Hu1 := up1 w5 (.cells #[.slice d.ta d.toks.length d.tc, .slice d.na d.names.length d.nc, .slice d.aa d.alts.length d.ac] 41)
  have hC1 := Blk.new w5 41 #[.slice d.ta d.toks.length d.tc, .slice d.na d.names.length d.nc, .slice d.aa d.alts.length d.ac]
  obtain ⟨k5, hk5⟩ : ∃ q, Hid (w5.heap.size = q) := ⟨_, Lib.hid rfl⟩
  have hs1 : (w5.alloc (.cells #[.slice d.ta d.toks.length d.tc, .slice d.na d.names.length d.nc, .slice d.aa d.alts.length d.ac] 41)).heap.size = k5 + 1 := by simp [hk5.out]
  have g0 := HGb7.out.cell 0
  have gl := HGb7.out.lt
  simp only [List.getElem?_cons_zero] at g0
  go_wp2_with (fail)
  rw [hk5.out] at hC1 ⊢
  generalize hV : World.alloc w5 _ = va3 at Hu1 hC1 hs1 ⊢
  clear hV g0 gl
  have Hu2 := up1 va3 (.cells #[.string bA] 9)
  have hN2 := lit_vs va3 [.string bA] 9 (by simp)
  rw [hs1] at hN2
  generalize hV : World.alloc va3 _ = vb3 at Hu2 hN2 ⊢
  clear hV
  have HG8 := Lib.hid (HG7.out.grown (Hu1.trans (Hu2.mono Hu1.size)))
  have HC8 := Lib.hid (hC1.below Hu2 hC1.lt)
  have HD8 := Lib.hid (HD5.out.grown (Hu1.trans (Hu2.mono Hu1.size)))
  have Hb10 := Lib.hid (Hb9.out.trans ((Hu1.trans (Hu2.mono Hu1.size)).mono (Nat.le_trans hW Hb9.out.size)))
  have Hfl := Lib.hid (flaws_any RG (some ⟨k2, 0, none⟩) 2 [bA] (some ⟨k5 + 1, 0, none⟩) 1 vb3 HG8.out hN2 (fit_of (by rw [hRGp.out]; decide) (by decide)) (by rw [hRGl.out, szR_is, hRGp.out]; decide))
  rw [hRGl.out, ex_flaws hRGp.out] at Hfl
  clear Hu1 Hu2 hC1 hN2 hs1 HG7 HGb7 HD5 Hb9
  refine Hfl.out.mono ?_
  clear Hfl
  rintro e w6 ⟨fa, fc, rfl, hfo, hb6⟩
  have HC9 := Lib.hid (HC8.out.below hb6 HC8.out.lt)
  have HD9 := Lib.hid (HD8.out.grown hb6)
  have Hb11 := Lib.hid (Hb10.out.trans (hb6.mono (Nat.le_trans hW Hb10.out.size)))
  have hfl := own_fls hfo
  clear hb6 HC8 HD8 Hb10 HG8 hfo
  have Hu1 := up1 w6 (.cells #[.int .i64 2, .string bB, .int .i64 3, .string bBB, .int .i64 4, .string bBB] 31)
  have hL1 : Fls (w6.alloc (.cells #[.int .i64 2, .string bB, .int .i64 3, .string bBB, .int .i64 4, .string bBB] 31)) (some ⟨w6.heap.size, 0, none⟩) 3 [(2, bB), (3, bBB), (4, bBB)] := lit_fls w6 [(2, bB), (3, bBB), (4, bBB)] (by simp)
  have Hsf := Lib.hid (sameFlaws_any fa (some ⟨w6.heap.size, 0, none⟩) fc 3 _ _ _ (hfl.grown Hu1) hL1)
  rw [decide_eq_true rfl] at Hsf
  obtain ⟨k6, hk6⟩ : ∃ q, Hid (w6.heap.size = q) := ⟨_, Lib.hid rfl⟩
  have HCa := Lib.hid (HC9.out.below Hu1 HC9.out.lt)
  have HDa := Lib.hid (HD9.out.grown Hu1)
  have Hb12 := Lib.hid (Hb11.out.trans (Hu1.mono (Nat.le_trans hW Hb11.out.size)))
  clear hfl hL1 HC9 HD9 Hb11
  go_wp2_with (fail)
  rw [hk6.out] at Hsf ⊢
  generalize hV : World.alloc w6 _ = va4 at Hsf HCa HDa Hb12 Hu1 ⊢
  clear hV Hu1
  refine Hsf.out.mono ?_
  clear Hsf
  rintro e w7 ⟨rfl, hb7⟩
  have HCb := Lib.hid (HCa.out.below hb7 HCa.out.lt)
  have HDb := Lib.hid (HDa.out.grown hb7)
  have Hb13 := Lib.hid (Hb12.out.trans (hb7.mono (Nat.le_trans hW Hb12.out.size)))
  clear hb7 HCa HDa Hb12
  have c0 := HCb.out.cell 0
  have c1 := HCb.out.cell 1
  have c2 := HCb.out.cell 2
  have cl := HCb.out.lt
  simp only [List.getElem?_cons_zero, List.getElem?_cons_succ] at c0 c1 c2
  obtain ⟨k7, hk7⟩ : ∃ q, Hid (w7.heap.size = q) := ⟨_, Lib.hid rfl⟩
  have hz7 : w7.heap.size = k7 := hk7.out
  have Hz7 := Lib.hid hz7
  clear hz7
  go_wp2_with (fail)
  rw [Hz7.out]
  have Hu1 := up1 w7 (.cells #[.string bB, .string bA] 9)
  have hL1 := lit_vs w7 [.string bB, .string bA] 9 (by simp)
  have hs1 : (w7.alloc (.cells #[.string bB, .string bA] 9)).heap.size = k7 + 1 := by simp [Hz7.out]
  rw [Hz7.out] at hL1
  generalize hV : World.alloc w7 _ = u1 at Hu1 hL1 hs1 ⊢
  clear hV
  have Hu2 := up1 u1 (.cells #[.string bS] 9)
  have hL2 := lit_vs u1 [.string bS] 9 (by simp)
  have hs2 : (u1.alloc (.cells #[.string bS] 9)).heap.size = k7 + 1 + 1 := by simp [hs1]
  rw [hs1] at hL2
  generalize hV : World.alloc u1 _ = u2 at Hu2 hL2 hs2 ⊢
  clear hV
  have Hu3 := up1 u2 (.cells #[.int .i64 1, .int .i64 (-1)] 3)
  have hL3 := lit_vs u2 [.int .i64 1, .int .i64 (-1)] 3 (by simp)
  have hs3 : (u2.alloc (.cells #[.int .i64 1, .int .i64 (-1)] 3)).heap.size = k7 + 1 + 1 + 1 := by simp [hs2]
  rw [hs2] at hL3
  generalize hV : World.alloc u2 _ = u3 at Hu3 hL3 hs3 ⊢
  clear hV
  have Hu4 := up1 u3 (.cells #[.slice (some ⟨k7 + 1 + 1, 0, none⟩) 2 2, .slice none 0 0] 50)
  have hL4 := lit_vs u3 [.slice (some ⟨k7 + 1 + 1, 0, none⟩) 2 2, .slice none 0 0] 50 (by simp)
  have hs4 : (u3.alloc (.cells #[.slice (some ⟨k7 + 1 + 1, 0, none⟩) 2 2, .slice none 0 0] 50)).heap.size = k7 + 1 + 1 + 1 + 1 := by simp [hs3]
  rw [hs3] at hL4
  generalize hV : World.alloc u3 _ = u4 at Hu4 hL4 hs4 ⊢
  clear hV
  have Hu5 := up1 u4 (.cells #[.slice (some ⟨k7 + 1 + 1 + 1, 0, none⟩) 2 2] 47)
  have hL5 := lit_vs u4 [.slice (some ⟨k7 + 1 + 1 + 1, 0, none⟩) 2 2] 47 (by simp)
  rw [hs4] at hL5
  generalize hV : World.alloc u4 _ = u5 at Hu5 hL5 ⊢
  clear hV
  have Hu45 := Hu4.trans (Hu5.mono Hu4.size)
  have Hu35 := Hu3.trans (Hu45.mono Hu3.size)
  have Hu25 := Hu2.trans (Hu35.mono Hu2.size)
  have Hu15 := Hu1.trans (Hu25.mono Hu1.size)
  obtain ⟨X, hX⟩ : ∃ q : CfD, Hid ((⟨[bB, bA], some ⟨k7, 0, none⟩, 2, [bS], some ⟨k7 + 1, 0, none⟩, 1, [⟨[⟨[1, -1], some ⟨k7 + 1 + 1, 0, none⟩, 2⟩, ⟨[], none, 0⟩], some ⟨k7 + 1 + 1 + 1, 0, none⟩, 2⟩], some ⟨k7 + 1 + 1 + 1 + 1, 0, none⟩, 1⟩ : CfD) = q) := ⟨_, Lib.hid rfl⟩
  have hXat : CfAt u5 X := by
    rw [← hX.out]
    refine ⟨Vs.grown hL1 Hu25, Vs.grown hL2 Hu35, hL5, fun r hr => ?_⟩
    rw [List.mem_singleton] at hr
    subst hr
    refine ⟨Vs.grown hL4 Hu5, fun a ha => ?_⟩
    simp only [List.mem_cons, List.not_mem_nil, or_false] at ha
    rcases ha with rfl | rfl
    · exact Vs.grown hL3 Hu45
    · exact Vs.nil u5
  have hXp : X.p = exC := by rw [← hX.out]; rfl
  have hXv : X.v = .agg #[.slice (some ⟨k7, 0, none⟩) 2 2, .slice (some ⟨k7 + 1, 0, none⟩) 1 1, .slice (some ⟨k7 + 1 + 1 + 1 + 1, 0, none⟩) 1 1] := by rw [← hX.out]; rfl
  have HCc := Lib.hid (HCb.out.below Hu15 HCb.out.lt)
  have HDc := Lib.hid (HDb.out.grown Hu15)
  have Hb14 := Lib.hid (Hb13.out.trans (Hu15.mono (Nat.le_trans hW Hb13.out.size)))
  have Hsm := Lib.hid (same8_any d X u5 HDc.out hXat)
  rw [hXv, decide_eq_true (Hdp.out.trans hXp.symm)] at Hsm
  clear hXat hXp hXv Hu1 Hu2 Hu3 Hu4 Hu5 Hu45 Hu35 Hu25 Hu15 hL1 hL2 hL3 hL4 hL5 hs1 hs2 hs3 hs4 HCb HDb Hb13 c0 c1 c2 cl
  refine Hsm.out.mono ?_
  clear Hsm
  rintro e w8 ⟨rfl, hb8⟩
  have HCd := Lib.hid (HCc.out.below hb8 HCc.out.lt)
  have HDd := Lib.hid (HDc.out.grown hb8)
  have Hb15 := Lib.hid (Hb14.out.trans (hb8.mono (Nat.le_trans hW Hb14.out.size)))
  have Hva := Lib.hid (valid_any d w8 HDd.out Hfew.out)
  rw [Hdp.out, ex_valid] at Hva
  have c0 := HCd.out.cell 0
  have c1 := HCd.out.cell 1
  have c2 := HCd.out.cell 2
  have cl := HCd.out.lt
  simp only [List.getElem?_cons_zero, List.getElem?_cons_succ] at c0 c1 c2
  clear hb8 HCc HDc Hb14
  go_wp2_with (fail)
  refine Hva.out.mono ?_
  rintro e w9 ⟨rfl, hb9⟩
  have Hb16 := Lib.hid (Hb15.out.trans (hb9.mono (Nat.le_trans hW Hb15.out.size)))
  clear hb9
  go_wp2_with (fail)
  exact bodyPost_ret (v := .bool true) (by simp [results, Try.results13, go_sem]; try first | rfl | assumption | omega) rfl ⟨rfl, by rw [hh0.out]; exact Hb16.out⟩
end Go.Proofs.Ytiopbjgpaidemaa

namespace Go.Proofs.Ytiopbjgpaidemaa
open Go.ChangeShapes Go.WideShapes Go.ChangeAt Go.RowKit

theorem bulk_pos {H : Type} (d : DataW H) : 1 ≤ Rows.uptoBulk d := by
  cases d with
  | lit l => cases l <;> simp [Rows.uptoBulk]
  | nil => simp [Rows.uptoBulk]
  | ptr d => simp [Rows.uptoBulk]
  | slice elems spare => simp [Rows.uptoBulk]
  | agg parts => simp [Rows.uptoBulk]
  | iface t d => simp [Rows.uptoBulk]
  | map es => simp [Rows.uptoBulk]
  | held h => simp [Rows.uptoBulk]
theorem bulkAll_sum {H : Type} : ∀ (l : List (DataW H)), Rows.uptoBulkAll l = (l.map Rows.uptoBulk).sum
  | [] => by simp [Rows.uptoBulkAll]
  | d :: l => by simp [Rows.uptoBulkAll, bulkAll_sum l]
theorem sum_le8 {α β : Type} (f : α → Nat) (g : β → Nat) : ∀ (l : List α) (m : List β), l.length = m.length → (∀ i (h1 : i < l.length) (h2 : i < m.length), f l[i] ≤ g m[i]) → (l.map f).sum ≤ (m.map g).sum
  | [], [], _, _ => Nat.le_refl _
  | [], _ :: _, h, _ => by simp at h
  | _ :: _, [], h, _ => by simp at h
  | a :: l, b :: m, h, k => by
    have h0 := k 0 (by simp) (by simp)
    have h1 := sum_le8 f g l m (by simpa using h) (fun i h1 h2 => by
      have := k (i + 1) (by simpa using h1) (by simpa using h2)
      simpa using this)
    simp only [List.getElem_cons_zero] at h0
    simp only [List.map_cons, List.sum_cons]
    omega
theorem sum_ones {α : Type} : ∀ (l : List α), (l.map (fun _ => 1)).sum = l.length
  | [] => rfl
  | a :: l => by rw [List.map_cons, List.sum_cons, sum_ones l, List.length_cons]; omega
/-- A row whose parts have a property that hangs on the readings. -/
theorem row_of2 {α β : Type} {P : Nat → α → Prop} {f : α → Nat} {g : β → Nat} (m : List β) (n : Nat) (hm : m.length = n) (h : ∀ i (hi : i < m.length), ∃ s, P i s ∧ f s ≤ g m[i]) : ∃ l : List α, l.length = n ∧ (∀ i (h : i < l.length), P i l[i]) ∧ (l.map f).sum ≤ (m.map g).sum := by
  obtain ⟨l, h1, h2⟩ := row_of (P := fun i s => P i s ∧ ∀ hi : i < m.length, f s ≤ g m[i]) n (fun i hi => by
    obtain ⟨s, h3, h4⟩ := h i (by omega)
    exact ⟨s, h3, fun _ => h4⟩)
  exact ⟨l, h1, fun i hi => (h2 i hi).1, sum_le8 f g l m (by omega) (fun i h3 h4 => (h2 i h3).2 h4)⟩

set_option maxRecDepth 100000 in
theorem open_strl2 {H : Type} {enc : TypeId × Value → H} {W : World} {base : Nat} {sp : Nat → Bool} {hd : Bool} (fuel : Nat) (cs : List Value) (x : DataW H × List MemPlace) (h : DataW.trod enc Try.prog W base sp hd fuel 25 cs = some x) :
    ∃ d : AltD, cs = [.slice d.a d.l.length d.c] ∧ Nms W d.a d.c d.l ∧ (∀ n ∈ d.l, n.size ≤ maxLen) ∧ d.l.length + 1 ≤ Rows.uptoBulk x.1 := by
  rcases DataW.trod_slice Try.underlying25 h with ⟨e3, _⟩ | ⟨a, len, cap, elems, rest, n', hn, e3, x3, hb, hle, hm, hel, hcell, _, _⟩
  · exact ⟨⟨[], none, 0⟩, by rw [e3]; rfl, Vs.nil W, fun n h => (by cases h), by simpa using bulk_pos x.1⟩
  · have hmax : maxLen ≤ 9223372036854775807 := by decide
    have hbk : len + 1 ≤ Rows.uptoBulk x.1 := by
      rw [x3]
      simp only [Rows.uptoBulk]
      have h1 := bulkAll_sum (elems.map (·.1))
      have h2 := sum_le8 (fun _ => 1) Rows.uptoBulk (elems.map (·.1)) (elems.map (·.1)) rfl (fun i h1 h2 => bulk_pos _)
      rw [sum_ones, List.length_map, hel] at h2
      omega
    have each : ∀ i, i < len → ∃ s : ByteArray, W.cell? ((a.add (i * 1)).add 0) = some (.string s) ∧ s.size ≤ maxLen := by
      intro i hi
      have hc := hcell i hi
      rw [List.getElem?_eq_getElem (by omega), str_cells, Option.bind_eq_some_iff] at hc
      obtain ⟨cs', hcs, ht⟩ := hc
      obtain ⟨s, e0, _, ws⟩ := DataW.trod_string Try.underlying9 ht
      subst e0
      exact ⟨s, (World.cells?_some hcs).2.2 0 (by omega), ws⟩
    by_cases h0 : len = 0
    · subst h0
      exact ⟨⟨[], some a, cap⟩, by rw [e3]; rfl, ⟨by simp, (show cap ≤ 9223372036854775807 by omega), fun e => (by cases e), fun i h => by simp at h, fun b off e i h => by simp at h⟩, fun n h => (by cases h), by simpa using bulk_pos x.1⟩
    · obtain ⟨b, off, spot⟩ := a
      have hspot : spot = none := by
        obtain ⟨s, hc, _⟩ := each 0 (by omega)
        simpa [Addr.add] using World.cell?_spot hc
      subst hspot
      have each2 : ∀ i, i < len → ∃ s : ByteArray, W.cell? ⟨b, off + i, none⟩ = some (.string s) ∧ s.size ≤ maxLen := by
        intro i hi
        obtain ⟨s, hc, hz⟩ := each i hi
        rw [add_plain, add_plain, Nat.mul_one, Nat.add_zero] at hc
        exact ⟨s, hc, hz⟩
      obtain ⟨l, hl1, hl2⟩ := row_of len each2
      refine ⟨⟨l, some ⟨b, off, none⟩, cap⟩, by rw [e3, hl1], ⟨by rw [List.length_map]; exact (show l.length ≤ cap by omega), (show cap ≤ 9223372036854775807 by omega), fun e => (by cases e), fun i _ => ⟨b, off, rfl⟩, fun b' off' e i hi => ?_⟩, fun n hn => ?_, by show l.length + 1 ≤ _; omega⟩
      · cases e
        rw [List.getElem_map]
        exact (hl2 i (by rwa [List.length_map] at hi)).1
      · obtain ⟨i, hi, rfl⟩ := List.getElem_of_mem hn
        exact (hl2 i hi).2

set_option maxRecDepth 100000 in
theorem open_strll2 {H : Type} {enc : TypeId × Value → H} {W : World} {base : Nat} {sp : Nat → Bool} {hd : Bool} (fuel : Nat) (cs : List Value) (x : DataW H × List MemPlace) (h : DataW.trod enc Try.prog W base sp hd fuel 32 cs = some x) :
    ∃ (ds : List AltD) (a : Option Addr) (c : Nat), cs = [.slice a ds.length c] ∧ Alts W a c ds ∧ (∀ d ∈ ds, ∀ n ∈ d.l, n.size ≤ maxLen) ∧ ds.length + szA ds + 1 ≤ Rows.uptoBulk x.1 := by
  rcases DataW.trod_slice Try.underlying32 h with ⟨e3, _⟩ | ⟨a, len, cap, elems, rest, n', hn, e3, x3, hb, hle, hm, hel, hcell, _, _⟩
  · exact ⟨[], none, 0, by rw [e3]; rfl, Alts.nil W, fun d h => (by cases h), by simpa [szA] using bulk_pos x.1⟩
  · have hmax : maxLen ≤ 9223372036854775807 := by decide
    have each : ∀ i (hi : i < len), ∃ d : AltD, W.cell? ((a.add (i * 1)).add 0) = some d.v ∧ Nms W d.a d.c d.l ∧ (∀ n ∈ d.l, n.size ≤ maxLen) ∧ d.l.length + 1 ≤ Rows.uptoBulk (elems[i]'(by omega)).1 := by
      intro i hi
      have hc := hcell i hi
      rw [List.getElem?_eq_getElem (by omega), strs_cells, Option.bind_eq_some_iff] at hc
      obtain ⟨cs', hcs, ht⟩ := hc
      obtain ⟨d, rfl, hN, hz, hk⟩ := open_strl2 n' cs' _ ht
      exact ⟨d, (World.cells?_some hcs).2.2 0 (by omega), hN, hz, hk⟩
    by_cases h0 : len = 0
    · subst h0
      exact ⟨[], some a, cap, by rw [e3]; rfl, ⟨⟨by simp, by omega, fun e => (by cases e), fun i h => by simp at h, fun b off e i h => by simp at h⟩, fun d hd => by cases hd⟩, fun d h => (by cases h), by simpa [szA] using bulk_pos x.1⟩
    · obtain ⟨b, off, spot⟩ := a
      have hspot : spot = none := by
        obtain ⟨s, hc, _⟩ := each 0 (by omega)
        simpa [Addr.add] using World.cell?_spot hc
      subst hspot
      obtain ⟨l, hl1, hl2, hl3⟩ := row_of2 (P := fun i (d : AltD) => W.cell? ⟨b, off + i, none⟩ = some d.v ∧ Nms W d.a d.c d.l ∧ ∀ n ∈ d.l, n.size ≤ maxLen) (f := fun d : AltD => d.l.length + 1) (g := Rows.uptoBulk) (elems.map (·.1)) len (by rw [List.length_map, hel]) (fun i hi => by
        obtain ⟨d, hc, hN, hz, hk⟩ := each i (by rw [List.length_map] at hi; omega)
        rw [add_plain, add_plain, Nat.mul_one, Nat.add_zero] at hc
        exact ⟨d, ⟨hc, hN, hz⟩, by rw [List.getElem_map]; exact hk⟩)
      refine ⟨l, some ⟨b, off, none⟩, cap, by rw [e3, hl1], ⟨⟨by rw [List.length_map]; omega, by omega, fun e => (by cases e), fun i _ => ⟨b, off, rfl⟩, fun b' off' e i hi => ?_⟩, fun d hd => ?_⟩, fun d hd => ?_, ?_⟩
      · cases e
        rw [List.getElem_map]
        exact (hl2 i (by rwa [List.length_map] at hi)).1
      · obtain ⟨i, hi, rfl⟩ := List.getElem_of_mem hd
        exact (hl2 i hi).2.1
      · obtain ⟨i, hi, rfl⟩ := List.getElem_of_mem hd
        exact (hl2 i hi).2.2
      · rw [x3]
        simp only [Rows.uptoBulk]
        rw [bulkAll_sum (elems.map (·.1))]
        have h4 : (l.map (fun d : AltD => d.l.length + 1)).sum = l.length + szA l := by
          clear hl1 hl2 hl3
          induction l with
          | nil => simp [szA]
          | cons d l ih =>
            have e : szA (d :: l) = d.l.length + szA l := by simp [szA]
            rw [List.map_cons, List.sum_cons, ih, e, List.length_cons]
            omega
        omega

set_option maxRecDepth 100000 in
theorem open_rule2 {H : Type} {enc : TypeId × Value → H} {W : World} {base : Nat} {sp : Nat → Bool} {hd : Bool} (fuel : Nat) (cs : List Value) (x : DataW H × List MemPlace) (h : DataW.trod enc Try.prog W base sp hd fuel 34 cs = some x) :
    ∃ r : RlD, cs = r.cells ∧ Alts W r.a r.c r.ds ∧ (r.n.size ≤ maxLen ∧ ∀ d ∈ r.ds, ∀ n ∈ d.l, n.size ≤ maxLen) ∧ r.ds.length + szA r.ds + 1 ≤ Rows.uptoBulk x.1 := by
  obtain ⟨xs, n, rfl, rfl, hl, hlen, hf⟩ := DataW.trod_struct Try.underlying34 h
  rw [rule_cells] at hl
  obtain ⟨v0, v1, rfl⟩ : ∃ v0 v1, cs = [v0, v1] := by
    match cs, hl with
    | [v0, v1], _ => exact ⟨v0, v1, rfl⟩
  obtain ⟨y0, y1, rfl⟩ : ∃ y0 y1, xs = [y0, y1] := by
    match xs, hlen with
    | [y0, y1], _ => exact ⟨y0, y1, rfl⟩
  have h0 := hf 0 _ rfl
  have h1 := hf 1 _ rfl
  simp only [str_cells, strss_cells, List.drop_zero, List.drop_succ_cons, List.take_succ_cons, List.take_zero, List.getElem?_cons_zero, List.getElem?_cons_succ] at h0 h1
  obtain ⟨s, e0, _, ws⟩ := DataW.trod_string Try.underlying9 h0
  injection e0 with e0 _
  subst e0
  obtain ⟨ds, a, c, e1, hA, hz, hk⟩ := open_strll2 _ _ _ h1
  injection e1 with e1 _
  subst e1
  refine ⟨⟨s, ds, a, c⟩, rfl, hA, ⟨ws, hz⟩, ?_⟩
  simp only [List.map_cons, List.map_nil, Rows.uptoBulk, Rows.uptoBulkAll]
  omega

set_option maxRecDepth 100000 in
theorem open_rulel2 {H : Type} {enc : TypeId × Value → H} {W : World} {base : Nat} {sp : Nat → Bool} {hd : Bool} (fuel : Nat) (cs : List Value) (x : DataW H × List MemPlace) (h : DataW.trod enc Try.prog W base sp hd fuel 22 cs = some x) :
    ∃ (a : Option Addr) (cap : Nat) (l : List RlD), cs = [.slice a l.length cap] ∧ Rls W a cap l ∧ FitG l [] ∧ l.length + szR l + 1 ≤ Rows.uptoBulk x.1 := by
  rcases DataW.trod_slice Try.underlying22 h with ⟨e3, _⟩ | ⟨a, len, cap, elems, rest, n', hn, e3, x3, hb, hle, hm, hel, hcell, _, _⟩
  · exact ⟨none, 0, [], by rw [e3]; rfl, Rls.nil W, ⟨fun r h => (by cases h), fun r h => (by cases h), fun r h => (by cases h)⟩, by simpa [szR] using bulk_pos x.1⟩
  · have hmax : maxLen ≤ 9223372036854775807 := by decide
    have each : ∀ i (hi : i < len), ∃ r : RlD, (∀ j, j < 2 → W.cell? ((a.add (i * 2)).add j) = r.cells[j]?) ∧ Alts W r.a r.c r.ds ∧ (r.n.size ≤ maxLen ∧ ∀ d ∈ r.ds, ∀ n ∈ d.l, n.size ≤ maxLen) ∧ r.ds.length + szA r.ds + 1 ≤ Rows.uptoBulk (elems[i]'(by omega)).1 := by
      intro i hi
      have hc := hcell i hi
      rw [List.getElem?_eq_getElem (by omega), rule_cells, Option.bind_eq_some_iff] at hc
      obtain ⟨cs', hcs, ht⟩ := hc
      obtain ⟨r, rfl, hA, hz, hk⟩ := open_rule2 n' cs' _ ht
      exact ⟨r, fun j hj => (World.cells?_some hcs).2.2 j hj, hA, hz, hk⟩
    by_cases h0 : len = 0
    · subst h0
      exact ⟨some a, cap, [], by rw [e3]; rfl, ⟨by simp, by omega, fun e => (by cases e), fun i h => by simp at h, fun b off e i h => by simp at h, fun r hr => by cases hr⟩, ⟨fun r h => (by cases h), fun r h => (by cases h), fun r h => (by cases h)⟩, by simpa [szR] using bulk_pos x.1⟩
    · obtain ⟨b, off, spot⟩ := a
      have hspot : spot = none := by
        obtain ⟨r, hc, _⟩ := each 0 (by omega)
        have := hc 0 (by omega)
        simpa [Addr.add] using World.cell?_spot this
      subst hspot
      obtain ⟨l, hl1, hl2, hl3⟩ := row_of2 (P := fun i (r : RlD) => (W.cell? ⟨b, off + i * 2, none⟩ = some (.string r.n) ∧ W.cell? ⟨b, off + i * 2 + 1, none⟩ = some (.slice r.a r.ds.length r.c)) ∧ Alts W r.a r.c r.ds ∧ (r.n.size ≤ maxLen ∧ ∀ d ∈ r.ds, ∀ n ∈ d.l, n.size ≤ maxLen)) (f := fun r : RlD => r.ds.length + szA r.ds + 1) (g := Rows.uptoBulk) (elems.map (·.1)) len (by rw [List.length_map, hel]) (fun i hi => by
        obtain ⟨r, hc, hA, hz, hk⟩ := each i (by rw [List.length_map] at hi; omega)
        have hc' : ∀ q, q < 2 → W.cell? ⟨b, off + i * 2 + q, none⟩ = r.cells[q]? := fun q hq => by
          have := hc q hq
          rwa [add_plain, add_plain] at this
        exact ⟨r, ⟨⟨hc' 0 (by omega), hc' 1 (by omega)⟩, hA, hz⟩, by rw [List.getElem_map]; exact hk⟩)
      refine ⟨some ⟨b, off, none⟩, cap, l, by rw [e3, hl1], ⟨by omega, by omega, fun e => (by cases e), fun i _ => ⟨b, off, rfl⟩, fun b' off' e i hi => ?_, fun r hr => ?_⟩, ⟨fun r hr => ?_, fun r h => (by cases h), fun r hr => ?_⟩, ?_⟩
      · cases e
        exact (hl2 i hi).1
      · obtain ⟨i, hi, rfl⟩ := List.getElem_of_mem hr
        exact (hl2 i hi).2.1
      · obtain ⟨i, hi, rfl⟩ := List.getElem_of_mem hr
        exact (hl2 i hi).2.2.1
      · obtain ⟨i, hi, rfl⟩ := List.getElem_of_mem hr
        exact (hl2 i hi).2.2.2
      · rw [x3]
        simp only [Rows.uptoBulk]
        rw [bulkAll_sum (elems.map (·.1))]
        have h4 : (l.map (fun r : RlD => r.ds.length + szA r.ds + 1)).sum = l.length + szR l := by
          clear hl1 hl2 hl3
          induction l with
          | nil => simp [szR]
          | cons d l ih =>
            have e : szR (d :: l) = (d.ds.length + szA d.ds) + szR l := by simp [szR]
            rw [List.map_cons, List.sum_cons, ih, e, List.length_cons]
            omega
        omega

set_option maxRecDepth 100000 in
theorem open_gram2 {H : Type} {enc : TypeId × Value → H} {W : World} {v : Value} {d : DataW H} {ps : List MemPlace} (hok : Value.okWide Try.prog W .any 0 24 v) (h : DataW.Trod enc Try.prog W 0 (fun _ => true) true 24 v d ps) :
    ∃ (a : Option Addr) (cap : Nat) (l : List RlD), v = .agg #[.slice a l.length cap] ∧ Rls W a cap l ∧ FitG l [] ∧ l.length + szR l ≤ Rows.uptoBulk d := by
  obtain ⟨cs, rfl, _⟩ := okWide_struct Try.underlying24 hok
  obtain ⟨fuel, hf⟩ := h
  obtain ⟨xs, n, rfl, e9, hl, hlen, hf⟩ := DataW.trod_struct Try.underlying24 hf
  rw [gram_cells] at hl
  obtain ⟨v0, hv⟩ : ∃ v0, cs.toList = [v0] := by
    match hc : cs.toList, (show cs.toList.length = 1 from hl) with
    | [v0], _ => exact ⟨v0, rfl⟩
  obtain ⟨y0, rfl⟩ : ∃ y0, xs = [y0] := by
    match xs, hlen with
    | [y0], _ => exact ⟨y0, rfl⟩
  have h0 := hf 0 _ rfl
  rw [show (Value.agg cs).cells.toList = [v0] from hv] at h0
  simp only [rules_cells, List.drop_zero, List.take_succ_cons, List.take_zero, List.getElem?_cons_zero] at h0
  obtain ⟨a, cap, l, e0, hR, hz, hk⟩ := open_rulel2 _ _ _ h0
  injection e0 with e0 _
  subst e0
  have e9 := (Prod.mk.inj e9).1
  refine ⟨a, cap, l, ?_, hR, hz, ?_⟩
  · cases cs
    simp only at hv
    rw [hv]
  · rw [e9]
    simp only [List.map_cons, List.map_nil, Rows.uptoBulk, Rows.uptoBulkAll]
    omega
set_option maxRecDepth 100000 in
theorem open_toks2 {H : Type} {enc : TypeId × Value → H} {W : World} {v : Value} {d : DataW H} {ps : List MemPlace} (hok : Value.okWide Try.prog W .any 0 25 v) (h : DataW.Trod enc Try.prog W 0 (fun _ => true) true 25 v d ps) :
    ∃ (a : Option Addr) (cap : Nat) (l : List ByteArray), v = .slice a l.length cap ∧ Nms W a cap l ∧ (∀ n ∈ l, n.size ≤ maxLen) ∧ l.length + 1 ≤ Rows.uptoBulk d := by
  obtain ⟨a0, len0, cap0, rfl⟩ := okWide_slice Try.underlying25 hok
  obtain ⟨fuel, hf⟩ := h
  obtain ⟨x, e, h1, h2, h3⟩ := open_strl2 fuel _ _ hf
  simp only [Value.cells, List.cons.injEq, and_true] at e
  exact ⟨x.a, x.c, x.l, e, h1, h2, h3⟩
end Go.Proofs.Ytiopbjgpaidemaa

namespace Go.Proofs.Ytiopbjgpaidemaa
open Go.RowKit Go.Maps

attribute [local go_sem] Oper.semAt_some

end Go.Proofs.Ytiopbjgpaidemaa

namespace Go.Proofs.Ytiopbjgpaidemaa
open Go.RowKit

end Go.Proofs.Ytiopbjgpaidemaa

namespace Go.Proofs.Ytiopbjgpaidemaa
open Go.RowKit Go.Maps

attribute [local go_sem] Oper.semAt_some

end Go.Proofs.Ytiopbjgpaidemaa

namespace Go.Proofs.Ytiopbjgpaidemaa
open Go.RowKit Go.Maps Go.WideMaps

end Go.Proofs.Ytiopbjgpaidemaa

namespace Go.Proofs.Ytiopbjgpaidemaa
open Go.RowKit

theorem mem_lay {l : List Fl} {x f : Fl} : f ∈ layP l x ↔ f ∈ l ∨ f = x := by
  unfold layP
  split
  · next h =>
    rw [memF_iff] at h
    exact ⟨fun h1 => .inl h1, fun h1 => h1.elim id (fun e => e ▸ h)⟩
  · rw [List.mem_append, List.mem_singleton]
theorem mem_unkS {ts names : List ByteArray} {o : List Fl} {n : ByteArray} {f : Fl} : f ∈ unkS ts names o n ↔ f ∈ o ∨ (n ∉ names ∧ n ∉ ts ∧ f = (2, n)) := by
  have h1 : (!mem n names && !mem n ts) = true ↔ n ∉ names ∧ n ∉ ts := by
    simp only [Bool.and_eq_true, Bool.not_eq_true', Bool.eq_false_iff]
    exact and_congr (not_congr mem_iff) (not_congr mem_iff)
  unfold unkS
  split
  · next h => rw [mem_lay]; have := h1.1 h; exact ⟨fun h => h.imp id (fun e => ⟨this.1, this.2, e⟩), fun h => h.imp id (fun e => e.2.2)⟩
  · next h => exact ⟨fun h => .inl h, fun h2 => h2.elim id (fun e => absurd (h1.2 ⟨e.1, e.2.1⟩) h)⟩
theorem mem_unkA {ts names : List ByteArray} {f : Fl} : ∀ (l : List ByteArray) (o : List Fl), f ∈ unkA ts names l o ↔ f ∈ o ∨ ∃ n ∈ l, n ∉ names ∧ n ∉ ts ∧ f = (2, n)
  | [], o => by simp [unkA]
  | m :: l, o => by
    have h : unkA ts names (m :: l) o = unkA ts names l (unkS ts names o m) := rfl
    rw [h, mem_unkA l, mem_unkS]
    simp only [List.mem_cons, exists_eq_or_imp, or_assoc]
theorem mem_unkAs {ts names : List ByteArray} {f : Fl} : ∀ (al : List (List ByteArray)) (o : List Fl), f ∈ unkAs ts names al o ↔ f ∈ o ∨ ∃ a ∈ al, ∃ n ∈ a, n ∉ names ∧ n ∉ ts ∧ f = (2, n)
  | [], o => by simp [unkAs]
  | m :: l, o => by
    have h : unkAs ts names (m :: l) o = unkAs ts names l (unkA ts names m o) := rfl
    rw [h, mem_unkAs l, mem_unkA]
    simp only [List.mem_cons, exists_eq_or_imp, or_assoc]
theorem mem_unkP {ts names : List ByteArray} {f : Fl} : ∀ (rs : List Rl) (o : List Fl), f ∈ unkP ts names rs o ↔ f ∈ o ∨ ∃ r ∈ rs, ∃ a ∈ r.2, ∃ n ∈ a, n ∉ names ∧ n ∉ ts ∧ f = (2, n)
  | [], o => by simp [unkP]
  | m :: l, o => by
    have h : unkP ts names (m :: l) o = unkP ts names l (unkAs ts names m.2 o) := rfl
    rw [h, mem_unkP l, mem_unkAs]
    simp only [List.mem_cons, exists_eq_or_imp, or_assoc]
theorem mem_restM {kd : Int} {m : ByteArray → Bool} {f : Fl} : ∀ (l : List ByteArray) (o : List Fl), f ∈ restM kd m l o ↔ f ∈ o ∨ ∃ n ∈ l, m n = false ∧ f = (kd, n)
  | [], o => by simp [restM]
  | n :: l, o => by
    have h : restM kd m (n :: l) o = restM kd m l (if (!m n) = true then layP o (kd, n) else o) := rfl
    rw [h, mem_restM l]
    simp only [List.mem_cons, exists_eq_or_imp]
    cases hm : m n
    · rw [if_pos (by rfl), mem_lay, or_assoc]
      simp
    · rw [if_neg (by decide)]
      simp
theorem dblN_kind {ts names : List ByteArray} {f : Fl} : ∀ k, f ∈ dblN ts names k → f.1 = 1
  | 0, h => by cases h
  | k + 1, h => by
    unfold dblN at h
    split at h
    · split at h
      · rcases mem_lay.1 h with h | rfl
        · exact dblN_kind k h
        · rfl
      · exact dblN_kind k h
    · exact dblN_kind k h
theorem mem_FLW {rs : List RlD} {ts : List ByteArray} {f : Fl} : f ∈ FLW rs ts ↔ f ∈ dblN ts (rs.map RlD.n) rs.length ∨ (∃ r ∈ grP rs, ∃ a ∈ r.2, ∃ n ∈ a, n ∉ rs.map RlD.n ∧ n ∉ ts ∧ f = (2, n)) ∨ (∃ n ∈ rs.map RlD.n, fertM rs ts n = false ∧ f = (3, n)) ∨ ∃ n ∈ rs.map RlD.n, nearM rs n = false ∧ f = (4, n) := by
  unfold FLW
  rw [mem_restM, mem_restM, mem_unkP]
  simp only [or_assoc]
end Go.Proofs.Ytiopbjgpaidemaa

