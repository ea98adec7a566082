/- Texts joined: Kp. -/
import Derived.Test.YtiopbjgpaidemaaJAn
import Derived.Test.YtiopbjgpaidemaaJAm
set_option linter.unusedVariables false
set_option linter.unusedSimpArgs false
namespace Go.Proofs.Ytiopbjgpaidemaa
open Go.RowKit Go.Maps

attribute [local go_sem] Oper.semAt_some

/-- The name that no grammar of a test has. -/
abbrev qnB : ByteArray := ⟨#[113, 117, 105, 116, 101, 95, 97, 110, 111, 116, 104, 101, 114, 95, 114, 117, 108, 101]⟩

theorem qn_list : qnB.toList = [113, 117, 105, 116, 101, 95, 97, 110, 111, 116, 104, 101, 114, 95, 114, 117, 108, 101] := by kernel_rfl
theorem qn_yes {e : ByteArray} (h : e = qnB) : (e.toList == [113, 117, 105, 116, 101, 95, 97, 110, 111, 116, 104, 101, 114, 95, 114, 117, 108, 101]) = true := by rw [h, qn_list]; rfl
theorem qn_no {e : ByteArray} (h : e ≠ qnB) : (e.toList == [113, 117, 105, 116, 101, 95, 97, 110, 111, 116, 104, 101, 114, 95, 114, 117, 108, 101]) = false := by rw [← qn_list]; exact str_ne h

theorem restM_len8 (kd : Int) (m : ByteArray → Bool) : ∀ (l : List ByteArray) (o : List Fl), (restM kd m l o).length ≤ o.length + l.length
  | [], o => Nat.le_refl _
  | n :: l, o => by
    have h := restM_len8 kd m l (if (!m n) = true then layP o (kd, n) else o)
    have h2 : (if (!m n) = true then layP o (kd, n) else o).length ≤ o.length + 1 := by
      split
      · exact lay_len o _
      · omega
    show (restM kd m l (if (!m n) = true then layP o (kd, n) else o)).length ≤ _
    rw [List.length_cons]
    omega
theorem unkA_len (ts names : List ByteArray) : ∀ (l : List ByteArray) (o : List Fl), (unkA ts names l o).length ≤ o.length + l.length
  | [], o => Nat.le_refl _
  | n :: l, o => by
    have h := unkA_len ts names l (unkS ts names o n)
    have h2 : (unkS ts names o n).length ≤ o.length + 1 := by
      unfold unkS
      split
      · exact lay_len o _
      · omega
    show (unkA ts names l (unkS ts names o n)).length ≤ _
    rw [List.length_cons]
    omega
theorem unkAs_len (ts names : List ByteArray) : ∀ (l : List (List ByteArray)) (o : List Fl), (unkAs ts names l o).length ≤ o.length + (l.map List.length).sum
  | [], o => Nat.le_refl _
  | n :: l, o => by
    have h := unkAs_len ts names l (unkA ts names n o)
    have h2 := unkA_len ts names n o
    show (unkAs ts names l (unkA ts names n o)).length ≤ _
    rw [List.map_cons, List.sum_cons]
    omega
theorem unkP_len (ts names : List ByteArray) : ∀ (rs : List RlD) (o : List Fl), (unkP ts names (grP rs) o).length ≤ o.length + szR rs
  | [], o => Nat.le_refl _
  | r :: rs, o => by
    have h := unkP_len ts names rs (unkAs ts names r.p.2 o)
    have h2 := unkAs_len ts names r.p.2 o
    have e : szR (r :: rs) = (r.ds.length + szA r.ds) + szR rs := by simp [szR]
    have e2 : (r.p.2.map List.length).sum = szA r.ds := by unfold szA RlD.p; dsimp only; rw [List.map_map]; rfl
    show (unkP ts names (grP rs) (unkAs ts names r.p.2 o)).length ≤ _
    rw [e]
    omega
theorem dblN_len (ts names : List ByteArray) : ∀ k, (dblN ts names k).length ≤ k
  | 0 => Nat.le_refl _
  | k + 1 => by
    have h := dblN_len ts names k
    unfold dblN
    split
    · next n hn =>
      split
      · have := lay_len (dblN ts names k) (1, n)
        omega
      · omega
    · omega
theorem flw_len (rs : List RlD) (ts : List ByteArray) (hs : rs.length + szR rs ≤ 100000) : (FLW rs ts).length ≤ 1000000 := by
  unfold FLW
  have h1 := restM_len8 4 (nearM rs) (rs.map RlD.n) (restM 3 (fertM rs ts) (rs.map RlD.n) (unkP ts (rs.map RlD.n) (grP rs) (dblN ts (rs.map RlD.n) rs.length)))
  have h2 := restM_len8 3 (fertM rs ts) (rs.map RlD.n) (unkP ts (rs.map RlD.n) (grP rs) (dblN ts (rs.map RlD.n) rs.length))
  have h3 := unkP_len ts (rs.map RlD.n) rs (dblN ts (rs.map RlD.n) rs.length)
  have h4 := dblN_len ts (rs.map RlD.n) rs.length
  rw [List.length_map] at h1 h2
  omega

/-- Flaws that are one's own are put onto an empty list. -/
theorem run_appFl9 (w : World) (ty : TypeId) {base2 bc : Nat} {b : Option Addr} {l : List Fl} (ho : OwnF w base2 b bc l) (hn : l.length ≤ 1000000) :
    ∃ a' c' w', (Builtin.append_ #[28, 28] ty #[.slice none 0 0, .slice b l.length bc]).run Try.prog w = .ok (.slice a' l.length c') w' ∧ OwnF w' w.heap.size a' c' l ∧ Below w.heap.size w w' := by
  obtain ⟨i0, hi, hz0, hz1, hz2⟩ := info_parts info_flaw
  by_cases hne : l = []
  · subst hne
    rcases ho.2 with ⟨e1, _⟩ | ⟨g, cp, cur, e1, _⟩
    · rw [e1]
      exact ⟨none, 0, w, run_append_owned_none (P := Try.prog) w w.heap.size _ ty _ i0 2 Try.underlying28 hi _ _ _ (World.ownsRow_nil w _ 31 2), World.ownsRow_nil w _ 31 2, Below.refl _ w⟩
    · simp only [Value.slice.injEq] at e1
      obtain ⟨rfl, -, rfl⟩ := e1
      obtain ⟨v', w', hrun, ho', hg, _⟩ := run_append_own (P := Try.prog) w w.heap.size 28 ty 31 i0 _ 2 24 Try.underlying28 hi hz0 hz1 hz2 rfl (by decide) _ 0 _ (World.ownsRow_nil w _ 31 2) ⟨g, 0, none⟩ 0 bc [] rfl (fun j u h => by simp at h) (fun u h => by cases h) (by unfold maxLen; omega) (by omega) (Nat.le_refl _)
      obtain ⟨a', cap', rfl⟩ := slice_of_own ho'
      exact ⟨a', cap', w', hrun, ho', belowAt hg (fun i e => by cases e) (Nat.le_refl _)⟩
  · obtain ⟨a', c', w', h1, h2, h3⟩ := run_appFl8 (n := 0) (a := none) (cap := 0) (row := []) w ty (World.ownsRow_nil w w.heap.size 31 2) b bc l (own_fls ho) hne (by omega) (Nat.le_refl _)
    rw [Nat.zero_add] at h1 h2
    rw [List.nil_append] at h2
    exact ⟨a', c', w', h1, h2, belowAt h3 (fun i e => by cases e) (Nat.le_refl _)⟩
theorem wpList_append_runW {P : Program} {w : World} {ops : Array Oper} {rest : List Oper} {o : Oper} {a : Act} {Q : Exit → Act → World → Prop} (hw : Region.wanted o (yielded ops a.tmps) = true) (s x : Operand) (t t2 : TypeId)
    (hop : o.op = Op.call { callee := Callee.builtin Builtin.append, args := #[s, x], argTypes := #[t, t2] }) (vs vx v' : Value) (w' : World) (hs : a.eval s = vs) (hx : a.eval x = vx)
    (hrun : (Builtin.append_ #[t, t2] o.type #[vs, vx]).run P w = .ok v' w') (h : wpList P ops Q rest (a.put o.dst v') w') : wpList P ops Q (o :: rest) a w := by
  refine wpList_step fun K hK => ?_
  rw [if_pos hw]
  unfold Oper.wp
  simp [execOp, hop, resolve, invoke, builtin, hs, hx, hrun, Result.andThen]
  exact hK _ _ h
theorem flC_snoc (l : List Fl) (f : Fl) : (l ++ [f]).flatMap flC = l.flatMap flC ++ flC f := by simp

set_option maxRecDepth 100000 in
set_option maxHeartbeats 16000000 in
theorem lawMore_any (rs : List RlD) (a : Option Addr) (cap : Nat) (ts : List ByteArray) (ta : Option Addr) (tc : Nat) (mo : ByteArray) (w : World) (hl : Rls w a cap rs) (ht : Nms w ta tc ts) (hf : FitG rs ts) (hmo : mo.size ≤ maxLen) (hfew : rs.length + ts.length + szR rs ≤ 1000000000000) :
    Calls Try.prog 3 #[.agg #[.slice a rs.length cap], .slice ta ts.length tc, .string mo] w fun e w' => e = .returned (.bool true) ∧ Below w.heap.size w w' := by
  have hlm : rs.length ≤ cap ∧ cap ≤ 9223372036854775807 := ⟨hl.le, hl.max⟩
  have htm : ts.length ≤ tc ∧ tc ≤ 9223372036854775807 := ⟨by have := ht.le; rwa [List.length_map] at this, ht.max⟩
  have hA0 := Blk.new w 24 #[.slice a rs.length cap]
  have hb0 : Below w.heap.size w (w.alloc (.cells #[.slice a rs.length cap] 24)) := (Below.refl _ w).alloc (Nat.le_refl _) _
  have Hbig := Lib.hid (fun W (hb : Below w.heap.size w W) => big8_any rs a cap ts ta tc W (hl.grown hb) (ht.grown hb) hfew)
  have Hf1 := Lib.hid (fun (hs : rs.length + ts.length + szR rs ≤ 600) W (hb : Below w.heap.size w W) => flaws_any rs a cap ts ta tc W (hl.grown hb) (ht.grown hb) hf (by omega))
  have Hf2 := Lib.hid (fun (hs : rs.length + ts.length + szR rs ≤ 600) W (hb : Below w.heap.size w W) ua uc (hu : Nms W ua uc (ts ++ [mo])) => flaws_any rs a cap (ts ++ [mo]) ua uc W (hl.grown hb) hu ⟨hf.rules, (fun t h => (List.mem_append.1 h).elim (hf.toks t) (fun h => by rw [List.mem_singleton] at h; rw [h]; exact hmo)), hf.alts⟩ (by rw [List.length_append, List.length_singleton]; omega))
  have Hnm := Lib.hid (fun (hs : rs.length + ts.length + szR rs ≤ 600) W (hb : Below w.heap.size w W) => names_any rs a cap W (hl.grown hb) (by omega))
  have Hf3 := Lib.hid (fun (hs : rs.length + ts.length + szR rs ≤ 600) (z : RlD) (hz : z.p = (qnB, [[]])) W (hb : Below w.heap.size w W) ha hc (hh : Rls W ha hc (rs ++ [z])) => flaws_any (rs ++ [z]) ha hc ts ta tc W hh (ht.grown hb)
    ⟨fun r hr => (List.mem_append.1 hr).elim (hf.rules r) (fun h => by rw [List.mem_singleton] at h; rw [h, show z.n = qnB from congrArg Prod.fst hz]; decide), hf.toks, fun r hr => (List.mem_append.1 hr).elim (hf.alts r) (fun h d hd n hn => by
      rw [List.mem_singleton] at h
      subst h
      have h1 : d.l ∈ r.ds.map AltD.l := List.mem_map.2 ⟨d, hd, rfl⟩
      rw [show r.ds.map AltD.l = [[]] from congrArg Prod.snd hz, List.mem_singleton] at h1
      rw [h1] at hn
      cases hn)⟩ (by
      have h1 : szR (rs ++ [z]) = szR rs + 1 := by
        have h2 := congrArg (fun p : Rl => p.2.map List.length) hz
        have h3 : z.ds.map (fun d => d.l.length) = [0] := by simpa [RlD.p, List.map_map, Function.comp_def] using h2
        have h4 : z.ds.length = 1 := by have := congrArg List.length h3; simpa using this
        have h5 : szA z.ds = 0 := by unfold szA; rw [h3]; rfl
        have h6 : szR (rs ++ [z]) = szR rs + (z.ds.length + szA z.ds) := by simp [szR]
        rw [h6, h4, h5]
      rw [List.length_append, List.length_singleton, h1]
      omega))
  obtain ⟨Z, hZ⟩ : ∃ q, Hid (decide (600 < rs.length + ts.length + szR rs) = q) := ⟨_, Lib.hid rfl⟩
  have hZs : Hid (Z = false → rs.length + ts.length + szR rs ≤ 600) := Lib.hid (fun h => by
    have h1 := hZ.out.trans h
    rw [decide_eq_false_iff_not] at h1
    omega)
  obtain ⟨F, hF⟩ : ∃ q, Hid (FLW rs ts = q) := ⟨_, Lib.hid rfl⟩
  obtain ⟨F2, hF2⟩ : ∃ q, Hid (FLW rs (ts ++ [mo]) = q) := ⟨_, Lib.hid rfl⟩
  obtain ⟨NM, hNM⟩ : ∃ q, Hid (rs.map RlD.n = q) := ⟨_, Lib.hid rfl⟩
  have hNl : Hid (NM.length = rs.length) := Lib.hid (by rw [← hNM.out, List.length_map])
  have hMr : Hid (∀ f ∈ F2, f.1 = 2 ∨ f.1 = 3 → f ∈ F) := Lib.hid (fun f h1 h2 => by
    rw [← hF2.out] at h1
    rw [← hF.out]
    exact flw_more (fun t h => List.mem_append_left _ h) h1 h2)
  have hOne : Hid (rs ≠ [] → (∀ n ∈ NM, n ≠ qnB) → (∀ n ∈ ts, n ≠ qnB) → (∀ r ∈ rs, ∀ d ∈ r.ds, ∀ n ∈ d.l, n ≠ qnB) → ∀ z : RlD, z.p = (qnB, [[]]) → FLW (rs ++ [z]) ts = F ++ [(4, qnB)]) := Lib.hid (fun g1 g2 g3 g4 z hz => by
    have e : z.n = qnB := congrArg Prod.fst hz
    have := flw_one (rs := rs) (ts := ts) (z := z) g1 (congrArg Prod.snd hz) (by rw [hNM.out, e]; exact fun h => g2 _ h rfl) (by rw [e]; exact fun h => g3 _ h rfl) (by rw [e]; exact g4)
    rw [this, hF.out, e])
  rw [hZ.out] at Hbig
  rw [hF.out] at Hf1
  rw [hF2.out] at Hf2
  rw [hNM.out] at Hnm
  have hsm : Z = false → rs.length + ts.length ≤ 600 := fun h => by have := hZs.out h; omega
  have Hg1 := Lib.hid (fun (h : Z = false) => Hf1.out (hZs.out h))
  have Hg2 := Lib.hid (fun (h : Z = false) => Hf2.out (hZs.out h))
  have Hg3 := Lib.hid (fun (h : Z = false) => Hf3.out (hZs.out h))
  have Hg4 := Lib.hid (fun (h : Z = false) => Hnm.out (hZs.out h))
  have hFl : Hid (Z = false → F.length ≤ 1000000) := Lib.hid (fun h => by
    have h0 := hZs.out h
    rw [← hF.out]
    exact flw_len rs ts (by omega))
  clear Hf1 Hf2 Hf3 Hnm hZs hZ hF hF2
  obtain ⟨L, HL⟩ : ∃ q, Hid (rs.length = q) := ⟨_, Lib.hid rfl⟩
  obtain ⟨M, HM⟩ : ∃ q, Hid (ts.length = q) := ⟨_, Lib.hid rfl⟩
  rw [HL.out] at hlm hA0 hb0 Hbig Hg1 Hg2 Hg4 hsm hNl ⊢
  rw [HM.out] at htm Hbig Hg1 Hg3 hsm ⊢
  obtain ⟨x, hx⟩ : ∃ q, Hid (w.heap.size = q) := ⟨_, Lib.hid rfl⟩
  have Hl : Hid (∀ W, Below x w W → Rls W a cap rs) := Lib.hid (fun W hb => hl.grown (by rw [hx.out]; exact hb))
  have Ht : Hid (∀ W, Below x w W → Nms W ta tc ts) := Lib.hid (fun W hb => ht.grown (by rw [hx.out]; exact hb))
  have Hbig' : Hid (∀ W, Below x w W → Calls Try.prog 14 #[.agg #[.slice a L cap], .slice ta M tc] W fun r w' => r = .returned (.bool Z) ∧ Below W.heap.size W w') := by rw [← hx.out]; exact Hbig
  have Hg1' : Hid (Z = false → ∀ W, Below x w W → Calls Try.prog 15 #[.agg #[.slice a L cap], .slice ta M tc] W (FlawQ W F)) := by rw [← hx.out]; exact Hg1
  have Hg2' : Hid (Z = false → ∀ W, Below x w W → ∀ (ua : Option Addr) (uc : Nat), Nms W ua uc (ts ++ [mo]) → Calls Try.prog 15 #[.agg #[.slice a L cap], .slice ua (ts ++ [mo]).length uc] W (FlawQ W F2)) := by rw [← hx.out]; exact Hg2
  have Hg3' : Hid (Z = false → ∀ z : RlD, z.p = (qnB, [[]]) → ∀ W, Below x w W → ∀ (ha : Option Addr) (hc : Nat), Rls W ha hc (rs ++ [z]) → Calls Try.prog 15 #[.agg #[.slice ha (rs ++ [z]).length hc], .slice ta M tc] W (FlawQ W (FLW (rs ++ [z]) ts))) := by rw [← hx.out]; exact Hg3
  have Hg4' : Hid (Z = false → ∀ W, Below x w W → Calls Try.prog 17 #[.agg #[.slice a L cap]] W fun r w' => ∃ a' c', r = .returned (.slice a' L c') ∧ w'.ownsRow W.heap.size 9 1 (.slice a' L c') L (NM.map Value.string) ∧ Below W.heap.size W w') := by rw [← hx.out]; exact Hg4
  rw [hx.out] at hb0 hA0 ⊢
  have hxs : x ≤ (w.alloc (.cells #[.slice a L cap] 24)).heap.size := by rw [← hx.out]; simp [go_sem]
  clear Hbig Hg1 Hg2 Hg3 Hg4 hl ht hf hfew
  go_enter Try.func3, Try.ntmps3
  go_wp2_with (fail)
  rw [hx.out]
  generalize hV : World.alloc w _ = V at hA0 hb0 hxs ⊢
  clear hV
  refine (live8_any V).mono ?_
  rintro e w1 ⟨rfl, hb1⟩
  have HA1 := Lib.hid (hA0.below hb1 hA0.lt)
  have Hb1 := Lib.hid (hb0.trans (hb1.mono hxs))
  have hx1 := Nat.le_trans hxs hb1.size
  clear hA0 hb0 hb1 hxs
  have x0 := HA1.out.cell 0
  have xl := HA1.out.lt
  simp only [List.getElem?_cons_zero] at x0
  go_wp2_with (fail)
  refine (Hbig'.out _ Hb1.out).mono ?_
  rintro e w2 ⟨rfl, hb2⟩
  have HA2 := Lib.hid (HA1.out.below hb2 HA1.out.lt)
  have Hb2 := Lib.hid (Hb1.out.trans (hb2.mono hx1))
  have hx2 := Nat.le_trans hx1 hb2.size
  clear hb2 HA1 Hb1 hx1 x0 xl Hbig'
  have x0 := HA2.out.cell 0
  have xl := HA2.out.lt
  simp only [List.getElem?_cons_zero] at x0
  cases Z
  case true =>
    clear Hg1' Hg2' Hg3' Hg4' hFl
    go_wp2_with (fail)
    exact bodyPost_ret (v := .bool true) (by simp [results, Try.results3, go_sem]; try first | rfl | assumption | omega) rfl ⟨rfl, Hb2.out⟩
  case false =>
  have hfs := hsm rfl
  have hFn := hFl.out rfl
  have G1 := Lib.hid (Hg1'.out rfl)
  have G2 := Lib.hid (Hg2'.out rfl)
  have G3 := Lib.hid (Hg3'.out rfl)
  have G4 := Lib.hid (Hg4'.out rfl)
  clear Hg1' Hg2' Hg3' Hg4' hsm hFl
  by_cases hL0 : L = 0
  · subst hL0
    go_wp2_with (fail)
    exact bodyPost_ret (v := .bool true) (by simp [results, Try.results3, go_sem]; try first | rfl | assumption | omega) rfl ⟨rfl, Hb2.out⟩
  have hLb : ((L : Int) == 0) = false := by rw [beq_eq_false_iff_ne]; omega
  have hLn : ¬ (L : Int) = 0 := by omega
  have hrn : Hid (rs ≠ []) := Lib.hid (fun e => hL0 (by rw [← HL.out, e]; rfl))
  go_wp2_with (fail)
  refine (G1.out _ Hb2.out).mono ?_
  rintro e w4 ⟨fa, fc, rfl, hof, hb4⟩
  have HFa := Lib.hid (own_fls hof)
  have HOf := Lib.hid hof
  have HA4 := Lib.hid (HA2.out.below hb4 HA2.out.lt)
  have Hb4 := Lib.hid (Hb2.out.trans (hb4.mono hx2))
  have hx4 := Nat.le_trans hx2 hb4.size
  clear hb4 hof HA2 Hb2 hx2 x0 xl G1
  obtain ⟨NF, hNF⟩ : ∃ q, Hid (F.length = q) := ⟨_, Lib.hid rfl⟩
  rw [hNF.out] at hFn ⊢
  have HA4d := Lib.hid (show Blk w4.drew x 24 [.slice a L cap] from HA4.out)
  have HS4 : Hid (w4.drew.cell? ⟨x, 0, none⟩ = some (.slice a L cap)) := Lib.hid (by simpa using HA4d.out.cell 0)
  have Hb4d := Lib.hid (Hb4.out.drew)
  have hx4d : x ≤ w4.drew.heap.size := hx4
  have Hr4d := Lib.hid (show Below w4.heap.size w4 w4.drew from (Below.refl _ w4).drew)
  have Hap := Lib.hid (fun W (hb : Below x w W) => OwnS.app (n := 0) (l := []) (base := W.heap.size) (World.ownsRow_nil W _ 9 1) ta tc ts (Ht.out W hb) 25 (by rw [HM.out]; omega) (Nat.le_refl _))
  rw [HM.out, Nat.zero_add] at Hap
  have hM1 : (ts ++ [mo]).length = M + 1 := by rw [List.length_append, HM.out]; rfl
  rw [hM1] at G2
  have hM0 : M ≤ 600 := by omega
  go_wp2_with (fail)
  refine wp_region_held_drew (S := fun w' => w'.cell? ⟨x, 0, none⟩ = some (.slice a L cap)) (by kernel_rfl) ?_ (fun hHeld => ?_)
  · exact HS4.out
  refine wpAnyH_take (i := 0) (v := ?_) (iatLS iatZS) (by kernel_rfl) (by kernel_rfl) (by kernel_rfl) (fun _ _ _ h => h) (Or.inl ⟨by rfl, ?_⟩) (by assumption) ?_
  rotate_left
  · intro w hSw
    try dsimp only at hSw
    go_simp
    all_goals with_reducible rfl
  try simp only [Act.put, List.setIfInBounds_toArray, List.set_cons_zero, List.set_cons_succ]
  refine wpAnyH_take (i := 1) (v := ?_) (iatLS (iatSS iatZS)) (by kernel_rfl) (by kernel_rfl) (by kernel_rfl) (fun _ _ _ h => h) (Or.inl ⟨by rfl, ?_⟩) (by assumption) ?_
  rotate_left
  · intro w hSw
    try dsimp only at hSw
    go_simp
    all_goals with_reducible rfl
  try simp only [Act.put, List.setIfInBounds_toArray, List.set_cons_zero, List.set_cons_succ]
  refine wpAnyH_take (i := 3) (v := ?_) (iatLS (iatSS (iatSS (iatSS iatZS)))) (by kernel_rfl) (by kernel_rfl) (by kernel_rfl) (fun _ _ _ h => h) (Or.inl ⟨by rfl, ?_⟩) (by assumption) ?_
  rotate_left
  · intro w hSw
    try dsimp only at hSw
    go_simp
    all_goals with_reducible rfl
  try simp only [Act.put, List.setIfInBounds_toArray, List.set_cons_zero, List.set_cons_succ]
  refine wpAnyH_ready (rs := [2, 4]) (by kernel_rfl) (by simp) ?_
  refine AllReadyH.cons (iatLS (iatSS (iatSS iatZS))) (fun K hK => ?_) (AllReadyH.cons (iatLS (iatSS (iatSS (iatSS (iatSS iatZS))))) (fun K hK => ?_) (AllReadyH.nil))
  ·
    obtain ⟨a5, c5, V5, hr5, ho5, hb5⟩ := Hap.out w4.drew Hb4d.out
    rw [List.nil_append] at ho5
    have HO5 := Lib.hid ho5
    have HA5 := Lib.hid (HA4d.out.below hb5 HA4d.out.lt)
    have HS5 : Hid (V5.cell? ⟨x, 0, none⟩ = some (.slice a L cap)) := Lib.hid (by simpa using HA5.out.cell 0)
    have Hb5 := Lib.hid (Hb4d.out.trans (hb5.mono hx4d))
    have hx5 := Nat.le_trans hx4d hb5.size
    have Hr5 : Hid (Below w4.heap.size w4 V5) := Lib.hid (Hr4d.out.trans (hb5.mono Hr4d.out.size))
    clear ho5 hb5
    refine stepAppS rfl _ _ 25 25 rfl _ _ _ _ rfl rfl hr5 ?_
    clear hr5
    refine hK.out _ _ ?_ (fun hHeld => ?_)
    · exact HS5.out
    clear hK K
    try simp only [Act.put, List.setIfInBounds_toArray, List.set_cons_zero, List.set_cons_succ]
    refine wpAnyH_ready (rs := [4]) (by kernel_rfl) (by simp) ?_
    refine AllReadyH.cons (iatLS (iatSS (iatSS (iatSS (iatSS iatZS))))) (fun K hK => ?_) AllReadyH.nil
    go_simp
    refine hK.out _ _ ?_ (fun hHeld => ?_)
    · exact by simpa using (HA5.out.alloc _).cell 0
    clear hK K
    try simp only [Act.put, List.setIfInBounds_toArray, List.set_cons_zero, List.set_cons_succ]
    refine wpAnyH_ready (rs := [5]) (by kernel_rfl) (by simp) ?_
    refine AllReadyH.cons (iatLS (iatSS (iatSS (iatSS (iatSS (iatSS iatZS)))))) (fun K hK => ?_) AllReadyH.nil
    have Hr6 := Lib.hid (Hr5.out.alloc Hr5.out.size (.cells #[.string mo] 9))
    have HO6 := Lib.hid (World.ownsRow.alloc HO5.out (.cells #[.string mo] 9))
    have HMo := Lib.hid (lit_vs V5 [.string mo] 9 (by simp))
    have hbs : w4.drew.heap.size ≤ (World.alloc V5 (.cells #[.string mo] 9)).heap.size := Hr6.out.size
    have hbs4 : w4.heap.size ≤ w4.drew.heap.size := Nat.le_refl _
    obtain ⟨q, hq⟩ : ∃ q, Hid (V5.heap.size = q) := ⟨_, Lib.hid rfl⟩
    rw [hq.out] at HMo ⊢
    generalize hW : World.alloc V5 _ = W6 at Hr6 HO6 HMo hbs ⊢
    clear hW
    obtain ⟨a7, c7, V7, hr7, ho7, hb7⟩ := OwnS.app HO6.out (some ⟨q, 0, none⟩) 1 [mo] HMo.out 25 (by rw [List.length_singleton]; omega) hbs
    rw [List.length_singleton] at hr7 ho7
    have Hr7 : Hid (Below w4.heap.size w4 V7) := Lib.hid (Hr6.out.trans (hb7.mono hbs4))
    have HA7 := Lib.hid (HA4.out.below Hr7.out HA4.out.lt)
    have HS7 : Hid (V7.cell? ⟨x, 0, none⟩ = some (.slice a L cap)) := Lib.hid (by simpa using HA7.out.cell 0)
    have Hb7 := Lib.hid (Hb4.out.trans (Hr7.out.mono hx4))
    have HN7 := Lib.hid (show Nms V7 a7 c7 (ts ++ [mo]) from own_vs ho7)
    clear ho7 hb7
    refine stepAppS rfl _ _ 25 25 rfl _ _ _ _ rfl rfl hr7 ?_
    clear hr7
    refine hK.out _ _ ?_ (fun hHeld => ?_)
    · exact HS7.out
    clear hK K
    try simp only [Act.put, List.setIfInBounds_toArray, List.set_cons_zero, List.set_cons_succ]
    refine wpAnyH_ready (rs := [6]) (by kernel_rfl) (by simp) ?_
    refine AllReadyH.cons (iatLS (iatSS (iatSS (iatSS (iatSS (iatSS (iatSS iatZS))))))) (fun K hK => ?_) AllReadyH.nil
    go_simp
    (with_reducible refine (G2.out _ Hb7.out a7 c7 HN7.out).mono ?_)
    rintro e8 V8 ⟨ba, bc, rfl, hob, hb8⟩
    have HFb := Lib.hid (own_fls hob)
    have Hr8 : Hid (Below w4.heap.size w4 V8) := Lib.hid (Hr7.out.trans (hb8.mono Hr7.out.size))
    have HA8 := Lib.hid (HA4.out.below Hr8.out HA4.out.lt)
    have HS8 : Hid (V8.cell? ⟨x, 0, none⟩ = some (.slice a L cap)) := Lib.hid (by simpa using HA8.out.cell 0)
    have Hb8 := Lib.hid (Hb4.out.trans (Hr8.out.mono hx4))
    clear hob hb8
    try dsimp only
    refine hK.out _ _ ?_ (fun hHeld => ?_)
    · exact HS8.out
    clear hK K
    try simp only [Act.put, List.setIfInBounds_toArray, List.set_cons_zero, List.set_cons_succ]
    refine wpAnyH_ready (rs := [7]) (by kernel_rfl) (by simp) ?_
    refine AllReadyH.cons (iatLS (iatSS (iatSS (iatSS (iatSS (iatSS (iatSS (iatSS iatZS)))))))) (fun K hK => ?_) AllReadyH.nil
    go_simp
    refine hK.out _ _ ?_ (fun hHeld => ?_)
    · exact HS8.out
    clear hK K
    try simp only [Act.put, List.setIfInBounds_toArray, List.set_cons_zero, List.set_cons_succ]
    refine wpAnyH_done (by kernel_rfl) ?_ _
    obtain ⟨NB, hNB⟩ : ∃ q, Hid (F2.length = q) := ⟨_, Lib.hid rfl⟩
    rw [hNB.out]
    have HFa8 := Lib.hid (HFa.out.grown Hr8.out)
    have hx8 : x ≤ V8.heap.size := Nat.le_trans hx4 Hr8.out.size
    have hbm : NB ≤ bc ∧ bc ≤ 9223372036854775807 := ⟨by have := HFb.out.le; rwa [hNB.out] at this, HFb.out.max⟩
    have ham : NF ≤ fc ∧ fc ≤ 9223372036854775807 := ⟨by have := HFa8.out.le; rwa [hNF.out] at this, HFa8.out.max⟩
    go_wp2_with (fail)
    go_loopw [47] (fun iv wr => ∃ k : Nat, k ≤ NB ∧ iv = .int .i64 (k : Int) ∧ Below V8.heap.size V8 wr) (fun iv _ => NB - (intOf iv).toNat)
    case atStart => exact ⟨0, Nat.zero_le _, rfl, Below.refl _ V8⟩
    case round =>
      obtain ⟨k, hk, rfl, hbr⟩ := hrel
      obtain ⟨U1, rfl⟩ : ∃ U, U = wr := ⟨_, rfl⟩
      by_cases hlt : k < NB
      · have hkI : (k : Int) < (NB : Int) := by omega
        have hkI0 : (0 : Int) ≤ (k : Int) := by omega
        have hkl : k < F2.length := by rw [hNB.out]; exact hlt
        have hFw := HFb.out.grown hbr
        obtain ⟨b, off, rfl⟩ := hFw.at_ k hkl
        obtain ⟨c0, c1⟩ := hFw.cell b off rfl k hkl
        have hmr := hMr.out _ (List.getElem_mem hkl)
        obtain ⟨e, he⟩ : ∃ v, Hid (F2[k] = v) := ⟨_, Lib.hid rfl⟩
        rw [he.out] at c0 c1 hmr
        obtain ⟨ek, en⟩ := e
        dsimp only at c0 c1 hmr
        have hbl := World.block_lt_of_cell? _ _ c0
        have hBx := Blk.new U1 31 #[.int .i64 ek, .string en]
        have hgV : Below U1.heap.size U1 (U1.alloc (.cells #[.int .i64 ek, .string en] 31)) := (Below.refl _ U1).alloc (Nat.le_refl _) _
        have hbe := hbr.trans (hgV.mono hbr.size)
        have y0 := hBx.cell 0
        have y1 := hBx.cell 1
        have yl := hBx.lt
        simp only [List.getElem?_cons_zero, List.getElem?_cons_succ] at y0 y1
        clear hFw
        by_cases h2 : ek = 2 ∨ ek = 3
        case neg =>
          have n2b : (ek != 2) = true := by rw [bne_iff_ne]; exact fun h => h2 (.inl h)
          have n3b : (ek != 3) = true := by rw [bne_iff_ne]; exact fun h => h2 (.inr h)
          clear hBx h2
          go_wp2_with (fail)
          exact ⟨⟨k + 1, by omega, by go_num, hbe⟩, by simp [intOf]; omega⟩
        case pos =>
          have hmT : Hid (memF (ek, en) F = true) := Lib.hid (memF_iff.2 (hmr h2))
          have hd : (ek != 2) = false ∨ ((ek != 2) = true ∧ (ek != 3) = false) := by
            rcases h2 with h | h
            · exact .inl (by rw [h]; rfl)
            · exact .inr ⟨by rw [h]; rfl, by rw [h]; rfl⟩
          clear h2 hmr
          have HBx := Lib.hid hBx
          have HFc := Lib.hid (HFa8.out.grown hbe)
          have Hbe := Lib.hid hbe
          clear hBx hgV hbe
          obtain ⟨y, hy⟩ : ∃ q, Hid (U1.heap.size = q) := ⟨_, Lib.hid rfl⟩
          rw [hy.out] at HBx
          rcases hd with m2 | ⟨m2, m3⟩
          all_goals
            go_wp2_with (fail)
            try rw [hy.out]
            generalize hV : World.alloc U1 _ = V9 at HBx HFc Hbe ⊢
            clear hV y0 y1 yl c0 c1 hbl
            go_loopw [12, 61] (fun s iv wr => ∃ (i : Nat) (B : Bool), i ≤ NF ∧ iv = .int .i64 (i : Int) ∧ s = .bool B ∧ Hid (B = memF (ek, en) (F.take i)) ∧ Hid (Blk wr y 31 [.int .i64 ek, .string en]) ∧ Below V9.heap.size V9 wr) (fun _ iv _ => NF - (intOf iv).toNat)
            case atStart => exact ⟨0, false, Nat.zero_le _, rfl, rfl, Lib.hid rfl, HBx, Below.refl _ V9⟩
            case round =>
              clear HBx
              obtain ⟨i, B, hi, rfl, rfl, HB, HBx, hbi⟩ := hrel
              by_cases hlt2 : i < NF
              · have hiI : (i : Int) < (NF : Int) := by omega
                have hiI0 : (0 : Int) ≤ (i : Int) := by omega
                have hil : i < F.length := by rw [hNF.out]; exact hlt2
                have hFw := HFc.out.grown hbi
                obtain ⟨b2, o2, rfl⟩ := hFw.at_ i hil
                obtain ⟨d0, d1⟩ := hFw.cell b2 o2 rfl i hil
                have htk : Hid (F.take (i + 1) = F.take i ++ [F[i]]) := Lib.hid (by rw [List.take_add_one, List.getElem?_eq_getElem hil]; rfl)
                obtain ⟨g, hg⟩ : ∃ v, Hid (F[i] = v) := ⟨_, Lib.hid rfl⟩
                rw [hg.out] at d0 d1 htk
                obtain ⟨gk, gn⟩ := g
                dsimp only at d0 d1
                have hms : Hid (memF (ek, en) (F.take (i + 1)) = (memF (ek, en) (F.take i) || decide ((gk, gn) = (ek, en)))) := Lib.hid (by rw [htk.out]; simp [memF])
                have hbl2 := World.block_lt_of_cell? wr _ d0
                have hB2 := Blk.new wr 31 #[.int .i64 gk, .string gn]
                have hgW : Below wr.heap.size wr (wr.alloc (.cells #[.int .i64 gk, .string gn] 31)) := (Below.refl _ wr).alloc (Nat.le_refl _) _
                have z0 := hB2.cell 0
                have z1 := hB2.cell 1
                have zl := hB2.lt
                have y0 := HBx.out.cell 0
                have y1 := HBx.out.cell 1
                have yl := HBx.out.lt
                simp only [List.getElem?_cons_zero, List.getElem?_cons_succ] at z0 z1 y0 y1
                have hbf := Lib.hid (hbi.trans (hgW.mono hbi.size))
                have HBe := Lib.hid (HBx.out.below hgW HBx.out.lt)
                clear hFw hB2 hgW htk
                cases B
                · by_cases e1 : gk = ek
                  · by_cases e2 : gn = en
                    · have e1b : (gk == ek) = true := by rw [beq_iff_eq]; exact e1
                      have e3 : (gn.toList == en.toList) = true := by rw [e2]; exact beq_self_eq_true _
                      have hN : Hid (true = memF (ek, en) (F.take (i + 1))) := Lib.hid (by rw [hms.out, e1, e2]; simp)
                      clear e1 e2
                      go_wp2_with (fail)
                      exact ⟨⟨i + 1, true, by omega, by go_num, rfl, hN, HBe, hbf.out⟩, by simp [intOf]; omega⟩
                    · have e1b : (gk == ek) = true := by rw [beq_iff_eq]; exact e1
                      have e3 : (gn.toList == en.toList) = false := str_ne e2
                      have hN : Hid (false = memF (ek, en) (F.take (i + 1))) := Lib.hid (by rw [hms.out, ← HB.out, decide_eq_false (fun h => e2 (by injection h))]; rfl)
                      clear e1 e2
                      go_wp2_with (fail)
                      exact ⟨⟨i + 1, false, by omega, by go_num, rfl, hN, HBe, hbf.out⟩, by simp [intOf]; omega⟩
                  · have e1b : (gk == ek) = false := by rw [beq_eq_false_iff_ne]; exact e1
                    have hN : Hid (false = memF (ek, en) (F.take (i + 1))) := Lib.hid (by rw [hms.out, ← HB.out, decide_eq_false (fun h => e1 (by injection h))]; rfl)
                    clear e1
                    go_wp2_with (fail)
                    exact ⟨⟨i + 1, false, by omega, by go_num, rfl, hN, HBe, hbf.out⟩, by simp [intOf]; omega⟩
                · have hN : Hid (true = memF (ek, en) (F.take (i + 1))) := Lib.hid (by rw [hms.out, ← HB.out]; rfl)
                  go_wp2_with (fail)
                  exact ⟨⟨i + 1, true, by omega, by go_num, rfl, hN, HBe, hbf.out⟩, by simp [intOf]; omega⟩
              · obtain rfl : i = NF := by omega
                have hiI : ¬ (i : Int) < (i : Int) := by omega
                have hB : B = true := by rw [HB.out, List.take_of_length_le (by rw [hNF.out]; exact Nat.le_refl _)]; exact hmT.out
                subst hB
                have hbf := Lib.hid (Hbe.out.trans (hbi.mono Hbe.out.size))
                go_wp2_with (fail)
                exact ⟨⟨k + 1, by omega, by go_num, hbf.out⟩, by simp [intOf]; omega⟩
      · obtain rfl : k = NB := by omega
        have hkI : ¬ (k : Int) < (k : Int) := by omega
        have hbx : Below x w U1 := Hb8.out.trans (hbr.mono hx8)
        have hxU : x ≤ U1.heap.size := Nat.le_trans hx8 hbr.size
        have hAu := HA8.out.below hbr HA8.out.lt
        have x0 := hAu.cell 0
        have xl := hAu.lt
        simp only [List.getElem?_cons_zero] at x0
        obtain ⟨a9, c9, V9, hr9, ho9, hg9⟩ := run_appRl8 (n := 0) (a := none) (cap := 0) (row := []) U1 22 (World.ownsRow_nil U1 U1.heap.size 34 2) a cap rs (Hl.out U1 hbx) hrn.out (by rw [HL.out]; omega) (Nat.le_refl _)
        have hb9 : Below U1.heap.size U1 V9 := belowAt hg9 (fun i e => by cases e) (Nat.le_refl _)
        rw [List.nil_append] at ho9
        rw [Nat.zero_add] at hr9 ho9
        have HO9 : Hid (OwnR V9 U1.heap.size a9 c9 rs) := Lib.hid ho9
        rw [HL.out] at hr9
        have Hr9 := Lib.hid hr9
        have HAu := Lib.hid hAu
        clear hr9 ho9 hg9 hAu
        have hv9 := lit_vs V9 [.slice none 0 0] 25 (by simp)
        have hb10 := hb9.alloc hb9.size (.cells #[.slice none 0 0] 25)
        have HO10 := Lib.hid (show OwnR _ U1.heap.size a9 c9 rs from World.ownsRow.alloc HO9.out (.cells #[.slice none 0 0] 25))
        obtain ⟨p1, hp1⟩ : ∃ q, Hid (V9.heap.size = q) := ⟨_, Lib.hid rfl⟩
        rw [hp1.out] at hv9
        have HZ10 := Lib.hid (show Alts (V9.alloc (.cells #[.slice none 0 0] 25)) (some ⟨p1, 0, none⟩) 1 [⟨[], none, 0⟩] from ⟨hv9, fun d hd => by rw [List.mem_singleton] at hd; subst hd; exact Vs.nil _⟩)
        have HBz := Lib.hid (Blk.new V9 25 #[.slice none 0 0])
        rw [hp1.out] at HBz
        clear hv9
        go_wp2_with (at_builtin; refine wpList_append_run rfl _ _ 22 22 rfl _ _ _ _ rfl rfl Hr9.out ?_)
        rw [hp1.out]
        generalize hV : World.alloc V9 _ = W10 at hb10 HO10 HZ10 HBz ⊢
        clear hV x0 xl
        refine (rule_any8 qnB (some ⟨p1, 0, none⟩) 1 1 W10).mono ?_
        rintro e V11 ⟨rfl, hb11⟩
        have hbU := hb10.trans (hb11.mono hb10.size)
        have HO11 := World.ownsRow.kept HO10.out (below_grownBy hb11 none) (by cases e : (Value.slice a9 rs.length c9).ownBlock <;> simp)
        obtain ⟨z, hz⟩ : ∃ q : RlD, Hid ((⟨qnB, [⟨[], none, 0⟩], some ⟨p1, 0, none⟩, 1⟩ : RlD) = q) := ⟨_, Lib.hid rfl⟩
        have hzp : z.p = (qnB, [[]]) := by rw [← hz.out]; rfl
        obtain ⟨a12, c12, V12, hr12, ho12, hg12, _⟩ := OwnR.push8 HO11 z 22 (by rw [HL.out]; omega) hbU.size
        rw [HL.out, ← hz.out] at hr12
        dsimp only [List.length_singleton] at hr12
        have hb12 : Below U1.heap.size U1 V12 := hbU.trans (belowAt hg12 (fun g e => (own_typ HO11 g e).1) hbU.size)
        have hBz := (HBz.out.below hb11 HBz.out.lt).kept hg12 (fun h1 => own_ne_ty HO11 (HBz.out.below hb11 HBz.out.lt) (by decide) h1.symm)
        have hZ12 : Alts V12 z.a z.c z.ds := by
          rw [← hz.out]
          refine ⟨⟨Nat.le_refl _, (show (1 : Nat) ≤ 9223372036854775807 by omega), fun e => (by cases e), fun i _ => ⟨p1, 0, rfl⟩, fun b off e i hi => ?_⟩, fun d hd => by rw [List.mem_singleton] at hd; subst hd; exact Vs.nil _⟩
          cases e
          have hi0 : i = 0 := by simpa using hi
          subst hi0
          show V12.cell? ⟨p1, 0 + 0, none⟩ = some (.slice none 0 0)
          simpa using hBz.cell 0
        have hbV : Below x w V12 := hbx.trans (hb12.mono hxU)
        have hRl := rls_row8 ho12 (fun r hr => (List.mem_append.1 hr).elim (fun h => (Hl.out V12 hbV).alts r h) (fun h => by rw [List.mem_singleton] at h; rw [h]; exact hZ12))
        have hb13 : Below V12.heap.size V12 (V12.alloc (.cells #[.slice a12 (L + 1) c12] 24)) := (Below.refl _ V12).alloc (Nat.le_refl _) _
        have HR13 := Lib.hid (hRl.grown hb13)
        have HH13 := Lib.hid (Blk.new V12 24 #[.slice a12 (L + 1) c12])
        have HA13 := Lib.hid ((HAu.out.below hb12 HAu.out.lt).below hb13 (HAu.out.below hb12 HAu.out.lt).lt)
        have Hb13 := Lib.hid (hbV.trans (hb13.mono (Nat.le_trans hxU hb12.size)))
        have hx13 := Nat.le_trans (Nat.le_trans hxU hb12.size) hb13.size
        have HF13 := Lib.hid (HOf.out.kept (below_grownBy (Hr8.out.trans ((hbr.trans (hb12.mono hbr.size)).trans (hb13.mono (hbr.trans (hb12.mono hbr.size)).size) |>.mono Hr8.out.size)) none) (by cases e : (Value.slice fa F.length fc).ownBlock <;> simp))
        obtain ⟨h, hh⟩ : ∃ q, Hid (V12.heap.size = q) := ⟨_, Lib.hid rfl⟩
        rw [hh.out] at HH13
        have Hr12 := Lib.hid hr12
        have x0 := HA13.out.cell 0
        have xl := HA13.out.lt
        simp only [List.getElem?_cons_zero] at x0
        clear hr12 ho12 hg12 hb12 hBz hZ12 hRl hb13 hbU hb10 hb11 hbx hb9 hbV
        go_wp2_with (at_builtin; refine wpList_append_run rfl _ _ 22 22 rfl _ _ _ _ rfl rfl Hr12.out ?_)
        rw [hh.out]
        generalize hV : World.alloc V12 _ = V13 at HR13 HH13 HA13 Hb13 hx13 HF13 x0 xl ⊢
        clear hV
        refine (G4.out _ Hb13.out).mono ?_
        rintro e V14 ⟨a14, c14, rfl, ho14, hb14⟩
        have HO14 : Hid (OwnS V14 V13.heap.size L a14 c14 NM) := Lib.hid ho14
        have Hb14 := Lib.hid (Hb13.out.trans (hb14.mono hx13))
        obtain ⟨a15, c15, V15, hr15, ho15, hb15⟩ := HO14.out.app ta tc ts (Ht.out V14 Hb14.out) 25 (by rw [HM.out]; omega) hb14.size
        rw [HM.out] at hr15 ho15
        have hb1315 : Below V13.heap.size V13 V15 := hb14.trans hb15
        have HR15 := Lib.hid (HR13.out.grown hb1315)
        have HH15 := Lib.hid (HH13.out.below hb1315 HH13.out.lt)
        have HA15 := Lib.hid (HA13.out.below hb1315 HA13.out.lt)
        have HF15 := Lib.hid (HF13.out.kept (below_grownBy hb1315 none) (by cases e : (Value.slice fa F.length fc).ownBlock <;> simp))
        have Hb15 := Lib.hid (Hb13.out.trans (hb1315.mono hx13))
        have hx15 := Nat.le_trans hx13 hb1315.size
        have HN15 := Lib.hid (show Nms V15 a15 c15 (NM ++ ts) from own_vs ho15)
        obtain ⟨LM, hLM⟩ : ∃ q, Hid (L + M = q) := ⟨_, Lib.hid rfl⟩
        have hLl : Hid ((NM ++ ts).length = LM) := Lib.hid (by rw [List.length_append, hNl.out, HM.out, hLM.out])
        rw [hLM.out] at hr15
        have hlm15 : LM ≤ c15 ∧ c15 ≤ 9223372036854775807 := ⟨by have := HN15.out.le; rwa [List.length_map, hLl.out] at this, HN15.out.max⟩
        have Hr15 := Lib.hid hr15
        clear hr15 ho15 hb14 hb15 hb1315 HO14 Hb14 HR13 HH13 HA13 HF13 Hb13 hx13 x0 xl
        go_wp2_with (at_builtin; refine wpList_append_run rfl _ _ 25 25 rfl _ _ _ _ rfl rfl Hr15.out ?_)
        go_loopw [88] (fun iv wr => ∃ k : Nat, k ≤ LM ∧ iv = .int .i64 (k : Int) ∧ Hid (∀ n ∈ (NM ++ ts).take k, n ≠ qnB) ∧ wr = V15) (fun iv _ => LM - (intOf iv).toNat)
        case atStart => exact ⟨0, Nat.zero_le _, rfl, Lib.hid (fun n h => by cases h), rfl⟩
        case round =>
          obtain ⟨k, hk, rfl, HQ, hwr⟩ := hrel
          subst hwr
          obtain ⟨V15, rfl⟩ : ∃ U, U = wr := ⟨_, rfl⟩
          by_cases hlt : k < LM
          · have hkI : (k : Int) < (LM : Int) := by omega
            have hkI0 : (0 : Int) ≤ (k : Int) := by omega
            have hkl : k < (NM ++ ts).length := by rw [hLl.out]; exact hlt
            obtain ⟨b, off, rfl⟩ := HN15.out.at_ k (by rw [List.length_map]; exact hkl)
            have c0 := HN15.out.cell b off rfl k (by rw [List.length_map]; exact hkl)
            rw [List.getElem_map] at c0
            have htk : Hid ((NM ++ ts).take (k + 1) = (NM ++ ts).take k ++ [(NM ++ ts)[k]]) := Lib.hid (by rw [List.take_add_one, List.getElem?_eq_getElem hkl]; rfl)
            obtain ⟨e, he⟩ : ∃ v, Hid ((NM ++ ts)[k] = v) := ⟨_, Lib.hid rfl⟩
            rw [he.out] at c0 htk
            have hbl := World.block_lt_of_cell? _ _ c0
            by_cases hq : e = qnB
            · have e3 := qn_yes hq
              clear hq
              go_wp2_with (fail)
              exact bodyPost_ret (v := .bool true) (by simp [results, Try.results3, go_sem]; try first | rfl | assumption | omega) rfl ⟨rfl, Hb15.out⟩
            · have e3 := qn_no hq
              have HQ2 : Hid (∀ n ∈ (NM ++ ts).take (k + 1), n ≠ qnB) := Lib.hid (fun n h => by
                rw [htk.out, List.mem_append, List.mem_singleton] at h
                exact h.elim (HQ.out n) (fun e => e ▸ hq))
              go_wp2_with (fail)
              exact ⟨⟨k + 1, by omega, by go_num, HQ2, by first | rfl | trivial⟩, by simp [intOf]; omega⟩
          · have hke : k = LM := by omega
            have hkI : ¬ (k : Int) < (LM : Int) := by omega
            have HQa : Hid (∀ n ∈ NM ++ ts, n ≠ qnB) := Lib.hid (fun n h => HQ.out n (by rw [List.take_of_length_le (by rw [hLl.out, hke]; exact Nat.le_refl _)]; exact h))
            have HL15 := Lib.hid (Hl.out V15 Hb15.out)
            have hlw5 := HL15.out.le
            rw [HL.out] at hlw5
            clear HQ hke
            have x0 := HA15.out.cell 0
            have xl := HA15.out.lt
            simp only [List.getElem?_cons_zero] at x0
            go_wp2_with (fail)
            clear x0 xl
            go_loopw [99] (fun iv wr => ∃ i : Nat, i ≤ L ∧ iv = .int .i64 (i : Int) ∧ Hid (∀ r ∈ rs.take i, ∀ d ∈ r.ds, ∀ n ∈ d.l, n ≠ qnB) ∧ Below V15.heap.size V15 wr) (fun iv _ => L - (intOf iv).toNat)
            case atStart => exact ⟨0, Nat.zero_le _, rfl, Lib.hid (fun n h => by cases h), Below.refl _ V15⟩
            case round =>
              clear hkI
              obtain ⟨i, hi, rfl, HI, hbr⟩ := hrel
              obtain ⟨U2, rfl⟩ : ∃ U, U = wr := ⟨_, rfl⟩
              by_cases hlt2 : i < L
              · have hiI : (i : Int) < (L : Int) := by omega
                have hiI0 : (0 : Int) ≤ (i : Int) := by omega
                have hil : i < rs.length := by rw [HL.out]; exact hlt2
                have hlw := HL15.out.grown hbr
                obtain ⟨b, off, hab⟩ := hlw.at_ i hil
                obtain ⟨c0, c1⟩ := hlw.cell b off hab i hil
                subst hab
                have hm : rs[i] ∈ rs := List.getElem_mem hil
                have htk : Hid (rs.take (i + 1) = rs.take i ++ [rs[i]]) := Lib.hid (by rw [List.take_add_one, List.getElem?_eq_getElem hil]; rfl)
                have hal := Lib.hid (HL15.out.alts _ hm)
                obtain ⟨e, he⟩ : ∃ v, Hid (rs[i] = v) := ⟨_, Lib.hid rfl⟩
                rw [he.out] at c0 c1 htk hal
                have hbl := World.block_lt_of_cell? _ _ c0
                have hB0 := Blk.new U2 34 #[.string e.n, .slice e.a e.ds.length e.c]
                have hb1 : Below V15.heap.size V15 (U2.alloc (.cells #[.string e.n, .slice e.a e.ds.length e.c] 34)) := hbr.alloc hbr.size _
                have hem : e.ds.length ≤ e.c ∧ e.c ≤ 9223372036854775807 := ⟨by have := hal.out.row.le; rw [List.length_map] at this; exact this, hal.out.row.max⟩
                obtain ⟨M2, HM2⟩ : ∃ M, Hid (e.ds.length = M) := ⟨_, Lib.hid rfl⟩
                rw [HM2.out] at hB0 hb1 c1 hem
                have y1 := hB0.cell 1
                have yl := hB0.lt
                simp only [List.getElem?_cons_zero, List.getElem?_cons_succ] at y1
                clear hm hB0 hlw
                go_wp2_with (fail)
                generalize hV : World.alloc U2 _ = V2 at y1 yl hb1 ⊢
                clear hV y1 yl
                go_loopw [106] (fun iv wr => ∃ j : Nat, j ≤ M2 ∧ iv = .int .i64 (j : Int) ∧ Hid (∀ d ∈ e.ds.take j, ∀ n ∈ d.l, n ≠ qnB) ∧ Below V15.heap.size V15 wr) (fun iv _ => M2 - (intOf iv).toNat)
                case atStart => exact ⟨0, Nat.zero_le _, rfl, Lib.hid (fun n h => by cases h), hb1⟩
                case round =>
                  clear c0 c1 hbl hb1
                  obtain ⟨j, hj, rfl, HJ, hbr2⟩ := hrel
                  obtain ⟨U3, rfl⟩ : ∃ U, U = wr := ⟨_, rfl⟩
                  by_cases hjt : j < M2
                  · have hjI : (j : Int) < (M2 : Int) := by omega
                    have hjI0 : (0 : Int) ≤ (j : Int) := by omega
                    have hjl : j < e.ds.length := by rw [HM2.out]; exact hjt
                    obtain ⟨eb, eo, hea⟩ := hal.out.row.at_ j (by rw [List.length_map]; exact hjl)
                    have c2 := (hal.out.grown hbr2).row.cell eb eo hea j (by rw [List.length_map]; exact hjl)
                    rw [List.getElem_map, altv] at c2
                    have hdm : e.ds[j] ∈ e.ds := List.getElem_mem hjl
                    have htk2 : Hid (e.ds.take (j + 1) = e.ds.take j ++ [e.ds[j]]) := Lib.hid (by rw [List.take_add_one, List.getElem?_eq_getElem hjl]; rfl)
                    have hnm := Lib.hid (hal.out.nms _ hdm)
                    obtain ⟨d, hd⟩ : ∃ v, Hid (e.ds[j] = v) := ⟨_, Lib.hid rfl⟩
                    rw [hd.out] at c2 htk2 hnm
                    have hbl2 := World.block_lt_of_cell? _ _ c2
                    obtain ⟨N, HN⟩ : ∃ M, Hid (d.l.length = M) := ⟨_, Lib.hid rfl⟩
                    have hem2 : N ≤ d.c ∧ d.c ≤ 9223372036854775807 := ⟨by have := hnm.out.le; rwa [List.length_map, HN.out] at this, hnm.out.max⟩
                    rw [HN.out] at c2
                    clear hdm
                    rw [hea] at *
                    go_wp2_with (fail)
                    go_loopw [112] (fun iv wr => ∃ u : Nat, u ≤ N ∧ iv = .int .i64 (u : Int) ∧ Hid (∀ n ∈ d.l.take u, n ≠ qnB) ∧ Below V15.heap.size V15 wr) (fun iv _ => N - (intOf iv).toNat)
                    case atStart => exact ⟨0, Nat.zero_le _, rfl, Lib.hid (fun n h => by cases h), hbr2⟩
                    case round =>
                      clear c2 hbl2
                      obtain ⟨u, hu, rfl, HU, hbr3⟩ := hrel
                      obtain ⟨U4, rfl⟩ : ∃ U, U = wr := ⟨_, rfl⟩
                      by_cases hut : u < N
                      · have huI : (u : Int) < (N : Int) := by omega
                        have huI0 : (0 : Int) ≤ (u : Int) := by omega
                        have hul : u < d.l.length := by rw [HN.out]; exact hut
                        obtain ⟨nb, no, hna⟩ := hnm.out.at_ u (by rw [List.length_map]; exact hul)
                        have c3 := (hnm.out.grown hbr3).cell nb no hna u (by rw [List.length_map]; exact hul)
                        rw [List.getElem_map] at c3
                        have htk3 : Hid (d.l.take (u + 1) = d.l.take u ++ [d.l[u]]) := Lib.hid (by rw [List.take_add_one, List.getElem?_eq_getElem hul]; rfl)
                        obtain ⟨s, hs⟩ : ∃ v, Hid (d.l[u] = v) := ⟨_, Lib.hid rfl⟩
                        rw [hs.out] at c3 htk3
                        have hbl3 := World.block_lt_of_cell? _ _ c3
                        rw [hna] at *
                        by_cases hq : s = qnB
                        · have e3 := qn_yes hq
                          have hbf := Lib.hid (Hb15.out.trans (hbr3.mono hx15))
                          clear hq
                          go_wp2_with (fail)
                          exact bodyPost_ret (v := .bool true) (by simp [results, Try.results3, go_sem]; try first | rfl | assumption | omega) rfl ⟨rfl, hbf.out⟩
                        · have e3 := qn_no hq
                          have HU2 : Hid (∀ n ∈ d.l.take (u + 1), n ≠ qnB) := Lib.hid (fun n h => by
                            rw [htk3.out, List.mem_append, List.mem_singleton] at h
                            exact h.elim (HU.out n) (fun e => e ▸ hq))
                          clear hq
                          go_wp2_with (fail)
                          exact ⟨⟨u + 1, by omega, by go_num, HU2, hbr3⟩, by simp [intOf]; omega⟩
                      · have hue : u = N := by omega
                        have huI : ¬ (u : Int) < (N : Int) := by omega
                        have HJ2 : Hid (∀ d ∈ e.ds.take (j + 1), ∀ n ∈ d.l, n ≠ qnB) := Lib.hid (fun d' h => by
                          rw [htk2.out, List.mem_append, List.mem_singleton] at h
                          refine h.elim (HJ.out d') (fun e' => ?_)
                          subst e'
                          have h5 := HU.out
                          rwa [List.take_of_length_le (by rw [HN.out, hue]; exact Nat.le_refl _)] at h5)
                        clear hue
                        go_wp2_with (fail)
                        exact ⟨⟨j + 1, by omega, by go_num, HJ2, hbr3⟩, by simp [intOf]; omega⟩
                  · have hje : j = M2 := by omega
                    have hjI : ¬ (j : Int) < (M2 : Int) := by omega
                    have HI2 : Hid (∀ r ∈ rs.take (i + 1), ∀ d ∈ r.ds, ∀ n ∈ d.l, n ≠ qnB) := Lib.hid (fun r h => by
                      rw [htk.out, List.mem_append, List.mem_singleton] at h
                      refine h.elim (HI.out r) (fun e' => ?_)
                      subst e'
                      have h5 := HJ.out
                      rwa [List.take_of_length_le (by rw [HM2.out, hje]; exact Nat.le_refl _)] at h5)
                    clear hje
                    go_wp2_with (fail)
                    exact ⟨⟨i + 1, by omega, by go_num, HI2, hbr2⟩, by simp [intOf]; omega⟩
              · have hie : i = L := by omega
                have hiI : ¬ (i : Int) < (L : Int) := by omega
                have HIa : Hid (∀ r ∈ rs, ∀ d ∈ r.ds, ∀ n ∈ d.l, n ≠ qnB) := Lib.hid (by
                  have h5 := HI.out
                  rwa [List.take_of_length_le (by rw [HL.out, hie]; exact Nat.le_refl _)] at h5)
                have hzl : (rs ++ [z]).length = L + 1 := by rw [List.length_append, HL.out]; rfl
                have hOz := hOne.out hrn.out (fun n h => HQa.out n (List.mem_append_left _ h)) (fun n h => HQa.out n (List.mem_append_right _ h)) HIa.out z hzp
                have hbU := Hb15.out.trans (hbr.mono hx15)
                have hcz := G3.out z hzp U2 hbU a12 c12 (HR15.out.grown hbr)
                rw [hzl, hOz] at hcz
                have Hcz := Lib.hid hcz
                have HHu := Lib.hid (HH15.out.below hbr HH15.out.lt)
                have HFu := Lib.hid (HF15.out.kept (below_grownBy hbr none) (by cases e : (Value.slice fa F.length fc).ownBlock <;> simp))
                have HbU := Lib.hid hbU
                have hxU2 := Nat.le_trans hx15 hbr.size
                have y0 := HHu.out.cell 0
                have yl := HHu.out.lt
                simp only [List.getElem?_cons_zero] at y0
                clear hcz hOz hbU hbr hie HI hzl
                go_wp2_with (fail)
                refine Hcz.out.mono ?_
                rintro e16 V16 ⟨qa, qc, rfl, hoq, hb16⟩
                have HFq := Lib.hid (own_fls hoq)
                have HF16 := Lib.hid (HFu.out.kept (below_grownBy hb16 none) (by cases e : (Value.slice fa F.length fc).ownBlock <;> simp))
                have Hb16 := Lib.hid (HbU.out.trans (hb16.mono hxU2))
                have hx16 := Nat.le_trans hxU2 hb16.size
                obtain ⟨a17, c17, V17, hr17, ho17, hb17⟩ := run_appFl9 V16 28 HF16.out (by rw [hNF.out]; exact hFn)
                rw [hNF.out] at hr17
                have hNF1 : NF + 1 ≤ 1099511627780 := by omega
                have ho17' : V17.ownsRow V16.heap.size 31 2 (.slice a17 NF c17) NF (F.flatMap flC) := by rw [← hNF.out]; exact ho17
                obtain ⟨a18, c18, V18, hr18, ho18, hg18⟩ := run_pushV V17 28 28 31 _ 2 24 Try.underlying28 info_flaw rfl (by decide) (by decide) [.int .i64 4, .string qnB] rfl (by simp [Value.oneCell']) ho17' hNF1 hb17.size
                have hF1 : (F ++ [(4, qnB)]).length = NF + 1 := by rw [List.length_append, hNF.out]; rfl
                have hOF18 : OwnF V18 V16.heap.size a18 c18 (F ++ [(4, qnB)]) := by unfold OwnF; rw [hF1, flC_snoc]; exact ho18
                have hb18 : Below V16.heap.size V16 V18 := hb17.trans (belowAt hg18 (fun g e => (own_typ ho17' g e).1) hb17.size)
                have hsame := sameFlaws_any qa a18 qc c18 (F ++ [(4, qnB)]) (F ++ [(4, qnB)]) V18 (HFq.out.grown hb18) (own_fls hOF18)
                rw [decide_eq_true (rfl : F ++ [(4, qnB)] = F ++ [(4, qnB)]), hF1] at hsame
                have Hsame := Lib.hid hsame
                have Hr17 := Lib.hid hr17
                have Hr18 := Lib.hid hr18
                have Hb18 := Lib.hid (Hb16.out.trans (hb18.mono hx16))
                have hx18 := Nat.le_trans hx16 hb18.size
                rw [hF1]
                clear hoq hb16 hr17 ho17 hb17 ho17' hr18 ho18 hg18 hOF18 hb18 hsame hF1 y0 yl Hcz
                go_wp2_with (first | (at_builtin; refine wpList_append_runW (by rfl) _ _ 28 28 rfl _ _ _ _ rfl rfl Hr17.out ?_) | (at_builtin; refine wpList_append_runW (by rfl) _ _ 28 28 rfl _ _ _ _ rfl rfl Hr18.out ?_))
                refine Hsame.out.mono ?_
                rintro e19 V19 ⟨rfl, hb19⟩
                have hbf := Lib.hid (Hb18.out.trans (hb19.mono hx18))
                clear hb19
                go_wp2_with (fail)
                exact bodyPost_ret (v := .bool true) (by simp [results, Try.results3, go_sem]; try first | rfl | assumption | omega) rfl ⟨rfl, hbf.out⟩
  ·
    go_simp
    refine hK.out _ _ ?_ (fun hHeld => ?_)
    · exact by simpa using (HA4.out.alloc _).cell 0
    clear hK K
    try simp only [Act.put, List.setIfInBounds_toArray, List.set_cons_zero, List.set_cons_succ]
    refine wpAnyH_ready (rs := [2]) (by kernel_rfl) (by simp) ?_
    refine AllReadyH.cons (iatLS (iatSS (iatSS iatZS))) (fun K hK => ?_) AllReadyH.nil
    have HMa := Lib.hid (lit_vs w4 [.string mo] 9 (by simp))
    have HAa := Lib.hid (HA4.out.alloc (.cells #[.string mo] 9))
    have Hba := Lib.hid (Hb4.out.alloc hx4 (.cells #[.string mo] 9))
    have hxa : x ≤ (World.alloc w4 (.cells #[.string mo] 9)).heap.size := Nat.le_trans hx4 (by simp [go_sem])
    have Hra := Lib.hid ((Below.refl _ w4).alloc (Nat.le_refl _) (.cells #[.string mo] 9))
    obtain ⟨q, hq⟩ : ∃ q, Hid (w4.heap.size = q) := ⟨_, Lib.hid rfl⟩
    rw [hq.out] at HMa ⊢
    generalize hW : World.alloc w4 _ = Va at HMa HAa Hba hxa Hra ⊢
    clear hW
    have HAd := Lib.hid (show Blk Va.drew x 24 [.slice a L cap] from HAa.out)
    have Hbd := Lib.hid (Hba.out.drew)
    have hxd : x ≤ Va.drew.heap.size := hxa
    have Hrd := Lib.hid (Hra.out.drew)
    have HMd := Lib.hid (HMa.out.grown ((Below.refl _ Va).drew))
    obtain ⟨a5, c5, V5, hr5, ho5, hb5⟩ := Hap.out Va.drew Hbd.out
    rw [List.nil_append] at ho5
    have HO5 := Lib.hid ho5
    have HA5 := Lib.hid (HAd.out.below hb5 HAd.out.lt)
    have HS5 : Hid (V5.cell? ⟨x, 0, none⟩ = some (.slice a L cap)) := Lib.hid (by simpa using HA5.out.cell 0)
    have Hb5 := Lib.hid (Hbd.out.trans (hb5.mono hxd))
    have hx5 := Nat.le_trans hxd hb5.size
    have Hr5 : Hid (Below w4.heap.size w4 V5) := Lib.hid (Hrd.out.trans (hb5.mono Hrd.out.size))
    have HM5 := Lib.hid (HMd.out.grown hb5)
    have hbs0 : Va.drew.heap.size ≤ V5.heap.size := hb5.size
    clear ho5 hb5
    refine stepAppS rfl _ _ 25 25 rfl _ _ _ _ rfl rfl hr5 ?_
    clear hr5
    refine hK.out _ _ ?_ (fun hHeld => ?_)
    · exact HS5.out
    clear hK K
    try simp only [Act.put, List.setIfInBounds_toArray, List.set_cons_zero, List.set_cons_succ]
    refine wpAnyH_ready (rs := [5]) (by kernel_rfl) (by simp) ?_
    refine AllReadyH.cons (iatLS (iatSS (iatSS (iatSS (iatSS (iatSS iatZS)))))) (fun K hK => ?_) AllReadyH.nil
    have Hr6 := Hr5
    have HO6 := HO5
    have HMo := HM5
    have hbs : Va.drew.heap.size ≤ V5.heap.size := hbs0
    have hbs4 : w4.heap.size ≤ Va.drew.heap.size := Hra.out.size
    obtain ⟨a7, c7, V7, hr7, ho7, hb7⟩ := OwnS.app HO6.out (some ⟨q, 0, none⟩) 1 [mo] HMo.out 25 (by rw [List.length_singleton]; omega) hbs
    rw [List.length_singleton] at hr7 ho7
    have Hr7 : Hid (Below w4.heap.size w4 V7) := Lib.hid (Hr6.out.trans (hb7.mono hbs4))
    have HA7 := Lib.hid (HA4.out.below Hr7.out HA4.out.lt)
    have HS7 : Hid (V7.cell? ⟨x, 0, none⟩ = some (.slice a L cap)) := Lib.hid (by simpa using HA7.out.cell 0)
    have Hb7 := Lib.hid (Hb4.out.trans (Hr7.out.mono hx4))
    have HN7 := Lib.hid (show Nms V7 a7 c7 (ts ++ [mo]) from own_vs ho7)
    clear ho7 hb7
    refine stepAppS rfl _ _ 25 25 rfl _ _ _ _ rfl rfl hr7 ?_
    clear hr7
    refine hK.out _ _ ?_ (fun hHeld => ?_)
    · exact HS7.out
    clear hK K
    try simp only [Act.put, List.setIfInBounds_toArray, List.set_cons_zero, List.set_cons_succ]
    refine wpAnyH_ready (rs := [6]) (by kernel_rfl) (by simp) ?_
    refine AllReadyH.cons (iatLS (iatSS (iatSS (iatSS (iatSS (iatSS (iatSS iatZS))))))) (fun K hK => ?_) AllReadyH.nil
    go_simp
    (with_reducible refine (G2.out _ Hb7.out a7 c7 HN7.out).mono ?_)
    rintro e8 V8 ⟨ba, bc, rfl, hob, hb8⟩
    have HFb := Lib.hid (own_fls hob)
    have Hr8 : Hid (Below w4.heap.size w4 V8) := Lib.hid (Hr7.out.trans (hb8.mono Hr7.out.size))
    have HA8 := Lib.hid (HA4.out.below Hr8.out HA4.out.lt)
    have HS8 : Hid (V8.cell? ⟨x, 0, none⟩ = some (.slice a L cap)) := Lib.hid (by simpa using HA8.out.cell 0)
    have Hb8 := Lib.hid (Hb4.out.trans (Hr8.out.mono hx4))
    clear hob hb8
    try dsimp only
    refine hK.out _ _ ?_ (fun hHeld => ?_)
    · exact HS8.out
    clear hK K
    try simp only [Act.put, List.setIfInBounds_toArray, List.set_cons_zero, List.set_cons_succ]
    refine wpAnyH_ready (rs := [7]) (by kernel_rfl) (by simp) ?_
    refine AllReadyH.cons (iatLS (iatSS (iatSS (iatSS (iatSS (iatSS (iatSS (iatSS iatZS)))))))) (fun K hK => ?_) AllReadyH.nil
    go_simp
    refine hK.out _ _ ?_ (fun hHeld => ?_)
    · exact HS8.out
    clear hK K
    try simp only [Act.put, List.setIfInBounds_toArray, List.set_cons_zero, List.set_cons_succ]
    refine wpAnyH_done (by kernel_rfl) ?_ _
    obtain ⟨NB, hNB⟩ : ∃ q, Hid (F2.length = q) := ⟨_, Lib.hid rfl⟩
    rw [hNB.out]
    have HFa8 := Lib.hid (HFa.out.grown Hr8.out)
    have hx8 : x ≤ V8.heap.size := Nat.le_trans hx4 Hr8.out.size
    have hbm : NB ≤ bc ∧ bc ≤ 9223372036854775807 := ⟨by have := HFb.out.le; rwa [hNB.out] at this, HFb.out.max⟩
    have ham : NF ≤ fc ∧ fc ≤ 9223372036854775807 := ⟨by have := HFa8.out.le; rwa [hNF.out] at this, HFa8.out.max⟩
    go_wp2_with (fail)
    go_loopw [47] (fun iv wr => ∃ k : Nat, k ≤ NB ∧ iv = .int .i64 (k : Int) ∧ Below V8.heap.size V8 wr) (fun iv _ => NB - (intOf iv).toNat)
    case atStart => exact ⟨0, Nat.zero_le _, rfl, Below.refl _ V8⟩
    case round =>
      obtain ⟨k, hk, rfl, hbr⟩ := hrel
      obtain ⟨U1, rfl⟩ : ∃ U, U = wr := ⟨_, rfl⟩
      by_cases hlt : k < NB
      · have hkI : (k : Int) < (NB : Int) := by omega
        have hkI0 : (0 : Int) ≤ (k : Int) := by omega
        have hkl : k < F2.length := by rw [hNB.out]; exact hlt
        have hFw := HFb.out.grown hbr
        obtain ⟨b, off, rfl⟩ := hFw.at_ k hkl
        obtain ⟨c0, c1⟩ := hFw.cell b off rfl k hkl
        have hmr := hMr.out _ (List.getElem_mem hkl)
        obtain ⟨e, he⟩ : ∃ v, Hid (F2[k] = v) := ⟨_, Lib.hid rfl⟩
        rw [he.out] at c0 c1 hmr
        obtain ⟨ek, en⟩ := e
        dsimp only at c0 c1 hmr
        have hbl := World.block_lt_of_cell? _ _ c0
        have hBx := Blk.new U1 31 #[.int .i64 ek, .string en]
        have hgV : Below U1.heap.size U1 (U1.alloc (.cells #[.int .i64 ek, .string en] 31)) := (Below.refl _ U1).alloc (Nat.le_refl _) _
        have hbe := hbr.trans (hgV.mono hbr.size)
        have y0 := hBx.cell 0
        have y1 := hBx.cell 1
        have yl := hBx.lt
        simp only [List.getElem?_cons_zero, List.getElem?_cons_succ] at y0 y1
        clear hFw
        by_cases h2 : ek = 2 ∨ ek = 3
        case neg =>
          have n2b : (ek != 2) = true := by rw [bne_iff_ne]; exact fun h => h2 (.inl h)
          have n3b : (ek != 3) = true := by rw [bne_iff_ne]; exact fun h => h2 (.inr h)
          clear hBx h2
          go_wp2_with (fail)
          exact ⟨⟨k + 1, by omega, by go_num, hbe⟩, by simp [intOf]; omega⟩
        case pos =>
          have hmT : Hid (memF (ek, en) F = true) := Lib.hid (memF_iff.2 (hmr h2))
          have hd : (ek != 2) = false ∨ ((ek != 2) = true ∧ (ek != 3) = false) := by
            rcases h2 with h | h
            · exact .inl (by rw [h]; rfl)
            · exact .inr ⟨by rw [h]; rfl, by rw [h]; rfl⟩
          clear h2 hmr
          have HBx := Lib.hid hBx
          have HFc := Lib.hid (HFa8.out.grown hbe)
          have Hbe := Lib.hid hbe
          clear hBx hgV hbe
          obtain ⟨y, hy⟩ : ∃ q, Hid (U1.heap.size = q) := ⟨_, Lib.hid rfl⟩
          rw [hy.out] at HBx
          rcases hd with m2 | ⟨m2, m3⟩
          all_goals
            go_wp2_with (fail)
            try rw [hy.out]
            generalize hV : World.alloc U1 _ = V9 at HBx HFc Hbe ⊢
            clear hV y0 y1 yl c0 c1 hbl
            go_loopw [12, 61] (fun s iv wr => ∃ (i : Nat) (B : Bool), i ≤ NF ∧ iv = .int .i64 (i : Int) ∧ s = .bool B ∧ Hid (B = memF (ek, en) (F.take i)) ∧ Hid (Blk wr y 31 [.int .i64 ek, .string en]) ∧ Below V9.heap.size V9 wr) (fun _ iv _ => NF - (intOf iv).toNat)
            case atStart => exact ⟨0, false, Nat.zero_le _, rfl, rfl, Lib.hid rfl, HBx, Below.refl _ V9⟩
            case round =>
              clear HBx
              obtain ⟨i, B, hi, rfl, rfl, HB, HBx, hbi⟩ := hrel
              by_cases hlt2 : i < NF
              · have hiI : (i : Int) < (NF : Int) := by omega
                have hiI0 : (0 : Int) ≤ (i : Int) := by omega
                have hil : i < F.length := by rw [hNF.out]; exact hlt2
                have hFw := HFc.out.grown hbi
                obtain ⟨b2, o2, rfl⟩ := hFw.at_ i hil
                obtain ⟨d0, d1⟩ := hFw.cell b2 o2 rfl i hil
                have htk : Hid (F.take (i + 1) = F.take i ++ [F[i]]) := Lib.hid (by rw [List.take_add_one, List.getElem?_eq_getElem hil]; rfl)
                obtain ⟨g, hg⟩ : ∃ v, Hid (F[i] = v) := ⟨_, Lib.hid rfl⟩
                rw [hg.out] at d0 d1 htk
                obtain ⟨gk, gn⟩ := g
                dsimp only at d0 d1
                have hms : Hid (memF (ek, en) (F.take (i + 1)) = (memF (ek, en) (F.take i) || decide ((gk, gn) = (ek, en)))) := Lib.hid (by rw [htk.out]; simp [memF])
                have hbl2 := World.block_lt_of_cell? wr _ d0
                have hB2 := Blk.new wr 31 #[.int .i64 gk, .string gn]
                have hgW : Below wr.heap.size wr (wr.alloc (.cells #[.int .i64 gk, .string gn] 31)) := (Below.refl _ wr).alloc (Nat.le_refl _) _
                have z0 := hB2.cell 0
                have z1 := hB2.cell 1
                have zl := hB2.lt
                have y0 := HBx.out.cell 0
                have y1 := HBx.out.cell 1
                have yl := HBx.out.lt
                simp only [List.getElem?_cons_zero, List.getElem?_cons_succ] at z0 z1 y0 y1
                have hbf := Lib.hid (hbi.trans (hgW.mono hbi.size))
                have HBe := Lib.hid (HBx.out.below hgW HBx.out.lt)
                clear hFw hB2 hgW htk
                cases B
                · by_cases e1 : gk = ek
                  · by_cases e2 : gn = en
                    · have e1b : (gk == ek) = true := by rw [beq_iff_eq]; exact e1
                      have e3 : (gn.toList == en.toList) = true := by rw [e2]; exact beq_self_eq_true _
                      have hN : Hid (true = memF (ek, en) (F.take (i + 1))) := Lib.hid (by rw [hms.out, e1, e2]; simp)
                      clear e1 e2
                      go_wp2_with (fail)
                      exact ⟨⟨i + 1, true, by omega, by go_num, rfl, hN, HBe, hbf.out⟩, by simp [intOf]; omega⟩
                    · have e1b : (gk == ek) = true := by rw [beq_iff_eq]; exact e1
                      have e3 : (gn.toList == en.toList) = false := str_ne e2
                      have hN : Hid (false = memF (ek, en) (F.take (i + 1))) := Lib.hid (by rw [hms.out, ← HB.out, decide_eq_false (fun h => e2 (by injection h))]; rfl)
                      clear e1 e2
                      go_wp2_with (fail)
                      exact ⟨⟨i + 1, false, by omega, by go_num, rfl, hN, HBe, hbf.out⟩, by simp [intOf]; omega⟩
                  · have e1b : (gk == ek) = false := by rw [beq_eq_false_iff_ne]; exact e1
                    have hN : Hid (false = memF (ek, en) (F.take (i + 1))) := Lib.hid (by rw [hms.out, ← HB.out, decide_eq_false (fun h => e1 (by injection h))]; rfl)
                    clear e1
                    go_wp2_with (fail)
                    exact ⟨⟨i + 1, false, by omega, by go_num, rfl, hN, HBe, hbf.out⟩, by simp [intOf]; omega⟩
                · have hN : Hid (true = memF (ek, en) (F.take (i + 1))) := Lib.hid (by rw [hms.out, ← HB.out]; rfl)
                  go_wp2_with (fail)
                  exact ⟨⟨i + 1, true, by omega, by go_num, rfl, hN, HBe, hbf.out⟩, by simp [intOf]; omega⟩
              · obtain rfl : i = NF := by omega
                have hiI : ¬ (i : Int) < (i : Int) := by omega
                have hB : B = true := by rw [HB.out, List.take_of_length_le (by rw [hNF.out]; exact Nat.le_refl _)]; exact hmT.out
                subst hB
                have hbf := Lib.hid (Hbe.out.trans (hbi.mono Hbe.out.size))
                go_wp2_with (fail)
                exact ⟨⟨k + 1, by omega, by go_num, hbf.out⟩, by simp [intOf]; omega⟩
      · obtain rfl : k = NB := by omega
        have hkI : ¬ (k : Int) < (k : Int) := by omega
        have hbx : Below x w U1 := Hb8.out.trans (hbr.mono hx8)
        have hxU : x ≤ U1.heap.size := Nat.le_trans hx8 hbr.size
        have hAu := HA8.out.below hbr HA8.out.lt
        have x0 := hAu.cell 0
        have xl := hAu.lt
        simp only [List.getElem?_cons_zero] at x0
        obtain ⟨a9, c9, V9, hr9, ho9, hg9⟩ := run_appRl8 (n := 0) (a := none) (cap := 0) (row := []) U1 22 (World.ownsRow_nil U1 U1.heap.size 34 2) a cap rs (Hl.out U1 hbx) hrn.out (by rw [HL.out]; omega) (Nat.le_refl _)
        have hb9 : Below U1.heap.size U1 V9 := belowAt hg9 (fun i e => by cases e) (Nat.le_refl _)
        rw [List.nil_append] at ho9
        rw [Nat.zero_add] at hr9 ho9
        have HO9 : Hid (OwnR V9 U1.heap.size a9 c9 rs) := Lib.hid ho9
        rw [HL.out] at hr9
        have Hr9 := Lib.hid hr9
        have HAu := Lib.hid hAu
        clear hr9 ho9 hg9 hAu
        have hv9 := lit_vs V9 [.slice none 0 0] 25 (by simp)
        have hb10 := hb9.alloc hb9.size (.cells #[.slice none 0 0] 25)
        have HO10 := Lib.hid (show OwnR _ U1.heap.size a9 c9 rs from World.ownsRow.alloc HO9.out (.cells #[.slice none 0 0] 25))
        obtain ⟨p1, hp1⟩ : ∃ q, Hid (V9.heap.size = q) := ⟨_, Lib.hid rfl⟩
        rw [hp1.out] at hv9
        have HZ10 := Lib.hid (show Alts (V9.alloc (.cells #[.slice none 0 0] 25)) (some ⟨p1, 0, none⟩) 1 [⟨[], none, 0⟩] from ⟨hv9, fun d hd => by rw [List.mem_singleton] at hd; subst hd; exact Vs.nil _⟩)
        have HBz := Lib.hid (Blk.new V9 25 #[.slice none 0 0])
        rw [hp1.out] at HBz
        clear hv9
        go_wp2_with (at_builtin; refine wpList_append_run rfl _ _ 22 22 rfl _ _ _ _ rfl rfl Hr9.out ?_)
        rw [hp1.out]
        generalize hV : World.alloc V9 _ = W10 at hb10 HO10 HZ10 HBz ⊢
        clear hV x0 xl
        refine (rule_any8 qnB (some ⟨p1, 0, none⟩) 1 1 W10).mono ?_
        rintro e V11 ⟨rfl, hb11⟩
        have hbU := hb10.trans (hb11.mono hb10.size)
        have HO11 := World.ownsRow.kept HO10.out (below_grownBy hb11 none) (by cases e : (Value.slice a9 rs.length c9).ownBlock <;> simp)
        obtain ⟨z, hz⟩ : ∃ q : RlD, Hid ((⟨qnB, [⟨[], none, 0⟩], some ⟨p1, 0, none⟩, 1⟩ : RlD) = q) := ⟨_, Lib.hid rfl⟩
        have hzp : z.p = (qnB, [[]]) := by rw [← hz.out]; rfl
        obtain ⟨a12, c12, V12, hr12, ho12, hg12, _⟩ := OwnR.push8 HO11 z 22 (by rw [HL.out]; omega) hbU.size
        rw [HL.out, ← hz.out] at hr12
        dsimp only [List.length_singleton] at hr12
        have hb12 : Below U1.heap.size U1 V12 := hbU.trans (belowAt hg12 (fun g e => (own_typ HO11 g e).1) hbU.size)
        have hBz := (HBz.out.below hb11 HBz.out.lt).kept hg12 (fun h1 => own_ne_ty HO11 (HBz.out.below hb11 HBz.out.lt) (by decide) h1.symm)
        have hZ12 : Alts V12 z.a z.c z.ds := by
          rw [← hz.out]
          refine ⟨⟨Nat.le_refl _, (show (1 : Nat) ≤ 9223372036854775807 by omega), fun e => (by cases e), fun i _ => ⟨p1, 0, rfl⟩, fun b off e i hi => ?_⟩, fun d hd => by rw [List.mem_singleton] at hd; subst hd; exact Vs.nil _⟩
          cases e
          have hi0 : i = 0 := by simpa using hi
          subst hi0
          show V12.cell? ⟨p1, 0 + 0, none⟩ = some (.slice none 0 0)
          simpa using hBz.cell 0
        have hbV : Below x w V12 := hbx.trans (hb12.mono hxU)
        have hRl := rls_row8 ho12 (fun r hr => (List.mem_append.1 hr).elim (fun h => (Hl.out V12 hbV).alts r h) (fun h => by rw [List.mem_singleton] at h; rw [h]; exact hZ12))
        have hb13 : Below V12.heap.size V12 (V12.alloc (.cells #[.slice a12 (L + 1) c12] 24)) := (Below.refl _ V12).alloc (Nat.le_refl _) _
        have HR13 := Lib.hid (hRl.grown hb13)
        have HH13 := Lib.hid (Blk.new V12 24 #[.slice a12 (L + 1) c12])
        have HA13 := Lib.hid ((HAu.out.below hb12 HAu.out.lt).below hb13 (HAu.out.below hb12 HAu.out.lt).lt)
        have Hb13 := Lib.hid (hbV.trans (hb13.mono (Nat.le_trans hxU hb12.size)))
        have hx13 := Nat.le_trans (Nat.le_trans hxU hb12.size) hb13.size
        have HF13 := Lib.hid (HOf.out.kept (below_grownBy (Hr8.out.trans ((hbr.trans (hb12.mono hbr.size)).trans (hb13.mono (hbr.trans (hb12.mono hbr.size)).size) |>.mono Hr8.out.size)) none) (by cases e : (Value.slice fa F.length fc).ownBlock <;> simp))
        obtain ⟨h, hh⟩ : ∃ q, Hid (V12.heap.size = q) := ⟨_, Lib.hid rfl⟩
        rw [hh.out] at HH13
        have Hr12 := Lib.hid hr12
        have x0 := HA13.out.cell 0
        have xl := HA13.out.lt
        simp only [List.getElem?_cons_zero] at x0
        clear hr12 ho12 hg12 hb12 hBz hZ12 hRl hb13 hbU hb10 hb11 hbx hb9 hbV
        go_wp2_with (at_builtin; refine wpList_append_run rfl _ _ 22 22 rfl _ _ _ _ rfl rfl Hr12.out ?_)
        rw [hh.out]
        generalize hV : World.alloc V12 _ = V13 at HR13 HH13 HA13 Hb13 hx13 HF13 x0 xl ⊢
        clear hV
        refine (G4.out _ Hb13.out).mono ?_
        rintro e V14 ⟨a14, c14, rfl, ho14, hb14⟩
        have HO14 : Hid (OwnS V14 V13.heap.size L a14 c14 NM) := Lib.hid ho14
        have Hb14 := Lib.hid (Hb13.out.trans (hb14.mono hx13))
        obtain ⟨a15, c15, V15, hr15, ho15, hb15⟩ := HO14.out.app ta tc ts (Ht.out V14 Hb14.out) 25 (by rw [HM.out]; omega) hb14.size
        rw [HM.out] at hr15 ho15
        have hb1315 : Below V13.heap.size V13 V15 := hb14.trans hb15
        have HR15 := Lib.hid (HR13.out.grown hb1315)
        have HH15 := Lib.hid (HH13.out.below hb1315 HH13.out.lt)
        have HA15 := Lib.hid (HA13.out.below hb1315 HA13.out.lt)
        have HF15 := Lib.hid (HF13.out.kept (below_grownBy hb1315 none) (by cases e : (Value.slice fa F.length fc).ownBlock <;> simp))
        have Hb15 := Lib.hid (Hb13.out.trans (hb1315.mono hx13))
        have hx15 := Nat.le_trans hx13 hb1315.size
        have HN15 := Lib.hid (show Nms V15 a15 c15 (NM ++ ts) from own_vs ho15)
        obtain ⟨LM, hLM⟩ : ∃ q, Hid (L + M = q) := ⟨_, Lib.hid rfl⟩
        have hLl : Hid ((NM ++ ts).length = LM) := Lib.hid (by rw [List.length_append, hNl.out, HM.out, hLM.out])
        rw [hLM.out] at hr15
        have hlm15 : LM ≤ c15 ∧ c15 ≤ 9223372036854775807 := ⟨by have := HN15.out.le; rwa [List.length_map, hLl.out] at this, HN15.out.max⟩
        have Hr15 := Lib.hid hr15
        clear hr15 ho15 hb14 hb15 hb1315 HO14 Hb14 HR13 HH13 HA13 HF13 Hb13 hx13 x0 xl
        go_wp2_with (at_builtin; refine wpList_append_run rfl _ _ 25 25 rfl _ _ _ _ rfl rfl Hr15.out ?_)
        go_loopw [88] (fun iv wr => ∃ k : Nat, k ≤ LM ∧ iv = .int .i64 (k : Int) ∧ Hid (∀ n ∈ (NM ++ ts).take k, n ≠ qnB) ∧ wr = V15) (fun iv _ => LM - (intOf iv).toNat)
        case atStart => exact ⟨0, Nat.zero_le _, rfl, Lib.hid (fun n h => by cases h), rfl⟩
        case round =>
          obtain ⟨k, hk, rfl, HQ, hwr⟩ := hrel
          subst hwr
          obtain ⟨V15, rfl⟩ : ∃ U, U = wr := ⟨_, rfl⟩
          by_cases hlt : k < LM
          · have hkI : (k : Int) < (LM : Int) := by omega
            have hkI0 : (0 : Int) ≤ (k : Int) := by omega
            have hkl : k < (NM ++ ts).length := by rw [hLl.out]; exact hlt
            obtain ⟨b, off, rfl⟩ := HN15.out.at_ k (by rw [List.length_map]; exact hkl)
            have c0 := HN15.out.cell b off rfl k (by rw [List.length_map]; exact hkl)
            rw [List.getElem_map] at c0
            have htk : Hid ((NM ++ ts).take (k + 1) = (NM ++ ts).take k ++ [(NM ++ ts)[k]]) := Lib.hid (by rw [List.take_add_one, List.getElem?_eq_getElem hkl]; rfl)
            obtain ⟨e, he⟩ : ∃ v, Hid ((NM ++ ts)[k] = v) := ⟨_, Lib.hid rfl⟩
            rw [he.out] at c0 htk
            have hbl := World.block_lt_of_cell? _ _ c0
            by_cases hq : e = qnB
            · have e3 := qn_yes hq
              clear hq
              go_wp2_with (fail)
              exact bodyPost_ret (v := .bool true) (by simp [results, Try.results3, go_sem]; try first | rfl | assumption | omega) rfl ⟨rfl, Hb15.out⟩
            · have e3 := qn_no hq
              have HQ2 : Hid (∀ n ∈ (NM ++ ts).take (k + 1), n ≠ qnB) := Lib.hid (fun n h => by
                rw [htk.out, List.mem_append, List.mem_singleton] at h
                exact h.elim (HQ.out n) (fun e => e ▸ hq))
              go_wp2_with (fail)
              exact ⟨⟨k + 1, by omega, by go_num, HQ2, by first | rfl | trivial⟩, by simp [intOf]; omega⟩
          · have hke : k = LM := by omega
            have hkI : ¬ (k : Int) < (LM : Int) := by omega
            have HQa : Hid (∀ n ∈ NM ++ ts, n ≠ qnB) := Lib.hid (fun n h => HQ.out n (by rw [List.take_of_length_le (by rw [hLl.out, hke]; exact Nat.le_refl _)]; exact h))
            have HL15 := Lib.hid (Hl.out V15 Hb15.out)
            have hlw5 := HL15.out.le
            rw [HL.out] at hlw5
            clear HQ hke
            have x0 := HA15.out.cell 0
            have xl := HA15.out.lt
            simp only [List.getElem?_cons_zero] at x0
            go_wp2_with (fail)
            clear x0 xl
            go_loopw [99] (fun iv wr => ∃ i : Nat, i ≤ L ∧ iv = .int .i64 (i : Int) ∧ Hid (∀ r ∈ rs.take i, ∀ d ∈ r.ds, ∀ n ∈ d.l, n ≠ qnB) ∧ Below V15.heap.size V15 wr) (fun iv _ => L - (intOf iv).toNat)
            case atStart => exact ⟨0, Nat.zero_le _, rfl, Lib.hid (fun n h => by cases h), Below.refl _ V15⟩
            case round =>
              clear hkI
              obtain ⟨i, hi, rfl, HI, hbr⟩ := hrel
              obtain ⟨U2, rfl⟩ : ∃ U, U = wr := ⟨_, rfl⟩
              by_cases hlt2 : i < L
              · have hiI : (i : Int) < (L : Int) := by omega
                have hiI0 : (0 : Int) ≤ (i : Int) := by omega
                have hil : i < rs.length := by rw [HL.out]; exact hlt2
                have hlw := HL15.out.grown hbr
                obtain ⟨b, off, hab⟩ := hlw.at_ i hil
                obtain ⟨c0, c1⟩ := hlw.cell b off hab i hil
                subst hab
                have hm : rs[i] ∈ rs := List.getElem_mem hil
                have htk : Hid (rs.take (i + 1) = rs.take i ++ [rs[i]]) := Lib.hid (by rw [List.take_add_one, List.getElem?_eq_getElem hil]; rfl)
                have hal := Lib.hid (HL15.out.alts _ hm)
                obtain ⟨e, he⟩ : ∃ v, Hid (rs[i] = v) := ⟨_, Lib.hid rfl⟩
                rw [he.out] at c0 c1 htk hal
                have hbl := World.block_lt_of_cell? _ _ c0
                have hB0 := Blk.new U2 34 #[.string e.n, .slice e.a e.ds.length e.c]
                have hb1 : Below V15.heap.size V15 (U2.alloc (.cells #[.string e.n, .slice e.a e.ds.length e.c] 34)) := hbr.alloc hbr.size _
                have hem : e.ds.length ≤ e.c ∧ e.c ≤ 9223372036854775807 := ⟨by have := hal.out.row.le; rw [List.length_map] at this; exact this, hal.out.row.max⟩
                obtain ⟨M2, HM2⟩ : ∃ M, Hid (e.ds.length = M) := ⟨_, Lib.hid rfl⟩
                rw [HM2.out] at hB0 hb1 c1 hem
                have y1 := hB0.cell 1
                have yl := hB0.lt
                simp only [List.getElem?_cons_zero, List.getElem?_cons_succ] at y1
                clear hm hB0 hlw
                go_wp2_with (fail)
                generalize hV : World.alloc U2 _ = V2 at y1 yl hb1 ⊢
                clear hV y1 yl
                go_loopw [106] (fun iv wr => ∃ j : Nat, j ≤ M2 ∧ iv = .int .i64 (j : Int) ∧ Hid (∀ d ∈ e.ds.take j, ∀ n ∈ d.l, n ≠ qnB) ∧ Below V15.heap.size V15 wr) (fun iv _ => M2 - (intOf iv).toNat)
                case atStart => exact ⟨0, Nat.zero_le _, rfl, Lib.hid (fun n h => by cases h), hb1⟩
                case round =>
                  clear c0 c1 hbl hb1
                  obtain ⟨j, hj, rfl, HJ, hbr2⟩ := hrel
                  obtain ⟨U3, rfl⟩ : ∃ U, U = wr := ⟨_, rfl⟩
                  by_cases hjt : j < M2
                  · have hjI : (j : Int) < (M2 : Int) := by omega
                    have hjI0 : (0 : Int) ≤ (j : Int) := by omega
                    have hjl : j < e.ds.length := by rw [HM2.out]; exact hjt
                    obtain ⟨eb, eo, hea⟩ := hal.out.row.at_ j (by rw [List.length_map]; exact hjl)
                    have c2 := (hal.out.grown hbr2).row.cell eb eo hea j (by rw [List.length_map]; exact hjl)
                    rw [List.getElem_map, altv] at c2
                    have hdm : e.ds[j] ∈ e.ds := List.getElem_mem hjl
                    have htk2 : Hid (e.ds.take (j + 1) = e.ds.take j ++ [e.ds[j]]) := Lib.hid (by rw [List.take_add_one, List.getElem?_eq_getElem hjl]; rfl)
                    have hnm := Lib.hid (hal.out.nms _ hdm)
                    obtain ⟨d, hd⟩ : ∃ v, Hid (e.ds[j] = v) := ⟨_, Lib.hid rfl⟩
                    rw [hd.out] at c2 htk2 hnm
                    have hbl2 := World.block_lt_of_cell? _ _ c2
                    obtain ⟨N, HN⟩ : ∃ M, Hid (d.l.length = M) := ⟨_, Lib.hid rfl⟩
                    have hem2 : N ≤ d.c ∧ d.c ≤ 9223372036854775807 := ⟨by have := hnm.out.le; rwa [List.length_map, HN.out] at this, hnm.out.max⟩
                    rw [HN.out] at c2
                    clear hdm
                    rw [hea] at *
                    go_wp2_with (fail)
                    go_loopw [112] (fun iv wr => ∃ u : Nat, u ≤ N ∧ iv = .int .i64 (u : Int) ∧ Hid (∀ n ∈ d.l.take u, n ≠ qnB) ∧ Below V15.heap.size V15 wr) (fun iv _ => N - (intOf iv).toNat)
                    case atStart => exact ⟨0, Nat.zero_le _, rfl, Lib.hid (fun n h => by cases h), hbr2⟩
                    case round =>
                      clear c2 hbl2
                      obtain ⟨u, hu, rfl, HU, hbr3⟩ := hrel
                      obtain ⟨U4, rfl⟩ : ∃ U, U = wr := ⟨_, rfl⟩
                      by_cases hut : u < N
                      · have huI : (u : Int) < (N : Int) := by omega
                        have huI0 : (0 : Int) ≤ (u : Int) := by omega
                        have hul : u < d.l.length := by rw [HN.out]; exact hut
                        obtain ⟨nb, no, hna⟩ := hnm.out.at_ u (by rw [List.length_map]; exact hul)
                        have c3 := (hnm.out.grown hbr3).cell nb no hna u (by rw [List.length_map]; exact hul)
                        rw [List.getElem_map] at c3
                        have htk3 : Hid (d.l.take (u + 1) = d.l.take u ++ [d.l[u]]) := Lib.hid (by rw [List.take_add_one, List.getElem?_eq_getElem hul]; rfl)
                        obtain ⟨s, hs⟩ : ∃ v, Hid (d.l[u] = v) := ⟨_, Lib.hid rfl⟩
                        rw [hs.out] at c3 htk3
                        have hbl3 := World.block_lt_of_cell? _ _ c3
                        rw [hna] at *
                        by_cases hq : s = qnB
                        · have e3 := qn_yes hq
                          have hbf := Lib.hid (Hb15.out.trans (hbr3.mono hx15))
                          clear hq
                          go_wp2_with (fail)
                          exact bodyPost_ret (v := .bool true) (by simp [results, Try.results3, go_sem]; try first | rfl | assumption | omega) rfl ⟨rfl, hbf.out⟩
                        · have e3 := qn_no hq
                          have HU2 : Hid (∀ n ∈ d.l.take (u + 1), n ≠ qnB) := Lib.hid (fun n h => by
                            rw [htk3.out, List.mem_append, List.mem_singleton] at h
                            exact h.elim (HU.out n) (fun e => e ▸ hq))
                          clear hq
                          go_wp2_with (fail)
                          exact ⟨⟨u + 1, by omega, by go_num, HU2, hbr3⟩, by simp [intOf]; omega⟩
                      · have hue : u = N := by omega
                        have huI : ¬ (u : Int) < (N : Int) := by omega
                        have HJ2 : Hid (∀ d ∈ e.ds.take (j + 1), ∀ n ∈ d.l, n ≠ qnB) := Lib.hid (fun d' h => by
                          rw [htk2.out, List.mem_append, List.mem_singleton] at h
                          refine h.elim (HJ.out d') (fun e' => ?_)
                          subst e'
                          have h5 := HU.out
                          rwa [List.take_of_length_le (by rw [HN.out, hue]; exact Nat.le_refl _)] at h5)
                        clear hue
                        go_wp2_with (fail)
                        exact ⟨⟨j + 1, by omega, by go_num, HJ2, hbr3⟩, by simp [intOf]; omega⟩
                  · have hje : j = M2 := by omega
                    have hjI : ¬ (j : Int) < (M2 : Int) := by omega
                    have HI2 : Hid (∀ r ∈ rs.take (i + 1), ∀ d ∈ r.ds, ∀ n ∈ d.l, n ≠ qnB) := Lib.hid (fun r h => by
                      rw [htk.out, List.mem_append, List.mem_singleton] at h
                      refine h.elim (HI.out r) (fun e' => ?_)
                      subst e'
                      have h5 := HJ.out
                      rwa [List.take_of_length_le (by rw [HM2.out, hje]; exact Nat.le_refl _)] at h5)
                    clear hje
                    go_wp2_with (fail)
                    exact ⟨⟨i + 1, by omega, by go_num, HI2, hbr2⟩, by simp [intOf]; omega⟩
              · have hie : i = L := by omega
                have hiI : ¬ (i : Int) < (L : Int) := by omega
                have HIa : Hid (∀ r ∈ rs, ∀ d ∈ r.ds, ∀ n ∈ d.l, n ≠ qnB) := Lib.hid (by
                  have h5 := HI.out
                  rwa [List.take_of_length_le (by rw [HL.out, hie]; exact Nat.le_refl _)] at h5)
                have hzl : (rs ++ [z]).length = L + 1 := by rw [List.length_append, HL.out]; rfl
                have hOz := hOne.out hrn.out (fun n h => HQa.out n (List.mem_append_left _ h)) (fun n h => HQa.out n (List.mem_append_right _ h)) HIa.out z hzp
                have hbU := Hb15.out.trans (hbr.mono hx15)
                have hcz := G3.out z hzp U2 hbU a12 c12 (HR15.out.grown hbr)
                rw [hzl, hOz] at hcz
                have Hcz := Lib.hid hcz
                have HHu := Lib.hid (HH15.out.below hbr HH15.out.lt)
                have HFu := Lib.hid (HF15.out.kept (below_grownBy hbr none) (by cases e : (Value.slice fa F.length fc).ownBlock <;> simp))
                have HbU := Lib.hid hbU
                have hxU2 := Nat.le_trans hx15 hbr.size
                have y0 := HHu.out.cell 0
                have yl := HHu.out.lt
                simp only [List.getElem?_cons_zero] at y0
                clear hcz hOz hbU hbr hie HI hzl
                go_wp2_with (fail)
                refine Hcz.out.mono ?_
                rintro e16 V16 ⟨qa, qc, rfl, hoq, hb16⟩
                have HFq := Lib.hid (own_fls hoq)
                have HF16 := Lib.hid (HFu.out.kept (below_grownBy hb16 none) (by cases e : (Value.slice fa F.length fc).ownBlock <;> simp))
                have Hb16 := Lib.hid (HbU.out.trans (hb16.mono hxU2))
                have hx16 := Nat.le_trans hxU2 hb16.size
                obtain ⟨a17, c17, V17, hr17, ho17, hb17⟩ := run_appFl9 V16 28 HF16.out (by rw [hNF.out]; exact hFn)
                rw [hNF.out] at hr17
                have hNF1 : NF + 1 ≤ 1099511627780 := by omega
                have ho17' : V17.ownsRow V16.heap.size 31 2 (.slice a17 NF c17) NF (F.flatMap flC) := by rw [← hNF.out]; exact ho17
                obtain ⟨a18, c18, V18, hr18, ho18, hg18⟩ := run_pushV V17 28 28 31 _ 2 24 Try.underlying28 info_flaw rfl (by decide) (by decide) [.int .i64 4, .string qnB] rfl (by simp [Value.oneCell']) ho17' hNF1 hb17.size
                have hF1 : (F ++ [(4, qnB)]).length = NF + 1 := by rw [List.length_append, hNF.out]; rfl
                have hOF18 : OwnF V18 V16.heap.size a18 c18 (F ++ [(4, qnB)]) := by unfold OwnF; rw [hF1, flC_snoc]; exact ho18
                have hb18 : Below V16.heap.size V16 V18 := hb17.trans (belowAt hg18 (fun g e => (own_typ ho17' g e).1) hb17.size)
                have hsame := sameFlaws_any qa a18 qc c18 (F ++ [(4, qnB)]) (F ++ [(4, qnB)]) V18 (HFq.out.grown hb18) (own_fls hOF18)
                rw [decide_eq_true (rfl : F ++ [(4, qnB)] = F ++ [(4, qnB)]), hF1] at hsame
                have Hsame := Lib.hid hsame
                have Hr17 := Lib.hid hr17
                have Hr18 := Lib.hid hr18
                have Hb18 := Lib.hid (Hb16.out.trans (hb18.mono hx16))
                have hx18 := Nat.le_trans hx16 hb18.size
                rw [hF1]
                clear hoq hb16 hr17 ho17 hb17 ho17' hr18 ho18 hg18 hOF18 hb18 hsame hF1 y0 yl Hcz
                go_wp2_with (first | (at_builtin; refine wpList_append_runW (by rfl) _ _ 28 28 rfl _ _ _ _ rfl rfl Hr17.out ?_) | (at_builtin; refine wpList_append_runW (by rfl) _ _ 28 28 rfl _ _ _ _ rfl rfl Hr18.out ?_))
                refine Hsame.out.mono ?_
                rintro e19 V19 ⟨rfl, hb19⟩
                have hbf := Lib.hid (Hb18.out.trans (hb19.mono hx18))
                clear hb19
                go_wp2_with (fail)
                exact bodyPost_ret (v := .bool true) (by simp [results, Try.results3, go_sem]; try first | rfl | assumption | omega) rfl ⟨rfl, hbf.out⟩
end Go.Proofs.Ytiopbjgpaidemaa

