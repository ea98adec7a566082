/- The row CheckNumbers in its second form: for every grammar and tokens whose reading is of bulk at most 1048576: the law answers true and changes nothing that was there. -/
/- Texts joined: Kf PNb Kg Kh. -/
import Derived.Test.YteepcedokbjpdaaJAs
import Derived.Test.YteepcedokbjpdaaJAr
set_option linter.unusedVariables false
set_option linter.unusedSimpArgs false
namespace Go.Proofs.Yteepcedokbjpdaa
open Go.RowKit Go.Maps

attribute [local go_sem] Oper.semAt_some

set_option maxRecDepth 100000 in
set_option maxHeartbeats 4000000 in
theorem lawNumbers_any (rs : List RlD) (a : Option Addr) (cap : Nat) (ts : List ByteArray) (ta : Option Addr) (tc : Nat) (w : World) (hl : Rls w a cap rs) (ht : Nms w ta tc ts) (hf : FitG rs ts) (hfew : rs.length + ts.length + szR rs ≤ 1000000000000) :
    Calls Try.prog 4 #[.agg #[.slice a rs.length cap], .slice ta ts.length tc] w fun e w' => e = .returned (.bool true) ∧ Below w.heap.size w w' := by
  have hlm : rs.length ≤ cap ∧ cap ≤ 9223372036854775807 := ⟨hl.le, hl.max⟩
  have htm : ts.length ≤ tc ∧ tc ≤ 9223372036854775807 := ⟨by have := ht.le; rwa [List.length_map] at this, ht.max⟩
  have hA0 := Blk.new w 24 #[.slice a rs.length cap]
  have hb0 : Below w.heap.size w (w.alloc (.cells #[.slice a rs.length cap] 24)) := (Below.refl _ w).alloc (Nat.le_refl _) _
  have Hbig := Lib.hid (fun W (hb : Below w.heap.size w W) => big8_any rs a cap ts ta tc W (hl.grown hb) (ht.grown hb) hfew)
  have Hf1 := Lib.hid (fun (hs : rs.length + ts.length + szR rs ≤ 1000) W (hb : Below w.heap.size w W) => number_any rs a cap ts ta tc W (hl.grown hb) (ht.grown hb) hf hs)
  have Hf2 := Lib.hid (fun (hs : rs.length + ts.length + szR rs ≤ 1000) W (hb : Below w.heap.size w W) => refNumber_any rs a cap ts ta tc W (hl.grown hb) (ht.grown hb) hs)
  obtain ⟨Z, hZ⟩ : ∃ q, Hid (decide (600 < rs.length + ts.length + szR rs) = q) := ⟨_, Lib.hid rfl⟩
  have hZs : Hid (Z = false → rs.length + ts.length + szR rs ≤ 1000) := Lib.hid (fun h => by
    have h1 := hZ.out.trans h
    rw [decide_eq_false_iff_not] at h1
    omega)
  obtain ⟨NE, hNE⟩ : ∃ q, Hid (numE rs ts = q) := ⟨_, Lib.hid rfl⟩
  obtain ⟨C, hC⟩ : ∃ q, Hid (numC rs ts = q) := ⟨_, Lib.hid rfl⟩
  rw [hZ.out] at Hbig
  rw [hNE.out, hC.out] at Hf1 Hf2
  have Hg1 := Lib.hid (fun (h : Z = false) => Hf1.out (hZs.out h))
  have Hg2 := Lib.hid (fun (h : Z = false) => Hf2.out (hZs.out h))
  clear Hf1 Hf2 hZs hZ hC hNE
  obtain ⟨L, HL⟩ : ∃ q, Hid (rs.length = q) := ⟨_, Lib.hid rfl⟩
  obtain ⟨M, HM⟩ : ∃ q, Hid (ts.length = q) := ⟨_, Lib.hid rfl⟩
  rw [HL.out] at hlm hA0 hb0 Hbig Hg1 Hg2 ⊢
  rw [HM.out] at htm Hbig Hg1 Hg2 ⊢
  have Hbig' : Hid (∀ W, Below w.heap.size w W → Calls Try.prog 10 #[.agg #[.slice a L cap], .slice ta M tc] W fun r w' => r = .returned (.bool Z) ∧ Below W.heap.size W w') := Hbig
  have Hg1' : Hid (Z = false → ∀ W, Below w.heap.size w W → Calls Try.prog 14 #[.agg #[.slice a L cap], .slice ta M tc] W (NumQ W NE C)) := Hg1
  have Hg2' : Hid (Z = false → ∀ W, Below w.heap.size w W → Calls Try.prog 15 #[.agg #[.slice a L cap], .slice ta M tc] W (NumQ W NE C)) := Hg2
  obtain ⟨x, hx⟩ : ∃ q, Hid (w.heap.size = q) := ⟨_, Lib.hid rfl⟩
  rw [hx.out] at Hbig' Hg1' Hg2' hb0 hA0 ⊢
  have hxs : x ≤ (w.alloc (.cells #[.slice a L cap] 24)).heap.size := by rw [← hx.out]; simp [go_sem]
  clear Hbig Hg1 Hg2 hl ht hf hfew HL HM
  go_enter Try.func4, Try.ntmps4
  go_wp2_with (fail)
  rw [hx.out]
  generalize hV : World.alloc w _ = V at hA0 hb0 hxs ⊢
  clear hV
  refine (live8_any V).mono ?_
  rintro e w1 ⟨rfl, hb1⟩
  have HA1 := Lib.hid (hA0.below hb1 hA0.lt)
  have Hb1 := Lib.hid (hb0.trans (hb1.mono hxs))
  have hx1 := Nat.le_trans hxs hb1.size
  clear hA0 hb0 hb1 hxs
  have x0 := HA1.out.cell 0
  have xl := HA1.out.lt
  simp only [List.getElem?_cons_zero] at x0
  go_wp2_with (fail)
  refine (Hbig'.out _ Hb1.out).mono ?_
  rintro e w2 ⟨rfl, hb2⟩
  have HA2 := Lib.hid (HA1.out.below hb2 HA1.out.lt)
  have Hb2 := Lib.hid (Hb1.out.trans (hb2.mono hx1))
  have hx2 := Nat.le_trans hx1 hb2.size
  clear hb2 HA1 Hb1 hx1 x0 xl Hbig'
  cases Z
  case true =>
    clear Hg1' Hg2' HA2
    go_wp2_with (fail)
    exact bodyPost_ret (v := .bool true) (by simp [results, Try.results4, go_sem]; try first | rfl | assumption | omega) rfl ⟨rfl, Hb2.out⟩
  case false =>
  have G1 := Lib.hid (Hg1'.out rfl)
  have G2 := Lib.hid (Hg2'.out rfl)
  clear Hg1' Hg2'
  have x0 := HA2.out.cell 0
  have xl := HA2.out.lt
  simp only [List.getElem?_cons_zero] at x0
  go_wp2_with (fail)
  refine (G1.out _ Hb2.out).mono ?_
  rintro e w3 ⟨d, rfl, hd, hp, hb3⟩
  have HA3 := Lib.hid (HA2.out.below hb3 HA2.out.lt)
  have Hb3 := Lib.hid (Hb2.out.trans (hb3.mono hx2))
  have hx3 := Nat.le_trans hx2 hb3.size
  clear hb3 HA2 Hb2 hx2 x0 xl G1
  have hg4 : Below w3.heap.size w3 (w3.alloc (.cells #[.slice d.ta d.toks.length d.tc, .slice d.na d.names.length d.nc, .slice d.aa d.alts.length d.ac] 33)) := (Below.refl _ w3).alloc (Nat.le_refl _) _
  have HC4 := Lib.hid (Blk.new w3 33 #[.slice d.ta d.toks.length d.tc, .slice d.na d.names.length d.nc, .slice d.aa d.alts.length d.ac])
  have HD4 := Lib.hid (hd.grown hg4)
  have HA4 := Lib.hid (HA3.out.below hg4 HA3.out.lt)
  have Hb4 := Lib.hid (Hb3.out.trans (hg4.mono hx3))
  have hx4 := Nat.le_trans hx3 hg4.size
  have hcl : x < w3.heap.size := HA3.out.lt
  have Hp := Lib.hid hp
  obtain ⟨y, hy⟩ : ∃ q, Hid (w3.heap.size = q) := ⟨_, Lib.hid rfl⟩
  rw [hy.out] at HC4 hcl
  have x0 := HA4.out.cell 0
  have xl := HA4.out.lt
  simp only [List.getElem?_cons_zero] at x0
  clear hg4 hd hp HA3 Hb3 hx3
  go_wp2_with (fail)
  rw [hy.out]
  generalize hV : World.alloc w3 _ = W4 at HC4 HA4 HD4 Hb4 hx4 x0 xl ⊢
  clear hV x0 xl
  refine (G2.out _ Hb4.out).mono ?_
  rintro e w5 ⟨d2, rfl, hd2, hp2, hb5⟩
  have hg6 : Below w5.heap.size w5 (w5.alloc (.cells #[.slice d2.ta d2.toks.length d2.tc, .slice d2.na d2.names.length d2.nc, .slice d2.aa d2.alts.length d2.ac] 33)) := (Below.refl _ w5).alloc (Nat.le_refl _) _
  have hE6 := Blk.new w5 33 #[.slice d2.ta d2.toks.length d2.tc, .slice d2.na d2.names.length d2.nc, .slice d2.aa d2.alts.length d2.ac]
  have hb46 := hb5.trans (hg6.mono hb5.size)
  have hC6 := HC4.out.below hb46 HC4.out.lt
  have HD6 := HD4.out.grown hb46
  have Hb6 := Lib.hid (Hb4.out.trans (hb46.mono hx4))
  have hx6 := Nat.le_trans hx4 hb46.size
  have hEq : d.p = d2.p := Hp.out.trans hp2.symm
  have Hs6 := Lib.hid (same8_any d d2 _ HD6 (hd2.grown hg6))
  rw [decide_eq_true hEq] at Hs6
  have c0 := hC6.cell 0
  have c1 := hC6.cell 1
  have c2 := hC6.cell 2
  have cl := hC6.lt
  have e0 := hE6.cell 0
  have e1 := hE6.cell 1
  have e2 := hE6.cell 2
  have el := hE6.lt
  simp only [List.getElem?_cons_zero, List.getElem?_cons_succ] at c0 c1 c2 e0 e1 e2
  clear hg6 hE6 hb46 HC4 HA4 HD4 Hb4 hx4 hC6 HD6 hd2 hp2 Hp hEq hb5 G2
  go_wp2_with (fail)
  refine Hs6.out.mono ?_
  rintro e w7 ⟨rfl, hb7⟩
  have Hb7 := Lib.hid (Hb6.out.trans (hb7.mono hx6))
  clear hb7 c0 c1 c2 cl e0 e1 e2 el Hs6
  go_wp2_with (fail)
  exact bodyPost_ret (v := .bool true) (by simp [results, Try.results4, go_sem]; try first | rfl | assumption | omega) rfl ⟨rfl, Hb7.out⟩
end Go.Proofs.Yteepcedokbjpdaa

namespace Go.Proofs.Yteepcedokbjpdaa
open Go.ChangeShapes Go.WideShapes Go.ChangeAt Go.RowKit

set_option maxRecDepth 100000 in
theorem checkNumbers_contract (H : Type) (enc : TypeId × Value → H) (W : World) (args : Array Value) (ds gs : List (DataW H)) (before : List MemPlace)
    (hval : ∀ (j : Nat) t v, Try.f4.params[j]? = some t → args[j]? = some v → Value.okWide Try.prog W .any 0 t v)
    (hW : DataW.Whole enc Try.prog Try.f4.params.toList Rows.checkNumbersSpec.vars false W args.toList ds gs before) (hk : Rows.uptoSmall H (ds ++ gs) = true) :
    Calls Try.prog 4 args W fun e W' => ∃ v, e = .returned v ∧ Rows.checkNumbersSpec.post enc Try.prog Try.f4 false true false false W args v W' := by
  have hW' := hW
  obtain ⟨p, q, hA0, hV, rfl, hfz, hnd⟩ := hW
  have hA : DataW.TrodAll enc Try.prog W 0 (fun _ => true) true Try.f4.params.toList args.toList ds p := hA0
  rw [Try.params4] at hA hval
  obtain ⟨v0, v1, d0, d1, p0, p1, rfl, rfl, rfl, h0, h1⟩ := trodAll_two hA
  have hb : Rows.uptoBulkAll ([d0, d1] ++ gs) ≤ 1048576 := of_decide_eq_true hk
  simp only [List.cons_append, List.nil_append, Rows.uptoBulkAll] at hb
  obtain ⟨a, cap, l, rfl, hl, hf, hz⟩ := open_gram2 (hval 0 24 v0 rfl rfl) h0
  obtain ⟨ta, tc, ts, rfl, ht, hg, hy⟩ := open_toks2 (hval 1 25 v1 rfl rfl) h1
  refine (lawNumbers_any l a cap ts ta tc W hl ht ⟨hf.rules, hg, hf.alts⟩ (by omega)).mono fun e W' ⟨he, hw⟩ => ?_
  subst he
  exact ⟨_, rfl, law_post hW' rfl rfl (by kernel_rfl) (by rw [Try.params4]; intro t ht; simp at ht; rcases ht with rfl | rfl <;> exact ⟨by kernel_rfl, of_decide_eq_true (by kernel_rfl)⟩) hw⟩

set_option maxRecDepth 100000 in
theorem checkNumbers_lifted (os : Os) (started : os.Started) (H : Type) (enc : TypeId × Value → H) (F : Stop.Interp) :
    ReturnsInHanded {} Try.checked os 4 .any ((Rows.OpenSpec.upto Rows.checkNumbersSpec).pre6 enc Try.prog Try.f4 Rows.checkNumbersUptoRow.domain false) (((Rows.OpenSpec.upto Rows.checkNumbersSpec).at F).post enc Try.prog Try.f4 false true false false) := by
  refine returnsInHanded_of_cond (C := Try.checked) (s := Rows.OpenSpec.upto Rows.checkNumbersSpec) (k := Rows.uptoSmall) rfl Try.own started (by kernel_rfl) Try.func4
    (OpenSpec.witness (enc := enc) (C := Try.checked) (s := Rows.OpenSpec.upto Rows.checkNumbersSpec) (k := Rows.uptoSmall) rfl false ⟨#[], #[.agg #[.slice none 0 0], .slice none 0 0], []⟩ 8 (by kernel_rfl) (by kernel_rfl) (by kernel_rfl)
      (x := ([.agg [.nil], .nil], [], [])) (by kernel_rfl) rfl (by kernel_rfl)) ?_
  intro W base args ds gs before hval hW _ hk _
  exact checkNumbers_contract H enc W args ds gs before hval hW hk

theorem checkNumbers_holds : Rows.CheckNumbersUptoSaid :=
  OpenClaim.holds_of_cond 4 Try.f4 rfl rfl rfl rfl rfl rfl rfl ⟨rfl, rfl, rfl, rfl, rfl⟩ rfl rfl rfl rfl rfl (by kernel_rfl) Try.func4 (by kernel_rfl)
    (of_decide_eq_true (by kernel_rfl)) (by unfold Func.isWrapper; first | (rw [if_pos (by decide +kernel)]; kernel_rfl) | (rw [if_neg (by decide +kernel)]; exact ⟨rfl, rfl⟩))
    (fun os started H enc _ F => checkNumbers_lifted os started H enc F)
end Go.Proofs.Yteepcedokbjpdaa

namespace Go.Proofs.Yteepcedokbjpdaa
open Go.RowKit

theorem apart_inj {l : List ByteArray} (h : ∀ i (hi : i < l.length), l[i] ∉ l.take i) {i j : Nat} (hi : i < l.length) (hj : j < l.length) (e : l[i] = l[j]) : i = j := by
  have key : ∀ a b (ha : a < l.length) (hb : b < l.length), l[a] = l[b] → ¬ a < b := fun a b ha hb e hab => h b hb (by
    rw [← e]
    exact List.mem_iff_getElem.2 ⟨a, by rw [List.length_take]; omega, by rw [List.getElem_take]⟩)
  rcases Nat.lt_trichotomy i j with h1 | h1 | h1
  · exact absurd h1 (key i j hi hj e)
  · exact h1
  · exact absurd h1 (key j i hj hi e.symm)
theorem nm_rl {ts ns : List ByteArray} (a1 : ∀ i (hi : i < ts.length), ts[i] ∉ ts.take i) (a2 : ∀ i (hi : i < ns.length), ns[i] ∉ ts ∧ ns[i] ∉ ns.take i) {x : Int} (hx : okN ts.length ns.length x = true) :
    rlN ts ns ns.length (nmP ts ns x) = x := by
  obtain ⟨h1, h2⟩ := okN_iff.1 hx
  by_cases hneg : x < 0
  · obtain ⟨j, hj⟩ : ∃ j : Nat, (-1 - x).toNat = j := ⟨_, rfl⟩
    have hjl : j < ns.length := by omega
    have e : nmP ts ns x = ns[j] := by
      unfold nmP
      rw [if_pos hneg, hj, List.getD_eq_getElem?_getD, List.getElem?_eq_getElem hjl]
      rfl
    obtain ⟨j', hj', h3, h4⟩ := rlN_ok ts ns ns[j] ns.length (Nat.le_refl _) ⟨j, hjl, List.getElem?_eq_getElem hjl⟩
    obtain ⟨h5, h6⟩ := List.getElem?_eq_some_iff.1 h4
    have := apart_inj (fun i hi => (a2 i hi).2) h5 hjl h6
    rw [e, h3]
    omega
  · obtain ⟨j, hj⟩ : ∃ j : Nat, x.toNat = j := ⟨_, rfl⟩
    have hjl : j < ts.length := by omega
    have e : nmP ts ns x = ts[j] := by
      unfold nmP
      rw [if_neg hneg, hj, List.getD_eq_getElem?_getD, List.getElem?_eq_getElem hjl]
      rfl
    have hn : ts[j] ∉ ns := fun hm => by
      obtain ⟨i, hi, h3⟩ := List.getElem_of_mem hm
      exact (a2 i hi).1 (by rw [h3]; exact List.getElem_mem hjl)
    obtain ⟨j', hj', h3, h4⟩ := tkN_ok ts ts[j] ts.length (Nat.le_refl _) ⟨j, hjl, List.getElem?_eq_getElem hjl⟩
    obtain ⟨h5, h6⟩ := List.getElem?_eq_some_iff.1 h4
    have := apart_inj a1 h5 hjl h6
    rw [e, rlN_tk ts ns _ hn _ (Nat.le_refl _), h3]
    omega
theorem backR_fst (ts ns : List ByteArray) : ∀ (l : List ByteArray) (al : List (List (List Int))), l.length = al.length → (backR ts ns l al).map Prod.fst = l
  | [], [], _ => rfl
  | [], _ :: _, h => by simp at h
  | _ :: _, [], h => by simp at h
  | n :: l, a :: al, h => by
    have ih := backR_fst ts ns l al (by simpa using h)
    simp only [backR, List.map_cons, ih]
theorem backR_alts (ts ns : List ByteArray) (g : ByteArray → Int) : ∀ (l : List ByteArray) (al : List (List (List Int))), l.length = al.length → (∀ r ∈ al, ∀ a ∈ r, ∀ x ∈ a, g (nmP ts ns x) = x) → (backR ts ns l al).map (fun r => r.2.map (fun a => a.map g)) = al
  | [], [], _, _ => rfl
  | [], _ :: _, h, _ => by simp at h
  | _ :: _, [], h, _ => by simp at h
  | n :: l, a :: al, h, hg => by
    have ih := backR_alts ts ns g l al (by simpa using h) (fun r hr => hg r (List.mem_cons_of_mem _ hr))
    have h1 : (a.map (fun x => x.map (nmP ts ns))).map (fun x => x.map g) = a := by
      rw [List.map_map]
      refine (List.map_congr_left (fun x hx => ?_)).trans (List.map_id _)
      show (x.map (nmP ts ns)).map g = x
      rw [List.map_map]
      exact (List.map_congr_left (fun y hy => hg a (List.mem_cons_self ..) x hx y hy)).trans (List.map_id _)
    simp only [backR, List.map_cons, ih, h1]
/-- What is turned back, and may be, is numbered as it was. -/
theorem back_num {p : CfP} (hb : backE p = 0) (hn : numE (can (backG p)) p.toks = 0) : numC (can (backG p)) p.toks = p := by
  obtain ⟨ts, ns, al⟩ := p
  have hl : ns.length = al.length := by
    by_cases h : ns.length = al.length
    · exact h
    · exact absurd (show (1 : Int) = 0 from (if_neg h).symm.trans hb) (by decide)
  have ho : numsB ⟨ts, ns, al⟩ = true := by
    have hb2 : (if numsB ⟨ts, ns, al⟩ = true then (0 : Int) else 1) = 0 := (if_pos hl).symm.trans hb
    by_cases h : numsB ⟨ts, ns, al⟩ = true
    · exact h
    · exact absurd (show (1 : Int) = 0 from (if_neg h).symm.trans hb2) (by decide)
  have e1 : (can (backG ⟨ts, ns, al⟩)).map RlD.n = ns := by
    have h1 : (can (backG ⟨ts, ns, al⟩)).map RlD.n = (backG ⟨ts, ns, al⟩).map Prod.fst := by
      unfold can
      rw [List.map_map]
      rfl
    rw [h1]
    exact backR_fst ts ns ns al hl
  have e2 : (can (backG ⟨ts, ns, al⟩)).length = ns.length := by
    have := congrArg List.length e1
    rwa [List.length_map] at this
  obtain ⟨a1, a2⟩ := num_apart2 hn
  dsimp only at a1 a2
  simp only [e1] at a2
  unfold numC
  rw [e1, e2]
  congr 1
  have e3 : (can (backG ⟨ts, ns, al⟩)).map (fun r => r.ds.map (fun d => d.l.map (rlN ts ns ns.length))) = (backG ⟨ts, ns, al⟩).map (fun r => r.2.map (fun a => a.map (rlN ts ns ns.length))) := by
    unfold can
    rw [List.map_map]
    refine List.map_congr_left (fun r _ => ?_)
    show ((r.2.map (fun l => (⟨l, none, 0⟩ : AltD))).map (fun d => d.l.map (rlN ts ns ns.length))) = _
    rw [List.map_map]
    rfl
  refine e3.trans ?_
  refine backR_alts ts ns _ ns al hl (fun r hr a ha x hx => nm_rl a1 a2 ?_)
  unfold numsB at ho
  simp only [List.all_eq_true] at ho
  exact ho r hr a ha x hx
end Go.Proofs.Yteepcedokbjpdaa

namespace Go.Proofs.Yteepcedokbjpdaa
open Go.RowKit

attribute [local go_sem] Oper.semAt_some

/-- How great a rule by numbers is. -/
def szJ (r : List (List Int)) : Nat := r.length + (r.map List.length).sum
theorem szJ_take (r : List (List Int)) (i : Nat) (h : i < r.length) : szJ (r.take (i + 1)) = szJ (r.take i) + (1 + r[i].length) := by
  unfold szJ
  rw [List.take_add_one, List.getElem?_eq_getElem h, List.map_append, List.sum_append_nat, List.length_append]
  simp
  omega
theorem szJ_le (r : List (List Int)) (i : Nat) : szJ (r.take i) ≤ szJ r := by
  have h : szJ r = szJ (r.take i) + szJ (r.drop i) := by
    unfold szJ
    conv => lhs; rw [← List.take_append_drop i r]
    rw [List.map_append, List.sum_append_nat, List.length_append]
    omega
  omega
theorem szC_take (al : List (List (List Int))) (k : Nat) (h : k < al.length) : szC (al.take (k + 1)) = szC (al.take k) + szJ al[k] := by
  unfold szC szJ
  rw [List.take_add_one, List.getElem?_eq_getElem h, List.map_append, List.sum_append_nat]
  simp
theorem szC_le (al : List (List (List Int))) (k : Nat) : szC (al.take k) ≤ szC al := by
  have h : szC al = szC (al.take k) + szC (al.drop k) := by
    unfold szC
    conv => lhs; rw [← List.take_append_drop k al]
    rw [List.map_append, List.sum_append_nat]
  omega

set_option maxRecDepth 100000 in
set_option maxHeartbeats 4000000 in
theorem refFew_any (d : CfD) (w : World) (hd : CfAt w d) (hs : d.toks.length + d.names.length + szC (d.alts.map IrD.p) ≤ 1000000000000) :
    Calls Try.prog 17 #[d.v, .int .i64 600] w fun e w' => e = .returned (.bool (decide (d.toks.length + d.names.length + szC (d.alts.map IrD.p) ≤ 600))) ∧ Below w.heap.size w w' := by
  obtain ⟨toks, dta, dtc, names, dna, dnc, al, daa, dac⟩ := d
  dsimp only [CfD.v] at hs ⊢
  have hA0 := Blk.new w 33 #[.slice dta toks.length dtc, .slice dna names.length dnc, .slice daa al.length dac]
  have hb0 : Below w.heap.size w (w.alloc (.cells #[.slice dta toks.length dtc, .slice dna names.length dnc, .slice daa al.length dac] 33)) := (Below.refl _ w).alloc (Nat.le_refl _) _
  have hRow := Lib.hid (hd.alts.grown hb0)
  have hRul := Lib.hid (fun r hr => (hd.rules r hr).grown hb0)
  have ham : al.length ≤ dac ∧ dac ≤ 9223372036854775807 := ⟨by have := hd.alts.le; rwa [List.length_map] at this, hd.alts.max⟩
  obtain ⟨S, hS⟩ : ∃ q, Hid (szC (al.map IrD.p) = q) := ⟨_, Lib.hid rfl⟩
  obtain ⟨R, hR⟩ : ∃ R : Nat → Nat, Hid ((fun k => szC ((al.map IrD.p).take k)) = R) := ⟨_, Lib.hid rfl⟩
  have hR0 : Hid (R 0 = 0) := Lib.hid (by rw [← hR.out]; rfl)
  have hRl : Hid (∀ k, R k ≤ S) := Lib.hid (fun k => by rw [← hR.out, ← hS.out]; exact szC_le _ k)
  have hRe : Hid (R al.length = S) := Lib.hid (by rw [← hR.out, ← hS.out]; show szC (List.take al.length (al.map IrD.p)) = _; rw [List.take_of_length_le (by simp)])
  have hRs : Hid (∀ k (h : k < al.length), R (k + 1) = R k + szJ al[k].p) := Lib.hid (fun k h => by
    rw [← hR.out]
    have := szC_take (al.map IrD.p) k (by simpa using h)
    rw [List.getElem_map] at this
    exact this)
  rw [hS.out] at hs ⊢
  obtain ⟨M, hM⟩ : ∃ q, Hid (toks.length = q) := ⟨_, Lib.hid rfl⟩
  obtain ⟨N, hN⟩ : ∃ q, Hid (names.length = q) := ⟨_, Lib.hid rfl⟩
  obtain ⟨A, hA⟩ : ∃ q, Hid (al.length = q) := ⟨_, Lib.hid rfl⟩
  rw [hM.out, hN.out, hA.out] at hA0 hb0 hRow hRul ⊢
  rw [hM.out, hN.out] at hs
  rw [hA.out] at ham hRe
  obtain ⟨B, hB⟩ : ∃ q, Hid (decide (M + N + S ≤ 600) = q) := ⟨_, Lib.hid rfl⟩
  rw [hB.out]
  have y0 := hA0.cell 0
  have y1 := hA0.cell 1
  have y2 := hA0.cell 2
  have yl := hA0.lt
  simp only [List.getElem?_cons_zero, List.getElem?_cons_succ] at y0 y1 y2
  clear hd hA0
  go_enter Try.func17, Try.ntmps17
  go_wp2_with (fail)
  generalize hV : World.alloc w _ = W at hRow hRul hb0 y0 y1 y2 yl ⊢
  clear hV y0 y1 y2 yl
  go_loopw [5, 20] (fun s iv wr => ∃ (k n : Nat), k ≤ A ∧ iv = .int .i64 (k : Int) ∧ s = .int .i64 (n : Int) ∧ Hid (n = M + N + R k) ∧ wr = W) (fun _ iv _ => A - (intOf iv).toNat)
  case atStart => exact ⟨0, M + N, Nat.zero_le _, rfl, by go_num, Lib.hid (by rw [hR0.out]; rfl), rfl⟩
  case round =>
    obtain ⟨k, n, hk, rfl, rfl, Hn, hwr⟩ := hrel
    subst hwr
    have hnl : n ≤ 1000000000000 := by have := Hn.out; have := hRl.out k; omega
    by_cases hlt : k < A
    · have hkI : (k : Int) < (A : Int) := by omega
      have hkI0 : (0 : Int) ≤ (k : Int) := by omega
      have hka : k < al.length := by rw [hA.out]; exact hlt
      obtain ⟨b2, o2, rfl⟩ := hRow.out.at_ k (by rw [List.length_map]; exact hka)
      have d0 := hRow.out.cell b2 o2 rfl k (by rw [List.length_map]; exact hka)
      rw [List.getElem_map] at d0
      have hIq := hRul.out _ (List.getElem_mem hka)
      have hst := hRs.out k hka
      obtain ⟨q, hq⟩ : ∃ v, Hid (al[k] = v) := ⟨_, Lib.hid rfl⟩
      rw [hq.out] at d0 hIq hst
      unfold IrD.v at d0
      obtain ⟨qds, qa, qc⟩ := q
      dsimp only at d0 hIq hst
      obtain ⟨E, hE⟩ : ∃ q, Hid (qds.length = q) := ⟨_, Lib.hid rfl⟩
      rw [hE.out] at d0
      have hem : E ≤ qc ∧ qc ≤ 9223372036854775807 := ⟨by have := hIq.row.le; rwa [List.length_map, hE.out] at this, hIq.row.max⟩
      obtain ⟨J, hJ⟩ : ∃ J : Nat → Nat, Hid ((fun j => n + szJ ((IrD.p ⟨qds, qa, qc⟩).take j)) = J) := ⟨_, Lib.hid rfl⟩
      have hJ0 : Hid (J 0 = n) := Lib.hid (by rw [← hJ.out]; rfl)
      have hpl : (IrD.p ⟨qds, qa, qc⟩).length = qds.length := by unfold IrD.p; simp
      have hJe : Hid (J E = M + N + R (k + 1)) := Lib.hid (by rw [← hJ.out]; show n + szJ (List.take E (IrD.p ⟨qds, qa, qc⟩)) = _; rw [List.take_of_length_le (by rw [hpl, hE.out]; exact Nat.le_refl _), hst, Hn.out]; omega)
      have hJl : Hid (∀ j, J j ≤ M + N + S) := Lib.hid (fun j => by
        have h1 := szJ_le (IrD.p ⟨qds, qa, qc⟩) j
        have h2 := hRl.out (k + 1)
        have h3 := Hn.out
        rw [← hJ.out]
        show n + szJ ((IrD.p ⟨qds, qa, qc⟩).take j) ≤ _
        omega)
      have hJs : Hid (∀ j (h : j < qds.length), J (j + 1) = J j + (1 + qds[j].l.length)) := Lib.hid (fun j h => by
        rw [← hJ.out]
        have h1 := szJ_take (IrD.p ⟨qds, qa, qc⟩) j (by rw [hpl]; exact h)
        have h2 : (IrD.p ⟨qds, qa, qc⟩)[j]'(by rw [hpl]; exact h) = qds[j].l := by simp [IrD.p]
        rw [h2] at h1
        show n + szJ ((IrD.p ⟨qds, qa, qc⟩).take (j + 1)) = n + szJ ((IrD.p ⟨qds, qa, qc⟩).take j) + (1 + qds[j].l.length)
        omega)
      have HI := Lib.hid hIq
      have hbl := World.block_lt_of_cell? _ _ d0
      clear hIq hst hpl
      go_wp2_with (fail)
      clear d0 hbl
      obtain ⟨W8, rfl⟩ : ∃ W8, W8 = wr := ⟨_, rfl⟩
      go_loopw [5, 26] (fun s iv wr => ∃ (j m : Nat), j ≤ E ∧ iv = .int .i64 (j : Int) ∧ s = .int .i64 (m : Int) ∧ Hid (m = J j) ∧ wr = W8) (fun _ iv _ => E - (intOf iv).toNat)
      case atStart => exact ⟨0, n, Nat.zero_le _, rfl, rfl, Lib.hid hJ0.out.symm, rfl⟩
      case round =>
        obtain ⟨j, m, hj, rfl, rfl, Hm, hwr⟩ := hrel
        subst hwr
        have hml : m ≤ 1000000000000 := by have := Hm.out; have := hJl.out j; omega
        by_cases hlt2 : j < E
        · have hjI : (j : Int) < (E : Int) := by omega
          have hjI0 : (0 : Int) ≤ (j : Int) := by omega
          have hje : j < qds.length := by rw [hE.out]; exact hlt2
          obtain ⟨b4, o4, rfl⟩ := HI.out.row.at_ j (by rw [List.length_map]; exact hje)
          have f0 := HI.out.row.cell b4 o4 rfl j (by rw [List.length_map]; exact hje)
          rw [List.getElem_map] at f0
          have hst := hJs.out j hje
          have hjb := hJl.out (j + 1)
          unfold IltD.v at f0
          obtain ⟨u, hu⟩ : ∃ q, Hid (qds[j].l.length = q) := ⟨_, Lib.hid rfl⟩
          rw [hu.out] at f0 hst
          generalize qds[j].a = ua at f0
          generalize qds[j].c = uc at f0
          have hbl := World.block_lt_of_cell? _ _ f0
          have hmu : m + (1 + u) ≤ M + N + S := by rw [hst, ← Hm.out] at hjb; exact hjb
          have Hst : Hid (m + (1 + u) = J (j + 1)) := Lib.hid (by rw [hst, Hm.out])
          clear hst hjb
          by_cases hbig : 600 < m + (1 + u)
          · have hbI : (600 : Int) < (m : Int) + (1 + (u : Int)) := by omega
            have hBf : Hid (B = false) := Lib.hid (by rw [← hB.out, decide_eq_false_iff_not]; omega)
            go_wp2_with (fail)
            exact bodyPost_ret (v := .bool false) (by simp [results, Try.results17, go_sem]; try first | rfl | assumption | omega) rfl ⟨by rw [hBf.out], hb0⟩
          · have hbI : ¬ (600 : Int) < (m : Int) + (1 + (u : Int)) := by omega
            go_wp2_with (fail)
            exact ⟨⟨j + 1, m + (1 + u), by omega, by go_num, by go_num, Hst, by first | rfl | trivial⟩, by simp [intOf]; omega⟩
        · obtain rfl : j = E := by omega
          have hjI : ¬ (j : Int) < (j : Int) := by omega
          go_wp2_with (fail)
          exact ⟨⟨k + 1, m, by omega, by go_num, rfl, Lib.hid (by rw [Hm.out, hJe.out]), by first | rfl | trivial⟩, by simp [intOf]; omega⟩
    · obtain rfl : k = A := by omega
      have hkI : ¬ (k : Int) < (k : Int) := by omega
      have hT : Hid (B = decide (n ≤ 600)) := Lib.hid (by rw [← hB.out, Hn.out, hRe.out])
      by_cases hle : n ≤ 600
      · have hI : (n : Int) ≤ 600 := by omega
        have hBt : Hid (B = true) := Lib.hid (by rw [hT.out, decide_eq_true hle])
        go_wp2_with (fail)
        exact bodyPost_ret (v := .bool true) (by simp [results, Try.results17, go_sem]; try first | rfl | assumption | omega) rfl ⟨by rw [hBt.out], hb0⟩
      · have hI : ¬ (n : Int) ≤ 600 := by omega
        have hBt : Hid (B = false) := Lib.hid (by rw [hT.out, decide_eq_false hle])
        go_wp2_with (fail)
        exact bodyPost_ret (v := .bool false) (by simp [results, Try.results17, go_sem]; try first | rfl | assumption | omega) rfl ⟨by rw [hBt.out], hb0⟩
end Go.Proofs.Yteepcedokbjpdaa

