/- The row CheckShapes in its second form: for every grammar and tokens whose reading is of bulk at most 1048576: the law answers true and changes nothing that was there. -/
/- Texts joined: Kc PSh Kd. -/
import Derived.Test.YteepcedokbjpdaaJAq
import Derived.BigQuiet
set_option linter.unusedVariables false
set_option linter.unusedSimpArgs false
namespace Go.Proofs.Yteepcedokbjpdaa
open Go.RowKit Go.Maps

attribute [local go_sem] Oper.semAt_some

theorem below_dN8 {B : Nat} {a w : World} (h : Below B a w) (n : Nat) : Below B a (w.drewN n) := ⟨h.os, h.tape, h.output, h.size, h.block⟩
/-- A grammar by numbers has the grammar's shape. -/
structure ShpAt (W : World) (L : Nat) (rs : List RlD) (daa : Option Addr) (dac : Nat) (al : List IrD) : Prop where
  row : Vs W daa dac (al.map IrD.v)
  rules : ∀ r ∈ al, AltsI W r.a r.c r.ds
  len : al.length = L
  alts : ∀ k (h1 : k < rs.length) (h2 : k < al.length), al[k].ds.map (fun d => d.l.length) = rs[k].ds.map (fun d => d.l.length)
theorem ShpAt.grown {W W' : World} {L : Nat} {rs : List RlD} {daa : Option Addr} {dac : Nat} {al : List IrD} (h : ShpAt W L rs daa dac al) (hb : Below W.heap.size W W') : ShpAt W' L rs daa dac al :=
  ⟨h.row.grown hb, fun r hr => (h.rules r hr).grown hb, h.len, h.alts⟩
theorem shp_num {W : World} {d : CfD} {rs : List RlD} {ts : List ByteArray} (h : CfAt W d) (hp : d.p = numC rs ts) : ShpAt W rs.length rs d.aa d.ac d.alts := by
  have e3 : d.alts.map IrD.p = rs.map (fun r => r.ds.map (fun d => d.l.map (rlN ts (rs.map RlD.n) rs.length))) := congrArg CfP.alts hp
  have hl : d.alts.length = rs.length := by
    have := congrArg List.length e3
    rwa [List.length_map, List.length_map] at this
  refine ⟨h.alts, h.rules, hl, fun k h1 h2 => ?_⟩
  have e4 := congrArg (fun l => l[k]?) e3
  simp only [List.getElem?_map, List.getElem?_eq_getElem h1, List.getElem?_eq_getElem h2, Option.map_some, Option.some.injEq] at e4
  have e5 := congrArg (List.map List.length) e4
  unfold IrD.p at e5
  simpa [List.map_map, Function.comp_def] using e5

set_option maxRecDepth 100000 in
set_option maxHeartbeats 8000000 in
theorem lawShapes_any (rs : List RlD) (a : Option Addr) (cap : Nat) (ts : List ByteArray) (ta : Option Addr) (tc : Nat) (w : World) (hl : Rls w a cap rs) (ht : Nms w ta tc ts) (hf : FitG rs ts) (hfew : rs.length + ts.length + szR rs ≤ 1000000000000) :
    Calls Try.prog 8 #[.agg #[.slice a rs.length cap], .slice ta ts.length tc] w fun e w' => e = .returned (.bool true) ∧ Below w.heap.size w w' := by
  have hlm : rs.length ≤ cap ∧ cap ≤ 9223372036854775807 := ⟨hl.le, hl.max⟩
  have htm : ts.length ≤ tc ∧ tc ≤ 9223372036854775807 := ⟨by have := ht.le; rwa [List.length_map] at this, ht.max⟩
  have hA0 := Blk.new w 24 #[.slice a rs.length cap]
  have hb0 : Below w.heap.size w (w.alloc (.cells #[.slice a rs.length cap] 24)) := (Below.refl _ w).alloc (Nat.le_refl _) _
  have Hbig := Lib.hid (fun W (hb : Below w.heap.size w W) => big8_any rs a cap ts ta tc W (hl.grown hb) (ht.grown hb) hfew)
  have Hf2 := Lib.hid (fun (hs : rs.length + ts.length + szR rs ≤ 1000) W (hb : Below w.heap.size w W) => number_any rs a cap ts ta tc W (hl.grown hb) (ht.grown hb) hf hs)
  obtain ⟨Z, hZ⟩ : ∃ q, Hid (decide (600 < rs.length + ts.length + szR rs) = q) := ⟨_, Lib.hid rfl⟩
  have hZs : Hid (Z = false → rs.length + ts.length + szR rs ≤ 1000) := Lib.hid (fun h => by
    have h1 := hZ.out.trans h
    rw [decide_eq_false_iff_not] at h1
    omega)
  obtain ⟨NE, hNE⟩ : ∃ q, Hid (numE rs ts = q) := ⟨_, Lib.hid rfl⟩
  obtain ⟨C, hC⟩ : ∃ q, Hid (numC rs ts = q) := ⟨_, Lib.hid rfl⟩
  obtain ⟨U, hU⟩ : ∃ q, Hid (ts ++ rs.map RlD.n = q) := ⟨_, Lib.hid rfl⟩
  have hUa : Hid (NE = 0 → ∀ i (hi : i < U.length), U[i] ∉ U.take i) := Lib.hid (fun h => by subst h; have := num_apart hNE.out; rw [hU.out] at this; exact this)
  have hUs : Hid (∀ s ∈ U, s.size ≤ maxLen) := Lib.hid (fun s hs => by
    rw [← hU.out] at hs
    rcases List.mem_append.1 hs with hs | hs
    · exact hf.toks s hs
    · obtain ⟨r, hr, rfl⟩ := List.mem_map.1 hs
      exact hf.rules r hr)
  have hUl : Hid (ts.length + rs.length = U.length) := Lib.hid (by rw [← hU.out, List.length_append, List.length_map])
  rw [hZ.out] at Hbig
  rw [hNE.out, hC.out] at Hf2
  have hsm : Z = false → rs.length + ts.length ≤ 1000 := fun h => by have := hZs.out h; omega
  have Hg2 := Lib.hid (fun (h : Z = false) => Hf2.out (hZs.out h))
  clear Hf2 hZs hZ
  obtain ⟨L, HL⟩ : ∃ q, Hid (rs.length = q) := ⟨_, Lib.hid rfl⟩
  obtain ⟨M, HM⟩ : ∃ q, Hid (ts.length = q) := ⟨_, Lib.hid rfl⟩
  rw [HL.out] at hlm hA0 hb0 Hbig Hg2 hsm hUl ⊢
  rw [HM.out] at htm Hbig Hg2 hsm hUl ⊢
  have Hbig' : Hid (∀ W, Below w.heap.size w W → Calls Try.prog 10 #[.agg #[.slice a L cap], .slice ta M tc] W fun r w' => r = .returned (.bool Z) ∧ Below W.heap.size W w') := Hbig
  have Hg2' : Hid (Z = false → ∀ W, Below w.heap.size w W → Calls Try.prog 14 #[.agg #[.slice a L cap], .slice ta M tc] W (NumQ W NE C)) := Hg2
  obtain ⟨x, hx⟩ : ∃ q, Hid (w.heap.size = q) := ⟨_, Lib.hid rfl⟩
  have Hl : Hid (∀ W, Below x w W → Rls W a cap rs) := Lib.hid (fun W hb => hl.grown (by rw [hx.out]; exact hb))
  rw [hx.out] at Hbig' Hg2' hb0 hA0 ⊢
  have hxs : x ≤ (w.alloc (.cells #[.slice a L cap] 24)).heap.size := by rw [← hx.out]; simp [go_sem]
  clear Hbig Hg2 hl ht hf hfew
  go_enter Try.func8, Try.ntmps8
  go_wp2_with (fail)
  rw [hx.out]
  generalize hV : World.alloc w _ = V at hA0 hb0 hxs ⊢
  clear hV
  refine (live8_any V).mono ?_
  rintro e w1 ⟨rfl, hb1⟩
  have HA1 := Lib.hid (hA0.below hb1 hA0.lt)
  have Hb1 := Lib.hid (hb0.trans (hb1.mono hxs))
  have hx1 := Nat.le_trans hxs hb1.size
  clear hA0 hb0 hb1 hxs
  have x0 := HA1.out.cell 0
  have xl := HA1.out.lt
  simp only [List.getElem?_cons_zero] at x0
  go_wp2_with (fail)
  refine (Hbig'.out _ Hb1.out).mono ?_
  rintro e w2 ⟨rfl, hb2⟩
  have HA2 := Lib.hid (HA1.out.below hb2 HA1.out.lt)
  have Hb2 := Lib.hid (Hb1.out.trans (hb2.mono hx1))
  have hx2 := Nat.le_trans hx1 hb2.size
  clear hb2 HA1 Hb1 hx1 x0 xl Hbig'
  cases Z
  case true =>
    clear Hg2' HA2
    go_wp2_with (fail)
    exact bodyPost_ret (v := .bool true) (by simp [results, Try.results8, go_sem]; try first | rfl | assumption | omega) rfl ⟨rfl, Hb2.out⟩
  case false =>
  have hfs := hsm rfl
  have G2 := Lib.hid (Hg2'.out rfl)
  clear Hg2' hsm
  have x0 := HA2.out.cell 0
  have xl := HA2.out.lt
  simp only [List.getElem?_cons_zero] at x0
  go_wp2_with (fail)
  refine (G2.out _ Hb2.out).mono ?_
  rintro e w3 ⟨d, rfl, hd, hp, hb3⟩
  have HA3 := Lib.hid (HA2.out.below hb3 HA2.out.lt)
  have Hb3 := Lib.hid (Hb2.out.trans (hb3.mono hx2))
  have hx3 := Nat.le_trans hx2 hb3.size
  clear hb3 HA2 Hb2 hx2 x0 xl G2
  have hg4 : Below w3.heap.size w3 (w3.alloc (.cells #[.slice d.ta d.toks.length d.tc, .slice d.na d.names.length d.nc, .slice d.aa d.alts.length d.ac] 33)) := (Below.refl _ w3).alloc (Nat.le_refl _) _
  have hC4 := Blk.new w3 33 #[.slice d.ta d.toks.length d.tc, .slice d.na d.names.length d.nc, .slice d.aa d.alts.length d.ac]
  have HD4 := Lib.hid (hd.grown hg4)
  have HA4 := Lib.hid (HA3.out.below hg4 HA3.out.lt)
  have Hb4 := Lib.hid (Hb3.out.trans (hg4.mono hx3))
  have hx4 := Nat.le_trans hx3 hg4.size
  have hcl : x < w3.heap.size := HA3.out.lt
  clear hg4 hd HA3 Hb3 hx3
  by_cases h0 : NE = 0
  case neg =>
    have hne : (NE != 0) = true := by rw [bne_iff_ne]; exact h0
    clear h0 hp hUa hUs hUl hC4 HA4 HD4
    go_wp2_with (fail)
    exact bodyPost_ret (v := .bool true) (by simp [results, Try.results8, go_sem]; try first | rfl | assumption | omega) rfl ⟨rfl, Hb4.out⟩
  case pos =>
  have hne : (NE != 0) = false := by rw [h0]; rfl
  rw [if_pos h0] at hp
  have HUa := Lib.hid (hUa.out h0)
  clear hUa
  have hp2 := hp.trans hC.out.symm
  have eT : d.toks = ts := congrArg CfP.toks hp2
  have eN : d.names = rs.map RlD.n := congrArg CfP.names hp2
  have HS4 := Lib.hid (shp_num HD4.out hp2)
  rw [HL.out] at HS4
  have HT4 := Lib.hid HD4.out.toks
  have HN4 := Lib.hid HD4.out.names
  have lT : d.toks.length = M := by rw [eT, HM.out]
  have lN : d.names.length = L := by rw [eN, List.length_map, HL.out]
  have lA : d.alts.length = L := HS4.out.len
  unfold CfD.v
  rw [lT, lN, lA] at hC4 HA4 Hb4 hx4 HS4 HT4 HN4 ⊢
  rw [eT] at HT4
  rw [eN] at HN4
  obtain ⟨toks, dta, dtc, names, dna, dnc, al, daa, dac⟩ := d
  dsimp only at hC4 HA4 Hb4 hx4 HS4 HT4 HN4 ⊢
  clear HD4 hp hp2 eT eN lT lN lA hC hNE toks names
  have hTm : M ≤ dtc ∧ dtc ≤ 9223372036854775807 := ⟨by have := HT4.out.le; rwa [List.length_map, HM.out] at this, HT4.out.max⟩
  have hNm : L ≤ dnc ∧ dnc ≤ 9223372036854775807 := ⟨by have := HN4.out.le; rwa [List.length_map, List.length_map, HL.out] at this, HN4.out.max⟩
  have hAm : L ≤ dac ∧ dac ≤ 9223372036854775807 := ⟨by have := HS4.out.row.le; rwa [List.length_map, HS4.out.len] at this, HS4.out.row.max⟩
  have Hh0 := Lib.hid h0
  clear h0
  obtain ⟨y, hy⟩ : ∃ q, Hid (w3.heap.size = q) := ⟨_, Lib.hid rfl⟩
  rw [hy.out] at hC4 hcl
  have HC4 := Lib.hid hC4
  -- the map
  have hyz : y < (w3.alloc (.cells #[.slice dta M dtc, .slice dna L dnc, .slice daa L dac] 33)).heap.size := hC4.lt
  have hmm := @run_makeMap Try.prog
  have hz : (w3.alloc (.cells #[.slice dta M dtc, .slice dna L dnc, .slice daa L dac] 33)).heap.size = y + 1 := by simp [hy.out]
  go_wp2_with (fail)
  rw [hy.out]
  generalize hV : World.alloc w3 _ = W4 at HC4 HA4 HS4 HT4 HN4 Hb4 hx4 hyz hz ⊢
  clear hV hC4
  have HB5 := Lib.hid (BoolT.new W4)
  have hg5 : W4.grownBy (W4.alloc (.map #[] 0)) none := World.grownBy_alloc _ _ _
  have hb5 : Below W4.heap.size W4 (W4.alloc (.map #[] 0)) := (Below.refl _ W4).alloc (Nat.le_refl _) _
  have hs5 : (W4.alloc (.map #[] 0)).heap.size = W4.heap.size + 1 := by simp [go_sem]
  rw [hz] at HB5 hs5 hb5
  generalize hV : World.alloc W4 _ = W5 at HB5 hb5 hs5 ⊢
  clear hV hg5
  have hbz : Below W4.heap.size W4 W5 := by rw [hz]; exact hb5
  have HC5 := HC4.out.below hbz hyz
  -- the names, one behind another
  have hT5 : Nms W5.drew dta dtc ts := HT4.out.grown hbz.drew
  obtain ⟨a6, c6, W6, hr6, ho6, hb6⟩ := OwnS.app (n := 0) (l := []) (base := W5.heap.size) (World.ownsRow_nil W5.drew _ 9 1) dta dtc ts hT5 25 (by rw [HM.out]; omega) (Nat.le_refl _)
  have hb6' : Below W5.drew.heap.size W5.drew W6 := hb6
  have hN6 : Nms W6 dna dnc (rs.map RlD.n) := (HN4.out.grown hbz.drew).grown hb6'
  rw [Nat.zero_add, HM.out] at hr6 ho6
  rw [List.nil_append] at ho6
  obtain ⟨a7, c7, W7, hr7, ho7, hb7⟩ := ho6.app dna dnc (rs.map RlD.n) hN6 25 (by rw [List.length_map, HL.out]; omega) hb6.size
  rw [List.length_map, HL.out] at hr7 ho7
  rw [hU.out] at ho7
  have h5d : W5.heap.size = y + 1 + 1 := hs5
  have HO7 := Lib.hid ho7
  have Hr6 := Lib.hid hr6
  have Hr7 := Lib.hid hr7
  have HS0 : Hid (W5.drew.cell? ⟨y, 0, none⟩ = some (.slice dta M dtc) ∧ W5.drew.cell? ⟨y, 1, none⟩ = some (.slice dna L dnc)) := Lib.hid ⟨by simpa using HC5.cell 0, by simpa using HC5.cell 1⟩
  have HCd : Blk W5.drew y 33 [.slice dta M dtc, .slice dna L dnc, .slice daa L dac] := HC5
  have hyd : y < W5.drew.heap.size := HC5.lt
  have HC6 := HCd.below hb6' hyd
  have HS6 : Hid (W6.cell? ⟨y, 0, none⟩ = some (.slice dta M dtc) ∧ W6.cell? ⟨y, 1, none⟩ = some (.slice dna L dnc)) := Lib.hid ⟨by simpa using HC6.cell 0, by simpa using HC6.cell 1⟩
  have hb67 : Below W5.heap.size W6 W7 := hb7
  have hb57 : Below W5.drew.heap.size W5.drew W7 := hb6'.trans hb67
  have HC7 := HCd.below hb57 hyd
  have HS7 : Hid (W7.cell? ⟨y, 0, none⟩ = some (.slice dta M dtc) ∧ W7.cell? ⟨y, 1, none⟩ = some (.slice dna L dnc)) := Lib.hid ⟨by simpa using HC7.cell 0, by simpa using HC7.cell 1⟩
  have HB7 : Hid (BoolT W7 (y + 1) 0 (fun _ => false)) := Lib.hid (BoolT.kept (W := W5.drew) HB5.out (below_grownBy hb57 none) (by simp))
  have Hbz7 : Hid (Below (y + 1) W4 W7) := Lib.hid (by rw [← hz]; exact hbz.drew.trans (hb57.mono (by rw [hz]; exact (show y + 1 ≤ W5.heap.size by omega))))
  clear hr6 hr7 ho6 ho7 hb6 hb6' hb7 hb67 hb57 HB5 hN6 hT5 HC5 HCd hyd HC6 HC7 hbz hb5
  obtain ⟨n7, hn7⟩ : ∃ q, Hid (M + L = q) := ⟨_, Lib.hid rfl⟩
  rw [hn7.out] at Hr7 HO7 hUl
  have hn7l : n7 ≤ 1000 := by rw [← hn7.out]; omega
  have hO7m : n7 ≤ c7 ∧ c7 ≤ 9223372036854775807 := by
    have h := own_vs HO7.out
    have h1 := h.le
    rw [List.length_map, ← hUl.out] at h1
    exact ⟨h1, h.max⟩
  go_wp2_with (fail)
  refine wp_region_held_drew (S := fun w' => (w'.cell? ⟨y, 0, none⟩ = some (.slice dta M dtc) ∧ w'.cell? ⟨y, 1, none⟩ = some (.slice dna L dnc))) (by kernel_rfl) ?_ (fun hHeld => ?_)
  · exact HS0.out
  refine wpAnyH_take (i := 0) (v := ?_) (iatLS iatZS) (by kernel_rfl) (by kernel_rfl) (by kernel_rfl) (fun _ _ _ h => h) (Or.inl ⟨by rfl, ?_⟩) (by assumption) ?_
  rotate_left
  · intro w hSw
    try dsimp only at hSw
    go_simp
    all_goals with_reducible rfl
  try simp only [Act.put, List.setIfInBounds_toArray, List.set_cons_zero, List.set_cons_succ]
  refine wpAnyH_take (i := 1) (v := ?_) (iatLS (iatSS iatZS)) (by kernel_rfl) (by kernel_rfl) (by kernel_rfl) (fun _ _ _ h => h) (Or.inl ⟨by rfl, ?_⟩) (by assumption) ?_
  rotate_left
  · intro w hSw
    try dsimp only at hSw
    go_simp
    all_goals with_reducible rfl
  try simp only [Act.put, List.setIfInBounds_toArray, List.set_cons_zero, List.set_cons_succ]
  refine wpAnyH_take (i := 3) (v := ?_) (iatLS (iatSS (iatSS (iatSS iatZS)))) (by kernel_rfl) (by kernel_rfl) (by kernel_rfl) (fun _ _ _ h => h) (Or.inl ⟨by rfl, ?_⟩) (by assumption) ?_
  rotate_left
  · intro w hSw
    try dsimp only at hSw
    go_simp
    all_goals with_reducible rfl
  try simp only [Act.put, List.setIfInBounds_toArray, List.set_cons_zero, List.set_cons_succ]
  refine wpAnyH_take (i := 4) (v := ?_) (iatLS (iatSS (iatSS (iatSS (iatSS iatZS))))) (by kernel_rfl) (by kernel_rfl) (by kernel_rfl) (fun _ _ _ h => h) (Or.inl ⟨by rfl, ?_⟩) (by assumption) ?_
  rotate_left
  · intro w hSw
    try dsimp only at hSw
    go_simp
    all_goals with_reducible rfl
  try simp only [Act.put, List.setIfInBounds_toArray, List.set_cons_zero, List.set_cons_succ]
  refine wpAnyH_take (i := 7) (v := ?_) (iatLS (iatSS (iatSS (iatSS (iatSS (iatSS (iatSS (iatSS iatZS)))))))) (by kernel_rfl) (by kernel_rfl) (by kernel_rfl) (fun _ _ _ h => h) (Or.inl ⟨by rfl, ?_⟩) (by assumption) ?_
  rotate_left
  · intro w hSw
    try dsimp only at hSw
    go_simp
    all_goals with_reducible rfl
  try simp only [Act.put, List.setIfInBounds_toArray, List.set_cons_zero, List.set_cons_succ]
  refine wpAnyH_ready (rs := [2]) (by kernel_rfl) (by simp) ?_
  refine AllReadyH.cons (iatLS (iatSS (iatSS iatZS))) (fun K hK => ?_) AllReadyH.nil
  refine stepAppS rfl _ _ 25 25 rfl _ _ _ _ rfl rfl Hr6.out ?_
  refine hK.out _ _ ?_ (fun hHeld => ?_)
  · exact HS6.out
  clear hK K
  try simp only [Act.put, List.setIfInBounds_toArray, List.set_cons_zero, List.set_cons_succ]
  refine wpAnyH_ready (rs := [5]) (by kernel_rfl) (by simp) ?_
  refine AllReadyH.cons (iatLS (iatSS (iatSS (iatSS (iatSS (iatSS iatZS)))))) (fun K hK => ?_) AllReadyH.nil
  refine stepAppS rfl _ _ 25 25 rfl _ _ _ _ rfl rfl Hr7.out ?_
  refine hK.out _ _ ?_ (fun hHeld => ?_)
  · exact HS7.out
  clear hK K
  try simp only [Act.put, List.setIfInBounds_toArray, List.set_cons_zero, List.set_cons_succ]
  refine wpAnyH_take (i := 6) (v := ?_) (iatLS (iatSS (iatSS (iatSS (iatSS (iatSS (iatSS iatZS))))))) (by kernel_rfl) (by kernel_rfl) (by kernel_rfl) (fun _ _ _ h => h) (Or.inl ⟨by rfl, ?_⟩) (by assumption) ?_
  rotate_left
  · intro w hSw
    try dsimp only at hSw
    go_simp
    all_goals with_reducible rfl
  try simp only [Act.put, List.setIfInBounds_toArray, List.set_cons_zero, List.set_cons_succ]
  refine wpAnyH_done (by kernel_rfl) ?_ _
  go_wp2_with (fail)
  go_loopw [37] (fun iv wr => ∃ i : Nat, i ≤ n7 ∧ iv = .int .i64 (i : Int) ∧ Hid (BoolT wr (y + 1) i (fun t => mem t (U.take i))) ∧ Hid (OwnS wr W5.heap.size n7 a7 c7 U) ∧ Below (y + 1) W4 wr) (fun iv _ => n7 - (intOf iv).toNat)
  case atStart => exact ⟨0, Nat.zero_le _, rfl, HB7, HO7, Hbz7.out⟩
  case round =>
    obtain ⟨i, hi, rfl, HB, HO, hbr⟩ := hrel
    have hyr : y + 1 ≤ wr.heap.size := by have := hbr.size; omega
    by_cases hlt : i < n7
    · have hiI : (i : Int) < (n7 : Int) := by omega
      have hiI0 : (0 : Int) ≤ (i : Int) := by omega
      have hil : i < U.length := by rw [← hUl.out]; exact hlt
      have hvs := own_vs HO.out
      obtain ⟨b, off, rfl⟩ := hvs.at_ i (by rw [List.length_map]; exact hil)
      have c0 := hvs.cell b off rfl i (by rw [List.length_map]; exact hil)
      rw [List.getElem_map] at c0
      have hap := HUa.out i hil
      have hsz := hUs.out U[i] (List.getElem_mem hil)
      have htk : Hid (∀ t, mem t (U.take (i + 1)) = (decide (t = U[i]) || mem t (U.take i))) := Lib.hid (fun t => by
        rw [List.take_add_one, List.getElem?_eq_getElem hil, Option.toList_some, mem_snoc8])
      have hmf : mem U[i] (U.take i) = false := by
        rw [Bool.eq_false_iff]
        exact fun h => hap (mem_iff.1 h)
      obtain ⟨e, he⟩ : ∃ v, Hid (U[i] = v) := ⟨_, Lib.hid rfl⟩
      rw [he.out] at c0 hsz htk hmf
      have hbl := World.block_lt_of_cell? wr _ c0
      have hlk := HB.out.look e hsz
      rw [hmf] at hlk
      obtain ⟨w2, hrun, hn2, hg2⟩ := HB.out.store e hsz (by unfold maxLen; omega)
      obtain ⟨es, kk, hko⟩ := HB.out.obj
      have HB2 : Hid (BoolT w2 (y + 1) (i + 1) (fun t => mem t (U.take (i + 1)))) := Lib.hid (by
        rw [show (fun t => mem t (U.take (i + 1))) = (fun t => decide (t = e) || mem t (U.take i)) from funext htk.out]
        exact hn2)
      have HO2 : Hid (OwnS w2 W5.heap.size n7 (some ⟨b, off, none⟩) c7 U) := Lib.hid (World.ownsRow.kept HO.out hg2 (.inr (Ne.symm (map_ne_own hko HO.out))))
      have hb2 := hbr.trans (belowAt hg2 (fun i e => by injection e with e; omega) hyr)
      clear hvs hap htk hmf hn2 hg2 hko HB HO
      go_wp2_with (fail)
      exact ⟨⟨i + 1, by omega, by go_num, HB2, HO2, hb2⟩, by simp [intOf]; omega⟩
    · obtain rfl : i = n7 := by omega
      have hiI : ¬ (i : Int) < (i : Int) := by omega
      clear HB HO HB7 HO7 Hr6 Hr7 HS0 HS6 HS7 HUa hUs
      have hbr' : Below W4.heap.size W4 wr := by rw [hz]; exact hbr
      have HA8 := HA4.out.below hbr' HA4.out.lt
      have HC8 := HC4.out.below hbr' HC4.out.lt
      have Hb8 := Lib.hid (Hb4.out.trans (hbr'.mono hx4))
      have HS8 := Lib.hid (HS4.out.grown hbr')
      have HN8 := Lib.hid (HN4.out.grown hbr')
      have HC8' := Lib.hid HC8
      have x0 := HA8.cell 0
      have xl := HA8.lt
      have c0 := HC8.cell 0
      have c1 := HC8.cell 1
      have c2 := HC8.cell 2
      have cl := HC8.lt
      simp only [List.getElem?_cons_zero, List.getElem?_cons_succ] at x0 c0 c1 c2
      clear HA8 HC8 hbr' HT4 HN4 HS4 HA4 HC4
      go_wp2_with (fail)
      clear x0 xl c0 c1 c2 cl
      obtain ⟨W8, rfl⟩ : ∃ W8, W8 = wr := ⟨_, rfl⟩
      have Hx : x ≤ W8.heap.size := Nat.le_trans hx4 hbr.size
      go_loopw [74] (fun iv wr => ∃ k : Nat, k ≤ L ∧ iv = .int .i64 (k : Int) ∧ Hid (Blk wr y 33 [.slice dta M dtc, .slice dna L dnc, .slice daa L dac]) ∧ Below W8.heap.size W8 wr) (fun iv _ => L - (intOf iv).toNat)
      case atStart => exact ⟨0, Nat.zero_le _, rfl, HC8', Below.refl _ W8⟩
      case round =>
        obtain ⟨k, hk, rfl, HCq, hbq⟩ := hrel
        by_cases hlt : k < L
        · have hkI : (k : Int) < (L : Int) := by omega
          have hkI0 : (0 : Int) ≤ (k : Int) := by omega
          have hkl : k < rs.length := by rw [HL.out]; exact hlt
          have hkn : k < (rs.map RlD.n).length := by rw [List.length_map]; exact hkl
          have hbx := Hb8.out.trans (hbq.mono Hx)
          have HSq := HS8.out.grown hbq
          have hka : k < al.length := by rw [HSq.len]; exact hlt
          have hlq := Hl.out wr hbx
          have hnq := HN8.out.grown hbq
          obtain ⟨b, off, rfl⟩ := hlq.at_ k hkl
          obtain ⟨c0, c1⟩ := hlq.cell b off rfl k hkl
          obtain ⟨b2, o2, rfl⟩ := HSq.row.at_ k (by rw [List.length_map]; exact hka)
          have d0 := HSq.row.cell b2 o2 rfl k (by rw [List.length_map]; exact hka)
          obtain ⟨b3, o3, rfl⟩ := hnq.at_ k (by rw [List.length_map]; exact hkn)
          have n0 := hnq.cell b3 o3 rfl k (by rw [List.length_map]; exact hkn)
          have hAq := hlq.alts _ (List.getElem_mem hkl)
          have hIq := HSq.rules _ (List.getElem_mem hka)
          have hmm := HSq.alts k hkl hka
          rw [List.getElem_map] at d0
          unfold IrD.v at d0
          simp only [List.getElem_map] at n0
          obtain ⟨e, he⟩ : ∃ v, Hid (rs[k] = v) := ⟨_, Lib.hid rfl⟩
          obtain ⟨q, hq⟩ : ∃ v, Hid (al[k] = v) := ⟨_, Lib.hid rfl⟩
          rw [he.out] at c0 c1 n0 hAq hmm
          rw [hq.out] at d0 hIq hmm
          obtain ⟨en, eds, ea, ec⟩ := e
          obtain ⟨qds, qa, qc⟩ := q
          dsimp only at c0 c1 d0 n0 hAq hIq hmm
          have hle := congrArg List.length hmm
          rw [List.length_map, List.length_map] at hle
          rw [hle] at d0
          obtain ⟨E, hE⟩ : ∃ v, Hid (eds.length = v) := ⟨_, Lib.hid rfl⟩
          have hqE : Hid (qds.length = E) := Lib.hid (by rw [hle, hE.out])
          rw [hE.out] at c1 d0
          have HAq := Lib.hid hAq
          have HIq := Lib.hid hIq
          have Hmm := Lib.hid hmm
          have hbl := World.block_lt_of_cell? wr _ c0
          have hbl2 := World.block_lt_of_cell? wr _ d0
          have hbl3 := World.block_lt_of_cell? wr _ n0
          have hgB : Below wr.heap.size wr (wr.alloc (.cells #[.string en, .slice ea E ec] 48)) := (Below.refl _ wr).alloc (Nat.le_refl _) _
          have hBx := Blk.new wr 48 #[.string en, .slice ea E ec]
          clear hle hmm hAq hIq HSq hlq hnq
          go_wp2_with (fail)
          have HCv := HCq.out.below hgB HCq.out.lt
          have d1 := cell_up hgB d0
          have n1 := cell_up hgB n0
          have HAv := Lib.hid (HAq.out.grown hgB)
          have HIv := Lib.hid (HIq.out.grown hgB)
          have hbv := Lib.hid (hbq.trans (hgB.mono hbq.size))
          obtain ⟨rb, hrb⟩ : ∃ v, Hid (wr.heap.size = v) := ⟨_, Lib.hid rfl⟩
          have hrbl := hgB.size
          have hsz : (wr.alloc (.cells #[.string en, .slice ea E ec] 48)).heap.size = rb + 1 := by simp [hrb.out]
          rw [hrb.out] at hBx hrbl hbl2 hbl3 ⊢
          generalize hV : World.alloc wr _ = V at HCv d1 n1 HAv HIv hbv hBx hrbl hsz ⊢
          clear hV hgB c0 c1 d0 n0 HAq HIq hbl
          have y1 := HCv.cell 1
          have y2 := HCv.cell 2
          have yl := HCv.lt
          have r0 := hBx.cell 0
          have r1 := hBx.cell 1
          have rl := hBx.lt
          simp only [List.getElem?_cons_zero, List.getElem?_cons_succ] at y1 y2 r0 r1
          have hb2l : b2 < V.heap.size := by omega
          have hb3l : b3 < V.heap.size := by omega
          go_quiet (fail)
          generalize hVd : World.drewN V _ = Vd
          have HCd : Hid (Blk Vd y 33 [.slice dta M dtc, .slice (some ⟨b3, o3, none⟩) L dnc, .slice (some ⟨b2, o2, none⟩) L dac]) := Lib.hid (by rw [← hVd]; exact HCv)
          have hBd : Blk Vd rb 48 [.string en, .slice ea E ec] := by rw [← hVd]; exact hBx
          have d2 : Vd.cell? ⟨b2, o2 + k, none⟩ = some (.slice qa E qc) := by rw [← hVd]; exact d1
          have HAd : Hid (Alts Vd ea ec eds) := Lib.hid (by rw [← hVd]; exact HAv.out.grown (below_dN8 (Below.refl _ V) _))
          have HId : Hid (AltsI Vd qa qc qds) := Lib.hid (by rw [← hVd]; exact HIv.out.grown (below_dN8 (Below.refl _ V) _))
          have hbd : Hid (Below W8.heap.size W8 Vd) := Lib.hid (by rw [← hVd]; exact below_dN8 hbv.out _)
          have D2 := Lib.hid d2
          have hEm : E ≤ ec ∧ ec ≤ 9223372036854775807 := ⟨by have := HAd.out.row.le; rwa [List.length_map, hE.out] at this, HAd.out.row.max⟩
          clear hVd HCv hBx d1 n1 HAv HIv hbv y1 y2 yl r0 r1 rl hb2l hb3l hbl2 hbl3 hrbl hsz d2
          have r1 := hBd.cell 1
          have rl := hBd.lt
          simp only [List.getElem?_cons_zero, List.getElem?_cons_succ] at r1
          go_wp2_with (fail)
          clear r1 rl hBd
          go_loopw [102] (fun iv wv => ∃ j : Nat, j ≤ E ∧ iv = .int .i64 (j : Int) ∧ wv = Vd) (fun iv _ => E - (intOf iv).toNat)
          case atStart => exact ⟨0, Nat.zero_le _, rfl, rfl⟩
          case round =>
            obtain ⟨j, hj, rfl, hwv⟩ := hrel
            subst hwv
            by_cases hlt3 : j < E
            · have hjI : (j : Int) < (E : Int) := by omega
              have hjI0 : (0 : Int) ≤ (j : Int) := by omega
              have hje : j < eds.length := by rw [hE.out]; exact hlt3
              have hjq : j < qds.length := by rw [hqE.out]; exact hlt3
              obtain ⟨b4, o4, rfl⟩ := HAd.out.row.at_ j (by rw [List.length_map]; exact hje)
              have f0 := HAd.out.row.cell b4 o4 rfl j (by rw [List.length_map]; exact hje)
              obtain ⟨b5, o5, rfl⟩ := HId.out.row.at_ j (by rw [List.length_map]; exact hjq)
              have g0 := HId.out.row.cell b5 o5 rfl j (by rw [List.length_map]; exact hjq)
              have e6 := congrArg (fun l => l[j]?) Hmm.out
              simp only [List.getElem?_map, List.getElem?_eq_getElem hje, List.getElem?_eq_getElem hjq, Option.map_some, Option.some.injEq] at e6
              rw [List.getElem_map] at f0 g0
              unfold IltD.v at g0
              unfold AltD.v at f0
              rw [e6] at g0
              obtain ⟨N, hN⟩ : ∃ v, Hid (eds[j].l.length = v) := ⟨_, Lib.hid rfl⟩
              rw [hN.out] at f0 g0
              generalize eds[j].a = fa at f0
              generalize eds[j].c = fc at f0
              generalize qds[j].a = ga at g0
              generalize qds[j].c = gc at g0
              have y2 := HCd.out.cell 2
              have yl := HCd.out.lt
              have d2 := D2.out
              simp only [List.getElem?_cons_zero, List.getElem?_cons_succ] at y2
              have l4 := World.block_lt_of_cell? _ _ f0
              have l5 := World.block_lt_of_cell? _ _ g0
              have l2 := World.block_lt_of_cell? _ _ d2
              clear e6
              go_wp2_with (fail)
              exact ⟨⟨j + 1, by omega, by go_num, by first | rfl | trivial⟩, by simp [intOf]; omega⟩
            · obtain rfl : j = E := by omega
              have hjI : ¬ (j : Int) < (j : Int) := by omega
              go_wp2_with (fail)
              exact ⟨⟨k + 1, by omega, by go_num, HCd, hbd.out⟩, by simp [intOf]; omega⟩
        · obtain rfl : k = L := by omega
          have hkI : ¬ (k : Int) < (k : Int) := by omega
          have Hb9 := Lib.hid (Hb8.out.trans (hbq.mono Hx))
          go_wp2_with (fail)
          exact bodyPost_ret (v := .bool true) (by simp [results, Try.results8, go_sem]; try first | rfl | assumption | omega) rfl ⟨rfl, Hb9.out⟩
end Go.Proofs.Yteepcedokbjpdaa

namespace Go.Proofs.Yteepcedokbjpdaa
open Go.ChangeShapes Go.WideShapes Go.ChangeAt Go.RowKit

set_option maxRecDepth 100000 in
theorem checkShapes_contract (H : Type) (enc : TypeId × Value → H) (W : World) (args : Array Value) (ds gs : List (DataW H)) (before : List MemPlace)
    (hval : ∀ (j : Nat) t v, Try.f8.params[j]? = some t → args[j]? = some v → Value.okWide Try.prog W .any 0 t v)
    (hW : DataW.Whole enc Try.prog Try.f8.params.toList Rows.checkShapesSpec.vars false W args.toList ds gs before) (hk : Rows.uptoSmall H (ds ++ gs) = true) :
    Calls Try.prog 8 args W fun e W' => ∃ v, e = .returned v ∧ Rows.checkShapesSpec.post enc Try.prog Try.f8 false true false false W args v W' := by
  have hW' := hW
  obtain ⟨p, q, hA0, hV, rfl, hfz, hnd⟩ := hW
  have hA : DataW.TrodAll enc Try.prog W 0 (fun _ => true) true Try.f8.params.toList args.toList ds p := hA0
  rw [Try.params8] at hA hval
  obtain ⟨v0, v1, d0, d1, p0, p1, rfl, rfl, rfl, h0, h1⟩ := trodAll_two hA
  have hb : Rows.uptoBulkAll ([d0, d1] ++ gs) ≤ 1048576 := of_decide_eq_true hk
  simp only [List.cons_append, List.nil_append, Rows.uptoBulkAll] at hb
  obtain ⟨a, cap, l, rfl, hl, hf, hz⟩ := open_gram2 (hval 0 24 v0 rfl rfl) h0
  obtain ⟨ta, tc, ts, rfl, ht, hg, hy⟩ := open_toks2 (hval 1 25 v1 rfl rfl) h1
  refine (lawShapes_any l a cap ts ta tc W hl ht ⟨hf.rules, hg, hf.alts⟩ (by omega)).mono fun e W' ⟨he, hw⟩ => ?_
  subst he
  exact ⟨_, rfl, law_post hW' rfl rfl (by kernel_rfl) (by rw [Try.params8]; intro t ht; simp at ht; rcases ht with rfl | rfl <;> exact ⟨by kernel_rfl, of_decide_eq_true (by kernel_rfl)⟩) hw⟩

set_option maxRecDepth 100000 in
theorem checkShapes_lifted (os : Os) (started : os.Started) (H : Type) (enc : TypeId × Value → H) (F : Stop.Interp) :
    ReturnsInHanded {} Try.checked os 8 .any ((Rows.OpenSpec.upto Rows.checkShapesSpec).pre6 enc Try.prog Try.f8 Rows.checkShapesUptoRow.domain false) (((Rows.OpenSpec.upto Rows.checkShapesSpec).at F).post enc Try.prog Try.f8 false true false false) := by
  refine returnsInHanded_of_cond (C := Try.checked) (s := Rows.OpenSpec.upto Rows.checkShapesSpec) (k := Rows.uptoSmall) rfl Try.own started (by kernel_rfl) Try.func8
    (OpenSpec.witness (enc := enc) (C := Try.checked) (s := Rows.OpenSpec.upto Rows.checkShapesSpec) (k := Rows.uptoSmall) rfl false ⟨#[], #[.agg #[.slice none 0 0], .slice none 0 0], []⟩ 8 (by kernel_rfl) (by kernel_rfl) (by kernel_rfl)
      (x := ([.agg [.nil], .nil], [], [])) (by kernel_rfl) rfl (by kernel_rfl)) ?_
  intro W base args ds gs before hval hW _ hk _
  exact checkShapes_contract H enc W args ds gs before hval hW hk

theorem checkShapes_holds : Rows.CheckShapesUptoSaid :=
  OpenClaim.holds_of_cond 8 Try.f8 rfl rfl rfl rfl rfl rfl rfl ⟨rfl, rfl, rfl, rfl, rfl⟩ rfl rfl rfl rfl rfl (by kernel_rfl) Try.func8 (by kernel_rfl)
    (of_decide_eq_true (by kernel_rfl)) (by unfold Func.isWrapper; first | (rw [if_pos (by decide +kernel)]; kernel_rfl) | (rw [if_neg (by decide +kernel)]; exact ⟨rfl, rfl⟩))
    (fun os started H enc _ F => checkShapes_lifted os started H enc F)
end Go.Proofs.Yteepcedokbjpdaa

namespace Go.Proofs.Yteepcedokbjpdaa
open Go.RowKit

theorem plc_out (s : ByteArray) : ∀ (l : List ByteArray) (k : Nat), s ∉ l → plcP s k l = -1
  | [], _, _ => rfl
  | t :: r, k, h => by
    unfold plcP
    rw [if_neg (fun e => h (by rw [e]; exact List.mem_cons_self ..)), plc_out s r (k + 1) (fun hm => h (List.mem_cons_of_mem _ hm))]
theorem plc_at (s : ByteArray) : ∀ (l : List ByteArray) (k j : Nat), l[j]? = some s → s ∉ l.take j → plcP s k l = ((k + j : Nat) : Int)
  | [], _, j, h, _ => by simp at h
  | t :: r, k, 0, h, _ => by
    have h : t = s := by simpa using h
    unfold plcP
    rw [if_pos h, Nat.add_zero]
  | t :: r, k, j + 1, h, hn => by
    have h : r[j]? = some s := by simpa using h
    rw [List.take_succ_cons] at hn
    unfold plcP
    rw [if_neg (fun e => hn (by rw [e]; exact List.mem_cons_self ..)), plc_at s r (k + 1) j h (fun hm => hn (List.mem_cons_of_mem _ hm))]
    congr 1
    omega
theorem num_apart2 {rs : List RlD} {ts : List ByteArray} (h : numE rs ts = 0) : (∀ i (hi : i < ts.length), ts[i] ∉ ts.take i) ∧ ∀ i (hi : i < (rs.map RlD.n).length), (rs.map RlD.n)[i] ∉ ts ∧ (rs.map RlD.n)[i] ∉ (rs.map RlD.n).take i := by
  have h0 := num_apart h
  refine ⟨fun i hi => ?_, fun i hi => ?_⟩
  · have := h0 i (by rw [List.length_append]; omega)
    rw [List.getElem_append_left hi, List.take_append_of_le_length (by omega)] at this
    exact this
  · have := h0 (ts.length + i) (by rw [List.length_append]; omega)
    rw [List.getElem_append_right (by omega), List.take_append, List.take_of_length_le (by omega), List.mem_append] at this
    simp only [show ts.length + i - ts.length = i by omega] at this
    exact ⟨fun hm => this (.inl hm), fun hm => this (.inr hm)⟩
theorem num_plc {rs : List RlD} {ts : List ByteArray} (h : numE rs ts = 0) {t : ByteArray} (ht : t ∈ rs.map RlD.n ∨ t ∈ ts) :
    rlN ts (rs.map RlD.n) rs.length t = if plcP t 0 ts < 0 then -1 - plcP t 0 (rs.map RlD.n) else plcP t 0 ts := by
  obtain ⟨a1, a2⟩ := num_apart2 h
  rw [show rs.length = (rs.map RlD.n).length from (List.length_map ..).symm]
  by_cases hn : t ∈ rs.map RlD.n
  · obtain ⟨i, hi, he⟩ := List.getElem_of_mem hn
    obtain ⟨j, hj, h1, h2⟩ := rlN_ok ts (rs.map RlD.n) t _ (Nat.le_refl _) ⟨i, hi, by rw [List.getElem?_eq_getElem hi, he]⟩
    obtain ⟨hj', h3⟩ := List.getElem?_eq_some_iff.1 h2
    obtain ⟨b1, b2⟩ := a2 j hj'
    rw [h3] at b1 b2
    rw [h1, plc_out t ts 0 b1, if_pos (by decide), plc_at t _ 0 j h2 b2, Nat.zero_add]
  · have hts := ht.resolve_left hn
    obtain ⟨i, hi, he⟩ := List.getElem_of_mem hts
    obtain ⟨j, hj, h1, h2⟩ := tkN_ok ts t ts.length (Nat.le_refl _) ⟨i, hi, by rw [List.getElem?_eq_getElem hi, he]⟩
    obtain ⟨hj', h3⟩ := List.getElem?_eq_some_iff.1 h2
    have b1 := a1 j hj'
    rw [h3] at b1
    rw [rlN_tk ts _ t hn _ (Nat.le_refl _), h1, plc_at t _ 0 j h2 b1, Nat.zero_add, if_neg (by omega)]
end Go.Proofs.Yteepcedokbjpdaa

