/- Texts joined: Lh. -/
import Derived.Test.YtfdhaochnbfndaaRAAv
import Derived.Test.YtfdhaochnbfndaaRAAy
import Derived.Deep.CutRange
set_option linter.unusedVariables false
set_option linter.unusedSimpArgs false
namespace Go.Proofs.Ytfdhaochnbfndaa
open Go.RowKit Go.Maps
attribute [local go_sem] Oper.semAt_some
/-- A node is as it must be, and all that is in it. -/
def goodN (G : PsG) (h : TrH) (kids : TrF) : Prop := (0 ≤ h.k ∧ kids = .nil ∧ h.i = 0) ∨ (h.k < 0 ∧ h.a = 0 ∧ ∃ (i : Nat) (l : List Int), h.i = (i : Int) ∧ (G.al.getD (ruL h.k) [])[i]? = some l ∧ goodF G kids l)
theorem goodF_cons {G : PsG} {h : TrH} {kids rest : TrF} {ks : List Int} (hg : goodF G (.cons h kids rest) ks) : ∃ ks', ks = h.k :: ks' ∧ goodN G h kids ∧ goodF G rest ks' := by
 unfold goodF at hg
 exact hg
theorem goodF_len {G : PsG} : ∀ {f : TrF} {ks : List Int}, goodF G f ks → f.len = ks.length
 | .nil, ks, h => by
  unfold goodF at h
  rw [h]; rfl
 | .cons h kids rest, ks, hg => by
  obtain ⟨ks', rfl, _, h3⟩ := goodF_cons hg
  show rest.len + 1 = ks'.length + 1
  rw [goodF_len h3]
set_option maxRecDepth 100000 in
set_option maxHeartbeats 16000000 in
theorem good_any (d : CfD) (W0 : World) (hd : CfAt W0 d) (G : PsG) (hG : G.al = d.alts.map IrD.p) : ∀ (M : Nat) (h : TrH) (kids : TrF) (a : Option Addr) (cap : Nat) (w : World), kids.size < M → Below W0.heap.size W0 w → TrS w (fun _ => True) a cap kids → goodN G h kids →
 Calls Try.prog 47 #[d.v, treV h a kids.len cap] w fun e W => e = .returned (.bool true) ∧ Below w.heap.size w W := by
 have Hd := Lib.hid hd
 clear hd
 intro M
 induction M with
 | zero => intro h kids a cap w hN; omega
 | succ M ih =>
  intro h kids a cap w hN hbW hI hg
  obtain ⟨hk, hn, hs⟩ := h
  have hlm : kids.len ≤ cap ∧ cap ≤ 9223372036854775807 := ⟨hI.le, hI.max⟩
  rcases hg with ⟨h1, rfl, h2⟩ | ⟨h1, h2, i, l, h3, h4, h5⟩
  ·dsimp only at h1 h2
   subst h2
   show Calls Try.prog 47 #[d.v, treV ⟨hk, 0, hs⟩ a 0 cap] w _
   have hb0 : Below w.heap.size w ((w.alloc (.cells #[.slice d.ta d.toks.length d.tc, .slice d.na d.names.length d.nc, .slice d.aa d.alts.length d.ac] 25)).alloc (.cells #[.int .i64 hk, .int .i64 0, .int .i64 hs, .slice a 0 cap] 51)) := ((Below.refl w.heap.size w).alloc (Nat.le_refl _) _).alloc (by simp) _
   have hB := Blk.new (w.alloc (.cells #[.slice d.ta d.toks.length d.tc, .slice d.na d.names.length d.nc, .slice d.aa d.alts.length d.ac] 25)) 51 #[.int .i64 hk, .int .i64 0, .int .i64 hs, .slice a 0 cap]
   rw [World.size_alloc] at hB
   have x0 := hB.cell 0
   have x1 := hB.cell 1
   have x3 := hB.cell 3
   have xl := hB.lt
   simp only [List.getElem?_cons_zero, List.getElem?_cons_succ] at x0 x1 x3
   have HF := Lib.hid hb0
   clear hB hb0
   go_enter Try.func47, Try.ntmps47
   go_wp2_with (fail)
   first | exact ⟨rfl, HF.out⟩ | exact bodyPost_ret (v := .bool true) (by simp [results, Try.results47, go_sem]; try first | rfl | assumption | omega) rfl ⟨rfl, HF.out⟩
  ·dsimp only at h1 h2 h3 h4
   subst h2 h3
   have hlen := goodF_len h5
   -- the alternative
   obtain ⟨r, hr⟩ : ∃ r : Nat, (r : Int) = -1 - hk := ⟨(-1 - hk).toNat, by omega⟩
   rw [show ruL hk = r by unfold ruL; omega, hG, List.getD_eq_getElem?_getD, List.getElem?_map] at h4
   have hra : r < d.alts.length := by
    refine Classical.byContradiction fun hn => ?_
    rw [List.getElem?_eq_none (l := d.alts) (by omega)] at h4
    cases h4
   rw [List.getElem?_eq_getElem hra] at h4
   have h4 : (d.alts[r].ds.map (fun x => x.l))[i]? = some l := h4
   rw [List.getElem?_map, Option.map_eq_some_iff] at h4
   obtain ⟨al, h6, h7⟩ := h4
   obtain ⟨hia, e2⟩ := List.getElem?_eq_some_iff.1 h6
   have hGU := Hd.out.grown hbW
   obtain ⟨p, po, hp⟩ := hGU.alts.at_ r (by rw [List.length_map]; exact hra)
   have cp := hGU.alts.cell p po hp r (by rw [List.length_map]; exact hra)
   rw [List.getElem_map] at cp
   have hR := hGU.rules d.alts[r] (List.getElem_mem hra)
   obtain ⟨q, qo, hq⟩ := hR.row.at_ i (by rw [List.length_map]; exact hia)
   have cq := hR.row.cell q qo hq i (by rw [List.length_map]; exact hia)
   rw [List.getElem_map, e2] at cq
   have hWI := hR.nms al (by rw [← e2]; exact List.getElem_mem hia)
   have hrm : d.alts[r].ds.length ≤ d.alts[r].c ∧ d.alts[r].c ≤ 9223372036854775807 := ⟨by have := hR.row.le; rwa [List.length_map] at this, hR.row.max⟩
   have hlm2 : d.alts.length ≤ d.ac ∧ d.ac ≤ 9223372036854775807 := ⟨by have := hGU.alts.le; rwa [List.length_map] at this, hGU.alts.max⟩
   have hxm : al.l.length ≤ al.c ∧ al.c ≤ 9223372036854775807 := ⟨by have := hWI.le; rwa [List.length_map] at this, hWI.max⟩
   obtain ⟨wl, wa, wcp⟩ := al
   dsimp only at h7
   subst h7
   change _ = some (Value.slice d.alts[r].a d.alts[r].ds.length d.alts[r].c) at cp
   change _ = some (Value.slice wa wl.length wcp) at cq
   dsimp only at hxm hWI
   have HWI := Lib.hid hWI
   have HG0 := Lib.hid (show goodF G (kids.drop 0) (wl.drop 0) from h5)
   obtain ⟨AL, hALl⟩ : ∃ q, Hid (wl.length = q) := ⟨_, Lib.hid rfl⟩
   have HKL : Hid (kids.len = AL) := Lib.hid (hlen.trans hALl.out)
   obtain ⟨RL, hRL⟩ : ∃ q, Hid (d.alts[r].ds.length = q) := ⟨_, Lib.hid rfl⟩
   obtain ⟨rc, hrc⟩ : ∃ q, Hid (d.alts[r].c = q) := ⟨_, Lib.hid rfl⟩
   rw [hq, hRL.out, hrc.out] at cp
   rw [hRL.out] at hia hrm
   rw [hrc.out] at hrm
   rw [hALl.out] at cq hxm
   rw [HKL.out] at hlm ⊢
   have hdv : d.v = .agg #[.slice d.ta d.toks.length d.tc, .slice d.na d.names.length d.nc, .slice d.aa d.alts.length d.ac] := rfl
   rw [hp] at hdv
   obtain ⟨xta, hxta⟩ : ∃ q, Hid (d.ta = q) := ⟨_, Lib.hid rfl⟩
   obtain ⟨xna, hxna⟩ : ∃ q, Hid (d.na = q) := ⟨_, Lib.hid rfl⟩
   obtain ⟨xtc, hxtc⟩ : ∃ q, Hid (d.tc = q) := ⟨_, Lib.hid rfl⟩
   obtain ⟨xnc, hxnc⟩ : ∃ q, Hid (d.nc = q) := ⟨_, Lib.hid rfl⟩
   obtain ⟨xac, hxac⟩ : ∃ q, Hid (d.ac = q) := ⟨_, Lib.hid rfl⟩
   obtain ⟨T, HT⟩ : ∃ q, Hid (d.toks.length = q) := ⟨_, Lib.hid rfl⟩
   obtain ⟨N, HN⟩ : ∃ q, Hid (d.names.length = q) := ⟨_, Lib.hid rfl⟩
   obtain ⟨L, HL⟩ : ∃ q, Hid (d.alts.length = q) := ⟨_, Lib.hid rfl⟩
   rw [hxta.out, hxna.out, hxtc.out, hxnc.out, hxac.out, HT.out, HN.out, HL.out] at hdv
   rw [HL.out] at hra hlm2
   rw [hxac.out] at hlm2
   rw [hdv]
   have Hdv := Lib.hid hdv
   have HI := Lib.hid hI
   have HbW := Lib.hid hbW
   clear hdv hxta hxna hxtc hxnc hxac hWI hR hGU e2 h6 h5 hlen hI hbW hp hq hrc
   have hrE : -1 - hk = (r : Int) := hr.symm
   have hwr : IntKind.i64.wrap (r : Int) = (r : Int) := IntWalk.i64_in _ (by omega)
   have hwk : IntKind.i64.wrap (-1 - hk) = (r : Int) := by rw [hrE]; exact hwr
   have hrI0 : (0 : Int) ≤ (r : Int) := by omega
   have hrI1 : (r : Int) < (L : Int) := by omega
   have hrI2 : ¬ (L : Int) ≤ (r : Int) := by omega
   have hiI0 : (0 : Int) ≤ (i : Int) := by omega
   have hiI1 : (i : Int) < (RL : Int) := by omega
   have hiI2 : ¬ (RL : Int) ≤ (i : Int) := by omega
   have hiI3 : ¬ (i : Int) < 0 := by omega
   have hkn : ¬ 0 ≤ hk := by omega
   have hklo : -9223372036854775808 ≤ hk := by omega
   clear hr
   have hb0 : Below w.heap.size w ((w.alloc (.cells #[.slice xta T xtc, .slice xna N xnc, .slice (some ⟨p, po, none⟩) L xac] 25)).alloc (.cells #[.int .i64 hk, .int .i64 (i : Int), .int .i64 0, .slice a AL cap] 51)) := ((Below.refl w.heap.size w).alloc (Nat.le_refl _) _).alloc (by simp) _
   have hC := (Blk.new w 25 #[.slice xta T xtc, .slice xna N xnc, .slice (some ⟨p, po, none⟩) L xac]).alloc (.cells #[.int .i64 hk, .int .i64 (i : Int), .int .i64 0, .slice a AL cap] 51)
   have hB := Blk.new (w.alloc (.cells #[.slice xta T xtc, .slice xna N xnc, .slice (some ⟨p, po, none⟩) L xac] 25)) 51 #[.int .i64 hk, .int .i64 (i : Int), .int .i64 0, .slice a AL cap]
   rw [World.size_alloc] at hB
   have x0 := hB.cell 0
   have xl := hB.lt
   simp only [List.getElem?_cons_zero, List.getElem?_cons_succ] at x0
   go_enter Try.func47, Try.ntmps47
   go_upto_region 4 with fail
   try rw [hrE]
   obtain ⟨bt, hbt⟩ : ∃ q, Hid (w.heap.size + 1 = q) := ⟨_, Lib.hid rfl⟩
   obtain ⟨bc, hbc⟩ : ∃ q, Hid (w.heap.size = q) := ⟨_, Lib.hid rfl⟩
   generalize hV : World.alloc (World.alloc w _) _ = V1 at hb0 hC hB x0 xl ⊢
   rw [hbt.out] at hB x0 xl ⊢
   rw [hbc.out] at hC ⊢
   have hd4 := (Below.refl V1.heap.size V1).drew
   have hb4 := hb0.trans (hd4.mono hb0.size)
   have HbV2 := Lib.hid hb4
   have HC2 := Lib.hid (hC.below hd4 hC.lt)
   have HT2 := Lib.hid (hB.below hd4 hB.lt)
   have HS4 : Hid ((V1.drew).cell? ⟨bc, 2, none⟩ = some (.slice (some ⟨p, po, none⟩) L xac) ∧ (V1.drew).cell? ⟨bt, 1, none⟩ = some (.int .i64 (i : Int)) ∧ (V1.drew).cell? ⟨bt, 2, none⟩ = some (.int .i64 0) ∧ (V1.drew).cell? ⟨bt, 3, none⟩ = some (.slice a AL cap) ∧ (V1.drew).cell? ⟨p, po + r, none⟩ = some (.slice (some ⟨q, qo, none⟩) RL rc) ∧ (V1.drew).cell? ⟨q, qo + i, none⟩ = some (.slice wa AL wcp)) := Lib.hid ⟨HC2.out.cell 2, HT2.out.cell 1, HT2.out.cell 2, HT2.out.cell 3, cell_up hb4 cp, cell_up hb4 cq⟩
   have hlt1 := HC2.out.lt
   have hlt2 := HT2.out.lt
   have hltp := World.block_lt_of_cell? _ _ (cell_up hb4 cp)
   have hltq := World.block_lt_of_cell? _ _ (cell_up hb4 cq)
   clear hC hB hb0 x0 xl hV hd4
   refine wp_region_held_drew (S := fun w' => w'.cell? ⟨bc, 2, none⟩ = some (.slice (some ⟨p, po, none⟩) L xac) ∧ w'.cell? ⟨bt, 1, none⟩ = some (.int .i64 (i : Int)) ∧ w'.cell? ⟨bt, 2, none⟩ = some (.int .i64 0) ∧ w'.cell? ⟨bt, 3, none⟩ = some (.slice a AL cap) ∧ w'.cell? ⟨p, po + r, none⟩ = some (.slice (some ⟨q, qo, none⟩) RL rc) ∧ w'.cell? ⟨q, qo + i, none⟩ = some (.slice wa AL wcp)) (by kernel_rfl) ?_ (fun hHeld => ?_)
   ·exact HS4.out
   refine wpAnyH_take (i := 0) (v := ?_) (iatLS iatZS) (by kernel_rfl) (by kernel_rfl) (by kernel_rfl) (fun _ _ _ h => h) (Or.inl ⟨by rfl, ?_⟩) (by assumption) ?_
   rotate_left
   ·intro w hSw
    try dsimp only at hSw
    go_simp
    all_goals with_reducible rfl
   try simp only [Act.put, List.setIfInBounds_toArray, List.set_cons_zero, List.set_cons_succ]
   refine wpAnyH_take (i := 1) (v := ?_) (iatLS (iatSS iatZS)) (by kernel_rfl) (by kernel_rfl) (by kernel_rfl) (fun _ _ _ h => h) (Or.inl ⟨by rfl, ?_⟩) (by assumption) ?_
   rotate_left
   ·intro w hSw
    try dsimp only at hSw
    go_simp
    all_goals with_reducible rfl
   try simp only [Act.put, List.setIfInBounds_toArray, List.set_cons_zero, List.set_cons_succ]
   refine wpAnyH_take (i := 2) (v := ?_) (iatLS (iatSS (iatSS iatZS))) (by kernel_rfl) (by kernel_rfl) (by kernel_rfl) (fun _ _ _ h => h) (Or.inl ⟨by rfl, ?_⟩) (by assumption) ?_
   rotate_left
   ·intro w hSw
    try dsimp only at hSw
    go_simp
    all_goals with_reducible rfl
   try simp only [Act.put, List.setIfInBounds_toArray, List.set_cons_zero, List.set_cons_succ]
   refine wpAnyH_take (i := 3) (v := ?_) (iatLS (iatSS (iatSS (iatSS iatZS)))) (by kernel_rfl) (by kernel_rfl) (by kernel_rfl) (fun _ _ _ h => h) (Or.inl ⟨by rfl, ?_⟩) (by assumption) ?_
   rotate_left
   ·intro w hSw
    try dsimp only at hSw
    go_simp
    all_goals with_reducible rfl
   try simp only [Act.put, List.setIfInBounds_toArray, List.set_cons_zero, List.set_cons_succ]
   refine wpAnyH_take (i := 4) (v := ?_) (iatLS (iatSS (iatSS (iatSS (iatSS iatZS))))) (by kernel_rfl) (by kernel_rfl) (by kernel_rfl) (fun _ _ _ h => h) (Or.inl ⟨by rfl, ?_⟩) (by assumption) ?_
   rotate_left
   ·intro w hSw
    try dsimp only at hSw
    go_simp
    all_goals with_reducible rfl
   try simp only [Act.put, List.setIfInBounds_toArray, List.set_cons_zero, List.set_cons_succ]
   refine wpAnyH_take (i := 5) (v := ?_) (iatLS (iatSS (iatSS (iatSS (iatSS (iatSS iatZS)))))) (by kernel_rfl) (by kernel_rfl) (by kernel_rfl) (fun _ _ _ h => h) (Or.inl ⟨by rfl, ?_⟩) (by assumption) ?_
   rotate_left
   ·intro w hSw
    try dsimp only at hSw
    go_simp
    all_goals with_reducible rfl
   try simp only [Act.put, List.setIfInBounds_toArray, List.set_cons_zero, List.set_cons_succ]
   refine wpAnyH_take (i := 6) (v := ?_) (iatLS (iatSS (iatSS (iatSS (iatSS (iatSS (iatSS iatZS))))))) (by kernel_rfl) (by kernel_rfl) (by kernel_rfl) (fun _ _ _ h => h) (Or.inl ⟨by rfl, ?_⟩) (by assumption) ?_
   rotate_left
   ·intro w hSw
    try dsimp only at hSw
    go_simp
    all_goals with_reducible rfl
   try simp only [Act.put, List.setIfInBounds_toArray, List.set_cons_zero, List.set_cons_succ]
   refine wpAnyH_take (i := 7) (v := ?_) (iatLS (iatSS (iatSS (iatSS (iatSS (iatSS (iatSS (iatSS iatZS)))))))) (by kernel_rfl) (by kernel_rfl) (by kernel_rfl) (fun _ _ _ h => h) (Or.inl ⟨by rfl, ?_⟩) (by assumption) ?_
   rotate_left
   ·intro w hSw
    try dsimp only at hSw
    go_simp
    all_goals with_reducible rfl
   try simp only [Act.put, List.setIfInBounds_toArray, List.set_cons_zero, List.set_cons_succ]
   refine wpAnyH_take (i := 8) (v := ?_) (iatLS (iatSS (iatSS (iatSS (iatSS (iatSS (iatSS (iatSS (iatSS iatZS))))))))) (by kernel_rfl) (by kernel_rfl) (by kernel_rfl) (fun _ _ _ h => h) (Or.inl ⟨by rfl, ?_⟩) (by assumption) ?_
   rotate_left
   ·intro w hSw
    try dsimp only at hSw
    go_simp
    all_goals with_reducible rfl
   try simp only [Act.put, List.setIfInBounds_toArray, List.set_cons_zero, List.set_cons_succ]
   refine wpAnyH_take (i := 9) (v := ?_) (iatLS (iatSS (iatSS (iatSS (iatSS (iatSS (iatSS (iatSS (iatSS (iatSS iatZS)))))))))) (by kernel_rfl) (by kernel_rfl) (by kernel_rfl) (fun _ _ _ h => h) (Or.inl ⟨by rfl, ?_⟩) (by assumption) ?_
   rotate_left
   ·intro w hSw
    try dsimp only at hSw
    go_simp
    all_goals with_reducible rfl
   try simp only [Act.put, List.setIfInBounds_toArray, List.set_cons_zero, List.set_cons_succ]
   refine wpAnyH_take (i := 10) (v := ?_) (iatLS (iatSS (iatSS (iatSS (iatSS (iatSS (iatSS (iatSS (iatSS (iatSS (iatSS iatZS))))))))))) (by kernel_rfl) (by kernel_rfl) (by kernel_rfl) (fun _ _ _ h => h) (Or.inl ⟨by rfl, ?_⟩) (by assumption) ?_
   rotate_left
   ·intro w hSw
    try dsimp only at hSw
    go_simp
    all_goals with_reducible rfl
   try simp only [Act.put, List.setIfInBounds_toArray, List.set_cons_zero, List.set_cons_succ]
   refine wpAnyH_take (i := 11) (v := ?_) (iatLS (iatSS (iatSS (iatSS (iatSS (iatSS (iatSS (iatSS (iatSS (iatSS (iatSS (iatSS iatZS)))))))))))) (by kernel_rfl) (by kernel_rfl) (by kernel_rfl) (fun _ _ _ h => h) (Or.inl ⟨by rfl, ?_⟩) (by assumption) ?_
   rotate_left
   ·intro w hSw
    try dsimp only at hSw
    go_simp
    all_goals with_reducible rfl
   try simp only [Act.put, List.setIfInBounds_toArray, List.set_cons_zero, List.set_cons_succ]
   refine wpAnyH_take (i := 12) (v := ?_) (iatLS (iatSS (iatSS (iatSS (iatSS (iatSS (iatSS (iatSS (iatSS (iatSS (iatSS (iatSS (iatSS iatZS))))))))))))) (by kernel_rfl) (by kernel_rfl) (by kernel_rfl) (fun _ _ _ h => h) (Or.inl ⟨by rfl, ?_⟩) (by assumption) ?_
   rotate_left
   ·intro w hSw
    try dsimp only at hSw
    go_simp
    all_goals with_reducible rfl
   try simp only [Act.put, List.setIfInBounds_toArray, List.set_cons_zero, List.set_cons_succ]
   refine wpAnyH_take (i := 13) (v := ?_) (iatLS (iatSS (iatSS (iatSS (iatSS (iatSS (iatSS (iatSS (iatSS (iatSS (iatSS (iatSS (iatSS (iatSS iatZS)))))))))))))) (by kernel_rfl) (by kernel_rfl) (by kernel_rfl) (fun _ _ _ h => h) (Or.inl ⟨by rfl, ?_⟩) (by assumption) ?_
   rotate_left
   ·intro w hSw
    try dsimp only at hSw
    go_simp
    all_goals with_reducible rfl
   try simp only [Act.put, List.setIfInBounds_toArray, List.set_cons_zero, List.set_cons_succ]
   refine wpAnyH_take (i := 14) (v := ?_) (iatLS (iatSS (iatSS (iatSS (iatSS (iatSS (iatSS (iatSS (iatSS (iatSS (iatSS (iatSS (iatSS (iatSS (iatSS iatZS))))))))))))))) (by kernel_rfl) (by kernel_rfl) (by kernel_rfl) (fun _ _ _ h => h) (Or.inl ⟨by rfl, ?_⟩) (by assumption) ?_
   rotate_left
   ·intro w hSw
    try dsimp only at hSw
    go_simp
    all_goals with_reducible rfl
   try simp only [Act.put, List.setIfInBounds_toArray, List.set_cons_zero, List.set_cons_succ]
   refine wpAnyH_take (i := 15) (v := ?_) (iatLS (iatSS (iatSS (iatSS (iatSS (iatSS (iatSS (iatSS (iatSS (iatSS (iatSS (iatSS (iatSS (iatSS (iatSS (iatSS iatZS)))))))))))))))) (by kernel_rfl) (by kernel_rfl) (by kernel_rfl) (fun _ _ _ h => h) (Or.inl ⟨by rfl, ?_⟩) (by assumption) ?_
   rotate_left
   ·intro w hSw
    try dsimp only at hSw
    go_simp
    all_goals with_reducible rfl
   try simp only [Act.put, List.setIfInBounds_toArray, List.set_cons_zero, List.set_cons_succ]
   refine wpAnyH_take (i := 16) (v := ?_) (iatLS (iatSS (iatSS (iatSS (iatSS (iatSS (iatSS (iatSS (iatSS (iatSS (iatSS (iatSS (iatSS (iatSS (iatSS (iatSS (iatSS iatZS))))))))))))))))) (by kernel_rfl) (by kernel_rfl) (by kernel_rfl) (fun _ _ _ h => h) (Or.inl ⟨by rfl, ?_⟩) (by assumption) ?_
   rotate_left
   ·intro w hSw
    try dsimp only at hSw
    go_simp
    all_goals with_reducible rfl
   try simp only [Act.put, List.setIfInBounds_toArray, List.set_cons_zero, List.set_cons_succ]
   refine wpAnyH_take (i := 17) (v := ?_) (iatLS (iatSS (iatSS (iatSS (iatSS (iatSS (iatSS (iatSS (iatSS (iatSS (iatSS (iatSS (iatSS (iatSS (iatSS (iatSS (iatSS (iatSS iatZS)))))))))))))))))) (by kernel_rfl) (by kernel_rfl) (by kernel_rfl) (fun _ _ _ h => h) (Or.inl ⟨by rfl, ?_⟩) (by assumption) ?_
   rotate_left
   ·intro w hSw
    try dsimp only at hSw
    go_simp
    all_goals with_reducible rfl
   try simp only [Act.put, List.setIfInBounds_toArray, List.set_cons_zero, List.set_cons_succ]
   refine wpAnyH_take (i := 18) (v := ?_) (iatLS (iatSS (iatSS (iatSS (iatSS (iatSS (iatSS (iatSS (iatSS (iatSS (iatSS (iatSS (iatSS (iatSS (iatSS (iatSS (iatSS (iatSS (iatSS iatZS))))))))))))))))))) (by kernel_rfl) (by kernel_rfl) (by kernel_rfl) (fun _ _ _ h => h) (Or.inl ⟨by rfl, ?_⟩) (by assumption) ?_
   rotate_left
   ·intro w hSw
    try dsimp only at hSw
    go_simp
    all_goals with_reducible rfl
   try simp only [Act.put, List.setIfInBounds_toArray, List.set_cons_zero, List.set_cons_succ]
   refine wpAnyH_take (i := 19) (v := ?_) (iatLS (iatSS (iatSS (iatSS (iatSS (iatSS (iatSS (iatSS (iatSS (iatSS (iatSS (iatSS (iatSS (iatSS (iatSS (iatSS (iatSS (iatSS (iatSS (iatSS iatZS)))))))))))))))))))) (by kernel_rfl) (by kernel_rfl) (by kernel_rfl) (fun _ _ _ h => h) (Or.inl ⟨by rfl, ?_⟩) (by assumption) ?_
   rotate_left
   ·intro w hSw
    try dsimp only at hSw
    go_simp
    all_goals with_reducible rfl
   try simp only [Act.put, List.setIfInBounds_toArray, List.set_cons_zero, List.set_cons_succ]
   refine wpAnyH_take (i := 20) (v := ?_) (iatLS (iatSS (iatSS (iatSS (iatSS (iatSS (iatSS (iatSS (iatSS (iatSS (iatSS (iatSS (iatSS (iatSS (iatSS (iatSS (iatSS (iatSS (iatSS (iatSS (iatSS iatZS))))))))))))))))))))) (by kernel_rfl) (by kernel_rfl) (by kernel_rfl) (fun _ _ _ h => h) (Or.inl ⟨by rfl, ?_⟩) (by assumption) ?_
   rotate_left
   ·intro w hSw
    try dsimp only at hSw
    go_simp
    all_goals with_reducible rfl
   try simp only [Act.put, List.setIfInBounds_toArray, List.set_cons_zero, List.set_cons_succ]
   refine wpAnyH_take (i := 21) (v := ?_) (iatLS (iatSS (iatSS (iatSS (iatSS (iatSS (iatSS (iatSS (iatSS (iatSS (iatSS (iatSS (iatSS (iatSS (iatSS (iatSS (iatSS (iatSS (iatSS (iatSS (iatSS (iatSS iatZS)))))))))))))))))))))) (by kernel_rfl) (by kernel_rfl) (by kernel_rfl) (fun _ _ _ h => h) (Or.inl ⟨by rfl, ?_⟩) (by assumption) ?_
   rotate_left
   ·intro w hSw
    try dsimp only at hSw
    go_simp
    all_goals with_reducible rfl
   try simp only [Act.put, List.setIfInBounds_toArray, List.set_cons_zero, List.set_cons_succ]
   refine wpAnyH_take (i := 22) (v := ?_) (iatLS (iatSS (iatSS (iatSS (iatSS (iatSS (iatSS (iatSS (iatSS (iatSS (iatSS (iatSS (iatSS (iatSS (iatSS (iatSS (iatSS (iatSS (iatSS (iatSS (iatSS (iatSS (iatSS iatZS))))))))))))))))))))))) (by kernel_rfl) (by kernel_rfl) (by kernel_rfl) (fun _ _ _ h => h) (Or.inl ⟨by rfl, ?_⟩) (by assumption) ?_
   rotate_left
   ·intro w hSw
    try dsimp only at hSw
    go_simp
    all_goals with_reducible rfl
   try simp only [Act.put, List.setIfInBounds_toArray, List.set_cons_zero, List.set_cons_succ]
   refine wpAnyH_take (i := 23) (v := ?_) (iatLS (iatSS (iatSS (iatSS (iatSS (iatSS (iatSS (iatSS (iatSS (iatSS (iatSS (iatSS (iatSS (iatSS (iatSS (iatSS (iatSS (iatSS (iatSS (iatSS (iatSS (iatSS (iatSS (iatSS iatZS)))))))))))))))))))))))) (by kernel_rfl) (by kernel_rfl) (by kernel_rfl) (fun _ _ _ h => h) (Or.inl ⟨by rfl, ?_⟩) (by assumption) ?_
   rotate_left
   ·intro w hSw
    try dsimp only at hSw
    go_simp
    all_goals with_reducible rfl
   try simp only [Act.put, List.setIfInBounds_toArray, List.set_cons_zero, List.set_cons_succ]
   refine wpAnyH_take (i := 24) (v := ?_) (iatLS (iatSS (iatSS (iatSS (iatSS (iatSS (iatSS (iatSS (iatSS (iatSS (iatSS (iatSS (iatSS (iatSS (iatSS (iatSS (iatSS (iatSS (iatSS (iatSS (iatSS (iatSS (iatSS (iatSS (iatSS iatZS))))))))))))))))))))))))) (by kernel_rfl) (by kernel_rfl) (by kernel_rfl) (fun _ _ _ h => h) (Or.inl ⟨by rfl, ?_⟩) (by assumption) ?_
   rotate_left
   ·intro w hSw
    try dsimp only at hSw
    go_simp
    all_goals with_reducible rfl
   try simp only [Act.put, List.setIfInBounds_toArray, List.set_cons_zero, List.set_cons_succ]
   refine wpAnyH_take (i := 25) (v := ?_) (iatLS (iatSS (iatSS (iatSS (iatSS (iatSS (iatSS (iatSS (iatSS (iatSS (iatSS (iatSS (iatSS (iatSS (iatSS (iatSS (iatSS (iatSS (iatSS (iatSS (iatSS (iatSS (iatSS (iatSS (iatSS (iatSS iatZS)))))))))))))))))))))))))) (by kernel_rfl) (by kernel_rfl) (by kernel_rfl) (fun _ _ _ h => h) (Or.inl ⟨by rfl, ?_⟩) (by assumption) ?_
   rotate_left
   ·intro w hSw
    try dsimp only at hSw
    go_simp
    all_goals with_reducible rfl
   try simp only [Act.put, List.setIfInBounds_toArray, List.set_cons_zero, List.set_cons_succ]
   refine wpAnyH_take (i := 26) (v := ?_) (iatLS (iatSS (iatSS (iatSS (iatSS (iatSS (iatSS (iatSS (iatSS (iatSS (iatSS (iatSS (iatSS (iatSS (iatSS (iatSS (iatSS (iatSS (iatSS (iatSS (iatSS (iatSS (iatSS (iatSS (iatSS (iatSS (iatSS iatZS))))))))))))))))))))))))))) (by kernel_rfl) (by kernel_rfl) (by kernel_rfl) (fun _ _ _ h => h) (Or.inl ⟨by rfl, ?_⟩) (by assumption) ?_
   rotate_left
   ·intro w hSw
    try dsimp only at hSw
    go_simp
    all_goals with_reducible rfl
   try simp only [Act.put, List.setIfInBounds_toArray, List.set_cons_zero, List.set_cons_succ]
   refine wpAnyH_take (i := 27) (v := ?_) (iatLS (iatSS (iatSS (iatSS (iatSS (iatSS (iatSS (iatSS (iatSS (iatSS (iatSS (iatSS (iatSS (iatSS (iatSS (iatSS (iatSS (iatSS (iatSS (iatSS (iatSS (iatSS (iatSS (iatSS (iatSS (iatSS (iatSS (iatSS iatZS)))))))))))))))))))))))))))) (by kernel_rfl) (by kernel_rfl) (by kernel_rfl) (fun _ _ _ h => h) (Or.inl ⟨by rfl, ?_⟩) (by assumption) ?_
   rotate_left
   ·intro w hSw
    try dsimp only at hSw
    go_simp
    all_goals with_reducible rfl
   try simp only [Act.put, List.setIfInBounds_toArray, List.set_cons_zero, List.set_cons_succ]
   refine wpAnyH_take (i := 28) (v := ?_) (iatLS (iatSS (iatSS (iatSS (iatSS (iatSS (iatSS (iatSS (iatSS (iatSS (iatSS (iatSS (iatSS (iatSS (iatSS (iatSS (iatSS (iatSS (iatSS (iatSS (iatSS (iatSS (iatSS (iatSS (iatSS (iatSS (iatSS (iatSS (iatSS iatZS))))))))))))))))))))))))))))) (by kernel_rfl) (by kernel_rfl) (by kernel_rfl) (fun _ _ _ h => h) (Or.inl ⟨by rfl, ?_⟩) (by assumption) ?_
   rotate_left
   ·intro w hSw
    try dsimp only at hSw
    go_simp
    all_goals with_reducible rfl
   try simp only [Act.put, List.setIfInBounds_toArray, List.set_cons_zero, List.set_cons_succ]
   refine wpAnyH_take (i := 29) (v := ?_) (iatLS (iatSS (iatSS (iatSS (iatSS (iatSS (iatSS (iatSS (iatSS (iatSS (iatSS (iatSS (iatSS (iatSS (iatSS (iatSS (iatSS (iatSS (iatSS (iatSS (iatSS (iatSS (iatSS (iatSS (iatSS (iatSS (iatSS (iatSS (iatSS (iatSS iatZS)))))))))))))))))))))))))))))) (by kernel_rfl) (by kernel_rfl) (by kernel_rfl) (fun _ _ _ h => h) (Or.inl ⟨by rfl, ?_⟩) (by assumption) ?_
   rotate_left
   ·intro w hSw
    try dsimp only at hSw
    go_simp
    all_goals with_reducible rfl
   try simp only [Act.put, List.setIfInBounds_toArray, List.set_cons_zero, List.set_cons_succ]
   refine wpAnyH_take (i := 30) (v := ?_) (iatLS (iatSS (iatSS (iatSS (iatSS (iatSS (iatSS (iatSS (iatSS (iatSS (iatSS (iatSS (iatSS (iatSS (iatSS (iatSS (iatSS (iatSS (iatSS (iatSS (iatSS (iatSS (iatSS (iatSS (iatSS (iatSS (iatSS (iatSS (iatSS (iatSS (iatSS iatZS))))))))))))))))))))))))))))))) (by kernel_rfl) (by kernel_rfl) (by kernel_rfl) (fun _ _ _ h => h) (Or.inl ⟨by rfl, ?_⟩) (by assumption) ?_
   rotate_left
   ·intro w hSw
    try dsimp only at hSw
    go_simp
    all_goals with_reducible rfl
   try simp only [Act.put, List.setIfInBounds_toArray, List.set_cons_zero, List.set_cons_succ]
   refine wpAnyH_take (i := 31) (v := ?_) (iatLS (iatSS (iatSS (iatSS (iatSS (iatSS (iatSS (iatSS (iatSS (iatSS (iatSS (iatSS (iatSS (iatSS (iatSS (iatSS (iatSS (iatSS (iatSS (iatSS (iatSS (iatSS (iatSS (iatSS (iatSS (iatSS (iatSS (iatSS (iatSS (iatSS (iatSS (iatSS iatZS)))))))))))))))))))))))))))))))) (by kernel_rfl) (by kernel_rfl) (by kernel_rfl) (fun _ _ _ h => h) (Or.inl ⟨by rfl, ?_⟩) (by assumption) ?_
   rotate_left
   ·intro w hSw
    try dsimp only at hSw
    go_simp
    all_goals with_reducible rfl
   try simp only [Act.put, List.setIfInBounds_toArray, List.set_cons_zero, List.set_cons_succ]
   refine wpAnyH_take (i := 32) (v := ?_) (iatLS (iatSS (iatSS (iatSS (iatSS (iatSS (iatSS (iatSS (iatSS (iatSS (iatSS (iatSS (iatSS (iatSS (iatSS (iatSS (iatSS (iatSS (iatSS (iatSS (iatSS (iatSS (iatSS (iatSS (iatSS (iatSS (iatSS (iatSS (iatSS (iatSS (iatSS (iatSS (iatSS iatZS))))))))))))))))))))))))))))))))) (by kernel_rfl) (by kernel_rfl) (by kernel_rfl) (fun _ _ _ h => h) (Or.inl ⟨by rfl, ?_⟩) (by assumption) ?_
   rotate_left
   ·intro w hSw
    try dsimp only at hSw
    go_simp
    all_goals with_reducible rfl
   try simp only [Act.put, List.setIfInBounds_toArray, List.set_cons_zero, List.set_cons_succ]
   refine wpAnyH_take (i := 33) (v := ?_) (iatLS (iatSS (iatSS (iatSS (iatSS (iatSS (iatSS (iatSS (iatSS (iatSS (iatSS (iatSS (iatSS (iatSS (iatSS (iatSS (iatSS (iatSS (iatSS (iatSS (iatSS (iatSS (iatSS (iatSS (iatSS (iatSS (iatSS (iatSS (iatSS (iatSS (iatSS (iatSS (iatSS (iatSS iatZS)))))))))))))))))))))))))))))))))) (by kernel_rfl) (by kernel_rfl) (by kernel_rfl) (fun _ _ _ h => h) (Or.inl ⟨by rfl, ?_⟩) (by assumption) ?_
   rotate_left
   ·intro w hSw
    try dsimp only at hSw
    go_simp
    all_goals with_reducible rfl
   try simp only [Act.put, List.setIfInBounds_toArray, List.set_cons_zero, List.set_cons_succ]
   refine wpAnyH_take (i := 34) (v := ?_) (iatLS (iatSS (iatSS (iatSS (iatSS (iatSS (iatSS (iatSS (iatSS (iatSS (iatSS (iatSS (iatSS (iatSS (iatSS (iatSS (iatSS (iatSS (iatSS (iatSS (iatSS (iatSS (iatSS (iatSS (iatSS (iatSS (iatSS (iatSS (iatSS (iatSS (iatSS (iatSS (iatSS (iatSS (iatSS iatZS))))))))))))))))))))))))))))))))))) (by kernel_rfl) (by kernel_rfl) (by kernel_rfl) (fun _ _ _ h => h) (Or.inl ⟨by rfl, ?_⟩) (by assumption) ?_
   rotate_left
   ·intro w hSw
    try dsimp only at hSw
    go_simp
    all_goals with_reducible rfl
   try simp only [Act.put, List.setIfInBounds_toArray, List.set_cons_zero, List.set_cons_succ]
   refine wpAnyH_take (i := 35) (v := ?_) (iatLS (iatSS (iatSS (iatSS (iatSS (iatSS (iatSS (iatSS (iatSS (iatSS (iatSS (iatSS (iatSS (iatSS (iatSS (iatSS (iatSS (iatSS (iatSS (iatSS (iatSS (iatSS (iatSS (iatSS (iatSS (iatSS (iatSS (iatSS (iatSS (iatSS (iatSS (iatSS (iatSS (iatSS (iatSS (iatSS iatZS)))))))))))))))))))))))))))))))))))) (by kernel_rfl) (by kernel_rfl) (by kernel_rfl) (fun _ _ _ h => h) (Or.inl ⟨by rfl, ?_⟩) (by assumption) ?_
   rotate_left
   ·intro w hSw
    try dsimp only at hSw
    go_simp
    all_goals with_reducible rfl
   try simp only [Act.put, List.setIfInBounds_toArray, List.set_cons_zero, List.set_cons_succ]
   refine wpAnyH_take (i := 36) (v := ?_) (iatLS (iatSS (iatSS (iatSS (iatSS (iatSS (iatSS (iatSS (iatSS (iatSS (iatSS (iatSS (iatSS (iatSS (iatSS (iatSS (iatSS (iatSS (iatSS (iatSS (iatSS (iatSS (iatSS (iatSS (iatSS (iatSS (iatSS (iatSS (iatSS (iatSS (iatSS (iatSS (iatSS (iatSS (iatSS (iatSS (iatSS iatZS))))))))))))))))))))))))))))))))))))) (by kernel_rfl) (by kernel_rfl) (by kernel_rfl) (fun _ _ _ h => h) (Or.inl ⟨by rfl, ?_⟩) (by assumption) ?_
   rotate_left
   ·intro w hSw
    try dsimp only at hSw
    go_simp
    all_goals with_reducible rfl
   try simp only [Act.put, List.setIfInBounds_toArray, List.set_cons_zero, List.set_cons_succ]
   refine wpAnyH_take (i := 37) (v := ?_) (iatLS (iatSS (iatSS (iatSS (iatSS (iatSS (iatSS (iatSS (iatSS (iatSS (iatSS (iatSS (iatSS (iatSS (iatSS (iatSS (iatSS (iatSS (iatSS (iatSS (iatSS (iatSS (iatSS (iatSS (iatSS (iatSS (iatSS (iatSS (iatSS (iatSS (iatSS (iatSS (iatSS (iatSS (iatSS (iatSS (iatSS (iatSS iatZS)))))))))))))))))))))))))))))))))))))) (by kernel_rfl) (by kernel_rfl) (by kernel_rfl) (fun _ _ _ h => h) (Or.inl ⟨by rfl, ?_⟩) (by assumption) ?_
   rotate_left
   ·intro w hSw
    try dsimp only at hSw
    go_simp
    all_goals with_reducible rfl
   try simp only [Act.put, List.setIfInBounds_toArray, List.set_cons_zero, List.set_cons_succ]
   refine wpAnyH_take (i := 38) (v := ?_) (iatLS (iatSS (iatSS (iatSS (iatSS (iatSS (iatSS (iatSS (iatSS (iatSS (iatSS (iatSS (iatSS (iatSS (iatSS (iatSS (iatSS (iatSS (iatSS (iatSS (iatSS (iatSS (iatSS (iatSS (iatSS (iatSS (iatSS (iatSS (iatSS (iatSS (iatSS (iatSS (iatSS (iatSS (iatSS (iatSS (iatSS (iatSS (iatSS iatZS))))))))))))))))))))))))))))))))))))))) (by kernel_rfl) (by kernel_rfl) (by kernel_rfl) (fun _ _ _ h => h) (Or.inl ⟨by rfl, ?_⟩) (by assumption) ?_
   rotate_left
   ·intro w hSw
    try dsimp only at hSw
    go_simp
    all_goals with_reducible rfl
   try simp only [Act.put, List.setIfInBounds_toArray, List.set_cons_zero, List.set_cons_succ]
   refine wpAnyH_take (i := 39) (v := ?_) (iatLS (iatSS (iatSS (iatSS (iatSS (iatSS (iatSS (iatSS (iatSS (iatSS (iatSS (iatSS (iatSS (iatSS (iatSS (iatSS (iatSS (iatSS (iatSS (iatSS (iatSS (iatSS (iatSS (iatSS (iatSS (iatSS (iatSS (iatSS (iatSS (iatSS (iatSS (iatSS (iatSS (iatSS (iatSS (iatSS (iatSS (iatSS (iatSS (iatSS iatZS)))))))))))))))))))))))))))))))))))))))) (by kernel_rfl) (by kernel_rfl) (by kernel_rfl) (fun _ _ _ h => h) (Or.inl ⟨by rfl, ?_⟩) (by assumption) ?_
   rotate_left
   ·intro w hSw
    try dsimp only at hSw
    go_simp
    all_goals with_reducible rfl
   try simp only [Act.put, List.setIfInBounds_toArray, List.set_cons_zero, List.set_cons_succ]
   refine wpAnyH_take (i := 40) (v := ?_) (iatLS (iatSS (iatSS (iatSS (iatSS (iatSS (iatSS (iatSS (iatSS (iatSS (iatSS (iatSS (iatSS (iatSS (iatSS (iatSS (iatSS (iatSS (iatSS (iatSS (iatSS (iatSS (iatSS (iatSS (iatSS (iatSS (iatSS (iatSS (iatSS (iatSS (iatSS (iatSS (iatSS (iatSS (iatSS (iatSS (iatSS (iatSS (iatSS (iatSS (iatSS iatZS))))))))))))))))))))))))))))))))))))))))) (by kernel_rfl) (by kernel_rfl) (by kernel_rfl) (fun _ _ _ h => h) (Or.inl ⟨by rfl, ?_⟩) (by assumption) ?_
   rotate_left
   ·intro w hSw
    try dsimp only at hSw
    go_simp
    all_goals with_reducible rfl
   try simp only [Act.put, List.setIfInBounds_toArray, List.set_cons_zero, List.set_cons_succ]
   refine wpAnyH_take (i := 41) (v := ?_) (iatLS (iatSS (iatSS (iatSS (iatSS (iatSS (iatSS (iatSS (iatSS (iatSS (iatSS (iatSS (iatSS (iatSS (iatSS (iatSS (iatSS (iatSS (iatSS (iatSS (iatSS (iatSS (iatSS (iatSS (iatSS (iatSS (iatSS (iatSS (iatSS (iatSS (iatSS (iatSS (iatSS (iatSS (iatSS (iatSS (iatSS (iatSS (iatSS (iatSS (iatSS (iatSS iatZS)))))))))))))))))))))))))))))))))))))))))) (by kernel_rfl) (by kernel_rfl) (by kernel_rfl) (fun _ _ _ h => h) (Or.inl ⟨by rfl, ?_⟩) (by assumption) ?_
   rotate_left
   ·intro w hSw
    try dsimp only at hSw
    go_simp
    all_goals with_reducible rfl
   try simp only [Act.put, List.setIfInBounds_toArray, List.set_cons_zero, List.set_cons_succ]
   refine wpAnyH_done (by kernel_rfl) ?_ _
   go_wp2_with (fail)
   go_loopg [6, 7, 68] AL (fun gk _ _ iv wr => ∃ (k : Nat), Hid (gk = AL - k) ∧ k ≤ AL ∧ iv = .int .i64 (k : Int) ∧ Hid (goodF G (kids.drop k) (wl.drop k)) ∧ Hid (Below w.heap.size w wr) ∧ Hid (Blk wr bc 25 [.slice xta T xtc, .slice xna N xnc, .slice (some ⟨p, po, none⟩) L xac]) ∧ Hid (Blk wr bt 51 [.int .i64 hk, .int .i64 (i : Int), .int .i64 0, .slice a AL cap]))
   case atStart => exact ⟨0, Lib.hid rfl, Nat.zero_le _, rfl, HG0, HbV2, HC2, HT2⟩
   case round =>
    clear HG0 HbV2 HC2 HT2 hHeld
    obtain ⟨k, Hgk, hk', rfl, HG, Hb, HC, HT'⟩ := hrel
    obtain ⟨U, rfl⟩ : ∃ U, U = wr := ⟨_, rfl⟩
    by_cases hlt : k < AL
    ·have hkI : (k : Int) < (AL : Int) := by omega
     have hkI0 : (0 : Int) ≤ (k : Int) := by omega
     have hkl : k < wl.length := by rw [hALl.out]; exact hlt
     obtain ⟨b1, off, hd, ks, xa, xcap, rfl, hat⟩ := (HI.out.grown Hb.out).at (k := k) (by rw [HKL.out]; exact hlt)
     have HSz := Lib.hid (TrAt.size hat)
     have hg := HG.out
     rw [hat.cut, List.drop_eq_getElem_cons hkl] at hg
     obtain ⟨ks', e1, hgn, hgr⟩ := goodF_cons hg
     injection e1 with e1 e2
     subst e2
     obtain ⟨z, zo, rfl⟩ := HWI.out.at_ k (by rw [List.length_map]; exact hkl)
     have cz := (HWI.out.grown Hb.out).cell z zo rfl k (by rw [List.length_map]; exact hkl)
     rw [List.getElem_map, e1] at cz
     have HGN := Lib.hid hgn
     have HGR := Lib.hid hgr
     have cp2 := cell_up Hb.out cp
     have cq2 := cell_up Hb.out cq
     obtain ⟨x0, x1, x2, x3, hIk, _⟩ := hat
     have hbl := World.block_lt_of_cell? _ _ x0
     have hmx : ks.len ≤ xcap ∧ xcap ≤ 9223372036854775807 := ⟨hIk.le, hIk.max⟩
     obtain ⟨hdk, hdi, hda⟩ := hd
     dsimp only at cz x0 x1 x2 HGN HSz
     obtain ⟨xn, hxn⟩ : ∃ q, Hid (ks.len = q) := ⟨_, Lib.hid rfl⟩
     rw [hxn.out] at x3 hmx
     have hb1 : Below U.heap.size U (U.alloc (.cells #[.int .i64 hdk, .int .i64 hdi, .int .i64 hda, .slice xa xn xcap] 51)) := (Below.refl _ _).alloc (Nat.le_refl _) _
     have hBe := Blk.new U 51 #[.int .i64 hdk, .int .i64 hdi, .int .i64 hda, .slice xa xn xcap]
     go_upto_region 9 with fail
     obtain ⟨be, hbe⟩ : ∃ q, Hid (U.heap.size = q) := ⟨_, Lib.hid rfl⟩
     clear x0 x1 x2 x3 hbl
     generalize hV : World.alloc U _ = V at hb1 hBe ⊢
     rw [hbe.out] at hBe ⊢
     have hd9 := (Below.refl V.heap.size V).drew
     have hb2 := hb1.trans (hd9.mono hb1.size)
     have HIk := Lib.hid (hIk.grown hb2)
     have Hb2 := Lib.hid (Hb.out.trans (hb2.mono Hb.out.size))
     have HC9 := Lib.hid (HC.out.below hb2 HC.out.lt)
     have HT9 := Lib.hid (HT'.out.below hb2 HT'.out.lt)
     have HBe := Lib.hid (hBe.below hd9 hBe.lt)
     have cp9 := cell_up hb2 cp2
     have cq9 := cell_up hb2 cq2
     have cz9 := cell_up hb2 cz
     have HS9 : Hid ((V.drew).cell? ⟨bc, 0, none⟩ = some (.slice xta T xtc) ∧ (V.drew).cell? ⟨bc, 1, none⟩ = some (.slice xna N xnc) ∧ (V.drew).cell? ⟨bc, 2, none⟩ = some (.slice (some ⟨p, po, none⟩) L xac) ∧ (V.drew).cell? ⟨bt, 1, none⟩ = some (.int .i64 (i : Int)) ∧ (V.drew).cell? ⟨be, 0, none⟩ = some (.int .i64 hdk) ∧ (V.drew).cell? ⟨be, 1, none⟩ = some (.int .i64 hdi) ∧ (V.drew).cell? ⟨be, 2, none⟩ = some (.int .i64 hda) ∧ (V.drew).cell? ⟨be, 3, none⟩ = some (.slice xa xn xcap) ∧ (V.drew).cell? ⟨p, po + r, none⟩ = some (.slice (some ⟨q, qo, none⟩) RL rc) ∧ (V.drew).cell? ⟨q, qo + i, none⟩ = some (.slice (some ⟨z, zo, none⟩) AL wcp) ∧ (V.drew).cell? ⟨z, zo + k, none⟩ = some (.int .i64 hdk)) := Lib.hid ⟨HC9.out.cell 0, HC9.out.cell 1, HC9.out.cell 2, HT9.out.cell 1, HBe.out.cell 0, HBe.out.cell 1, HBe.out.cell 2, HBe.out.cell 3, cp9, cq9, cz9⟩
     have HIH : Hid (Calls Try.prog 47 #[.agg #[.slice xta T xtc, .slice xna N xnc, .slice (some ⟨p, po, none⟩) L xac], .agg #[.int .i64 hdk, .int .i64 hdi, .int .i64 hda, .slice xa xn xcap]] (V.drew) fun e W => e = .returned (.bool true) ∧ Below (V.drew).heap.size (V.drew) W) := Lib.hid (by
      have h9 := ih ⟨hdk, hdi, hda⟩ ks xa xcap (V.drew) (by have := HSz.out; omega) (HbW.out.trans (Hb2.out.mono HbW.out.size)) HIk.out HGN.out
      rwa [Hdv.out, hxn.out] at h9)
     have hlt1 := HC9.out.lt
     have hlt2 := HT9.out.lt
     have hlt3 := HBe.out.lt
     have hltp := World.block_lt_of_cell? _ _ cp9
     have hltq := World.block_lt_of_cell? _ _ cq9
     have hltz := World.block_lt_of_cell? _ _ cz9
     clear hV hb1 hBe hIk hb2 hd9 cp2 cq2 cz HIk
     refine wp_region_held_drew (S := fun w' => w'.cell? ⟨bc, 0, none⟩ = some (.slice xta T xtc) ∧ w'.cell? ⟨bc, 1, none⟩ = some (.slice xna N xnc) ∧ w'.cell? ⟨bc, 2, none⟩ = some (.slice (some ⟨p, po, none⟩) L xac) ∧ w'.cell? ⟨bt, 1, none⟩ = some (.int .i64 (i : Int)) ∧ w'.cell? ⟨be, 0, none⟩ = some (.int .i64 hdk) ∧ w'.cell? ⟨be, 1, none⟩ = some (.int .i64 hdi) ∧ w'.cell? ⟨be, 2, none⟩ = some (.int .i64 hda) ∧ w'.cell? ⟨be, 3, none⟩ = some (.slice xa xn xcap) ∧ w'.cell? ⟨p, po + r, none⟩ = some (.slice (some ⟨q, qo, none⟩) RL rc) ∧ w'.cell? ⟨q, qo + i, none⟩ = some (.slice (some ⟨z, zo, none⟩) AL wcp) ∧ w'.cell? ⟨z, zo + k, none⟩ = some (.int .i64 hdk)) (by kernel_rfl) ?_ (fun hHeld => ?_)
     ·exact HS9.out
     refine wpAnyH_take (i := 0) (v := ?_) (iatLS iatZS) (by kernel_rfl) (by kernel_rfl) (by kernel_rfl) (fun _ _ _ h => h) (Or.inl ⟨by rfl, ?_⟩) (by assumption) ?_
     rotate_left
     ·intro w hSw
      try dsimp only at hSw
      go_simp
      all_goals with_reducible rfl
     try simp only [Act.put, List.setIfInBounds_toArray, List.set_cons_zero, List.set_cons_succ]
     refine wpAnyH_take (i := 1) (v := ?_) (iatLS (iatSS iatZS)) (by kernel_rfl) (by kernel_rfl) (by kernel_rfl) (fun _ _ _ h => h) (Or.inl ⟨by rfl, ?_⟩) (by assumption) ?_
     rotate_left
     ·intro w hSw
      try dsimp only at hSw
      go_simp
      all_goals with_reducible rfl
     try simp only [Act.put, List.setIfInBounds_toArray, List.set_cons_zero, List.set_cons_succ]
     refine wpAnyH_take (i := 2) (v := ?_) (iatLS (iatSS (iatSS iatZS))) (by kernel_rfl) (by kernel_rfl) (by kernel_rfl) (fun _ _ _ h => h) (Or.inl ⟨by rfl, ?_⟩) (by assumption) ?_
     rotate_left
     ·intro w hSw
      try dsimp only at hSw
      go_simp
      all_goals with_reducible rfl
     try simp only [Act.put, List.setIfInBounds_toArray, List.set_cons_zero, List.set_cons_succ]
     refine wpAnyH_take (i := 3) (v := ?_) (iatLS (iatSS (iatSS (iatSS iatZS)))) (by kernel_rfl) (by kernel_rfl) (by kernel_rfl) (fun _ _ _ h => h) (Or.inl ⟨by rfl, ?_⟩) (by assumption) ?_
     rotate_left
     ·intro w hSw
      try dsimp only at hSw
      go_simp
      all_goals with_reducible rfl
     try simp only [Act.put, List.setIfInBounds_toArray, List.set_cons_zero, List.set_cons_succ]
     refine wpAnyH_take (i := 4) (v := ?_) (iatLS (iatSS (iatSS (iatSS (iatSS iatZS))))) (by kernel_rfl) (by kernel_rfl) (by kernel_rfl) (fun _ _ _ h => h) (Or.inl ⟨by rfl, ?_⟩) (by assumption) ?_
     rotate_left
     ·intro w hSw
      try dsimp only at hSw
      go_simp
      all_goals with_reducible rfl
     try simp only [Act.put, List.setIfInBounds_toArray, List.set_cons_zero, List.set_cons_succ]
     refine wpAnyH_take (i := 5) (v := ?_) (iatLS (iatSS (iatSS (iatSS (iatSS (iatSS iatZS)))))) (by kernel_rfl) (by kernel_rfl) (by kernel_rfl) (fun _ _ _ h => h) (Or.inl ⟨by rfl, ?_⟩) (by assumption) ?_
     rotate_left
     ·intro w hSw
      try dsimp only at hSw
      go_simp
      all_goals with_reducible rfl
     try simp only [Act.put, List.setIfInBounds_toArray, List.set_cons_zero, List.set_cons_succ]
     refine wpAnyH_take (i := 6) (v := ?_) (iatLS (iatSS (iatSS (iatSS (iatSS (iatSS (iatSS iatZS))))))) (by kernel_rfl) (by kernel_rfl) (by kernel_rfl) (fun _ _ _ h => h) (Or.inl ⟨by rfl, ?_⟩) (by assumption) ?_
     rotate_left
     ·intro w hSw
      try dsimp only at hSw
      go_simp
      all_goals with_reducible rfl
     try simp only [Act.put, List.setIfInBounds_toArray, List.set_cons_zero, List.set_cons_succ]
     refine wpAnyH_take (i := 7) (v := ?_) (iatLS (iatSS (iatSS (iatSS (iatSS (iatSS (iatSS (iatSS iatZS)))))))) (by kernel_rfl) (by kernel_rfl) (by kernel_rfl) (fun _ _ _ h => h) (Or.inl ⟨by rfl, ?_⟩) (by assumption) ?_
     rotate_left
     ·intro w hSw
      try dsimp only at hSw
      go_simp
      all_goals with_reducible rfl
     try simp only [Act.put, List.setIfInBounds_toArray, List.set_cons_zero, List.set_cons_succ]
     refine wpAnyH_take (i := 8) (v := ?_) (iatLS (iatSS (iatSS (iatSS (iatSS (iatSS (iatSS (iatSS (iatSS iatZS))))))))) (by kernel_rfl) (by kernel_rfl) (by kernel_rfl) (fun _ _ _ h => h) (Or.inl ⟨by rfl, ?_⟩) (by assumption) ?_
     rotate_left
     ·intro w hSw
      try dsimp only at hSw
      go_simp
      all_goals with_reducible rfl
     try simp only [Act.put, List.setIfInBounds_toArray, List.set_cons_zero, List.set_cons_succ]
     refine wpAnyH_take (i := 9) (v := ?_) (iatLS (iatSS (iatSS (iatSS (iatSS (iatSS (iatSS (iatSS (iatSS (iatSS iatZS)))))))))) (by kernel_rfl) (by kernel_rfl) (by kernel_rfl) (fun _ _ _ h => h) (Or.inl ⟨by rfl, ?_⟩) (by assumption) ?_
     rotate_left
     ·intro w hSw
      try dsimp only at hSw
      go_simp
      all_goals with_reducible rfl
     try simp only [Act.put, List.setIfInBounds_toArray, List.set_cons_zero, List.set_cons_succ]
     refine wpAnyH_take (i := 10) (v := ?_) (iatLS (iatSS (iatSS (iatSS (iatSS (iatSS (iatSS (iatSS (iatSS (iatSS (iatSS iatZS))))))))))) (by kernel_rfl) (by kernel_rfl) (by kernel_rfl) (fun _ _ _ h => h) (Or.inl ⟨by rfl, ?_⟩) (by assumption) ?_
     rotate_left
     ·intro w hSw
      try dsimp only at hSw
      go_simp
      all_goals with_reducible rfl
     try simp only [Act.put, List.setIfInBounds_toArray, List.set_cons_zero, List.set_cons_succ]
     refine wpAnyH_take (i := 11) (v := ?_) (iatLS (iatSS (iatSS (iatSS (iatSS (iatSS (iatSS (iatSS (iatSS (iatSS (iatSS (iatSS iatZS)))))))))))) (by kernel_rfl) (by kernel_rfl) (by kernel_rfl) (fun _ _ _ h => h) (Or.inl ⟨by rfl, ?_⟩) (by assumption) ?_
     rotate_left
     ·intro w hSw
      try dsimp only at hSw
      go_simp
      all_goals with_reducible rfl
     try simp only [Act.put, List.setIfInBounds_toArray, List.set_cons_zero, List.set_cons_succ]
     refine wpAnyH_take (i := 12) (v := ?_) (iatLS (iatSS (iatSS (iatSS (iatSS (iatSS (iatSS (iatSS (iatSS (iatSS (iatSS (iatSS (iatSS iatZS))))))))))))) (by kernel_rfl) (by kernel_rfl) (by kernel_rfl) (fun _ _ _ h => h) (Or.inl ⟨by rfl, ?_⟩) (by assumption) ?_
     rotate_left
     ·intro w hSw
      try dsimp only at hSw
      go_simp
      all_goals with_reducible rfl
     try simp only [Act.put, List.setIfInBounds_toArray, List.set_cons_zero, List.set_cons_succ]
     refine wpAnyH_take (i := 13) (v := ?_) (iatLS (iatSS (iatSS (iatSS (iatSS (iatSS (iatSS (iatSS (iatSS (iatSS (iatSS (iatSS (iatSS (iatSS iatZS)))))))))))))) (by kernel_rfl) (by kernel_rfl) (by kernel_rfl) (fun _ _ _ h => h) (Or.inl ⟨by rfl, ?_⟩) (by assumption) ?_
     rotate_left
     ·intro w hSw
      try dsimp only at hSw
      go_simp
      all_goals with_reducible rfl
     try simp only [Act.put, List.setIfInBounds_toArray, List.set_cons_zero, List.set_cons_succ]
     refine wpAnyH_take (i := 14) (v := ?_) (iatLS (iatSS (iatSS (iatSS (iatSS (iatSS (iatSS (iatSS (iatSS (iatSS (iatSS (iatSS (iatSS (iatSS (iatSS iatZS))))))))))))))) (by kernel_rfl) (by kernel_rfl) (by kernel_rfl) (fun _ _ _ h => h) (Or.inl ⟨by rfl, ?_⟩) (by assumption) ?_
     rotate_left
     ·intro w hSw
      try dsimp only at hSw
      go_simp
      all_goals with_reducible rfl
     try simp only [Act.put, List.setIfInBounds_toArray, List.set_cons_zero, List.set_cons_succ]
     refine wpAnyH_take (i := 15) (v := ?_) (iatLS (iatSS (iatSS (iatSS (iatSS (iatSS (iatSS (iatSS (iatSS (iatSS (iatSS (iatSS (iatSS (iatSS (iatSS (iatSS iatZS)))))))))))))))) (by kernel_rfl) (by kernel_rfl) (by kernel_rfl) (fun _ _ _ h => h) (Or.inl ⟨by rfl, ?_⟩) (by assumption) ?_
     rotate_left
     ·intro w hSw
      try dsimp only at hSw
      go_simp
      all_goals with_reducible rfl
     try simp only [Act.put, List.setIfInBounds_toArray, List.set_cons_zero, List.set_cons_succ]
     refine wpAnyH_take (i := 16) (v := ?_) (iatLS (iatSS (iatSS (iatSS (iatSS (iatSS (iatSS (iatSS (iatSS (iatSS (iatSS (iatSS (iatSS (iatSS (iatSS (iatSS (iatSS iatZS))))))))))))))))) (by kernel_rfl) (by kernel_rfl) (by kernel_rfl) (fun _ _ _ h => h) (Or.inl ⟨by rfl, ?_⟩) (by assumption) ?_
     rotate_left
     ·intro w hSw
      try dsimp only at hSw
      go_simp
      all_goals with_reducible rfl
     try simp only [Act.put, List.setIfInBounds_toArray, List.set_cons_zero, List.set_cons_succ]
     refine wpAnyH_take (i := 17) (v := ?_) (iatLS (iatSS (iatSS (iatSS (iatSS (iatSS (iatSS (iatSS (iatSS (iatSS (iatSS (iatSS (iatSS (iatSS (iatSS (iatSS (iatSS (iatSS iatZS)))))))))))))))))) (by kernel_rfl) (by kernel_rfl) (by kernel_rfl) (fun _ _ _ h => h) (Or.inl ⟨by rfl, ?_⟩) (by assumption) ?_
     rotate_left
     ·intro w hSw
      try dsimp only at hSw
      go_simp
      all_goals with_reducible rfl
     try simp only [Act.put, List.setIfInBounds_toArray, List.set_cons_zero, List.set_cons_succ]
     refine wpAnyH_ready (rs := [18]) (by kernel_rfl) (by simp) ?_
     refine AllReadyH.cons (iatLS (iatSS (iatSS (iatSS (iatSS (iatSS (iatSS (iatSS (iatSS (iatSS (iatSS (iatSS (iatSS (iatSS (iatSS (iatSS (iatSS (iatSS (iatSS iatZS))))))))))))))))))) (fun K hK => ?_) AllReadyH.nil
     go_simp
     (with_reducible refine HIH.out.mono ?_)
     rintro e9 w9 ⟨rfl, hb9⟩
     have Hb10 := Lib.hid (Hb2.out.trans (hb9.mono Hb2.out.size))
     have HC10 := Lib.hid (HC9.out.below hb9 HC9.out.lt)
     have HT10 := Lib.hid (HT9.out.below hb9 HT9.out.lt)
     have HBe10 := Lib.hid (HBe.out.below hb9 HBe.out.lt)
     have HS10 : Hid (w9.cell? ⟨bc, 0, none⟩ = some (.slice xta T xtc) ∧ w9.cell? ⟨bc, 1, none⟩ = some (.slice xna N xnc) ∧ w9.cell? ⟨bc, 2, none⟩ = some (.slice (some ⟨p, po, none⟩) L xac) ∧ w9.cell? ⟨bt, 1, none⟩ = some (.int .i64 (i : Int)) ∧ w9.cell? ⟨be, 0, none⟩ = some (.int .i64 hdk) ∧ w9.cell? ⟨be, 1, none⟩ = some (.int .i64 hdi) ∧ w9.cell? ⟨be, 2, none⟩ = some (.int .i64 hda) ∧ w9.cell? ⟨be, 3, none⟩ = some (.slice xa xn xcap) ∧ w9.cell? ⟨p, po + r, none⟩ = some (.slice (some ⟨q, qo, none⟩) RL rc) ∧ w9.cell? ⟨q, qo + i, none⟩ = some (.slice (some ⟨z, zo, none⟩) AL wcp) ∧ w9.cell? ⟨z, zo + k, none⟩ = some (.int .i64 hdk)) := Lib.hid ⟨HC10.out.cell 0, HC10.out.cell 1, HC10.out.cell 2, HT10.out.cell 1, HBe10.out.cell 0, HBe10.out.cell 1, HBe10.out.cell 2, HBe10.out.cell 3, cell_up hb9 cp9, cell_up hb9 cq9, cell_up hb9 cz9⟩
     clear hb9
     try dsimp only
     refine hK.out _ _ ?_ (fun hHeld => ?_)
     ·exact HS10.out
     clear hK K
     try simp only [Act.put, List.setIfInBounds_toArray, List.set_cons_zero, List.set_cons_succ]
     refine wpAnyH_take (i := 19) (v := ?_) (iatLS (iatSS (iatSS (iatSS (iatSS (iatSS (iatSS (iatSS (iatSS (iatSS (iatSS (iatSS (iatSS (iatSS (iatSS (iatSS (iatSS (iatSS (iatSS (iatSS iatZS)))))))))))))))))))) (by kernel_rfl) (by kernel_rfl) (by kernel_rfl) (fun _ _ _ h => h) (Or.inl ⟨by rfl, ?_⟩) (by assumption) ?_
     rotate_left
     ·intro w hSw
      try dsimp only at hSw
      go_simp
      all_goals with_reducible rfl
     try simp only [Act.put, List.setIfInBounds_toArray, List.set_cons_zero, List.set_cons_succ]
     refine wpAnyH_take (i := 20) (v := ?_) (iatLS (iatSS (iatSS (iatSS (iatSS (iatSS (iatSS (iatSS (iatSS (iatSS (iatSS (iatSS (iatSS (iatSS (iatSS (iatSS (iatSS (iatSS (iatSS (iatSS (iatSS iatZS))))))))))))))))))))) (by kernel_rfl) (by kernel_rfl) (by kernel_rfl) (fun _ _ _ h => h) (Or.inl ⟨by rfl, ?_⟩) (by assumption) ?_
     rotate_left
     ·intro w hSw
      try dsimp only at hSw
      go_simp
      all_goals with_reducible rfl
     try simp only [Act.put, List.setIfInBounds_toArray, List.set_cons_zero, List.set_cons_succ]
     refine wpAnyH_done (by kernel_rfl) ?_ _
     go_wp2_with (fail)
     go_roundg (AL - (k + 1))
     case measure => have := Hgk.out; omega
     case rel => exact ⟨k + 1, Lib.hid rfl, by omega, by go_num, HGR, Hb10, HC10, HT10⟩
    ·obtain rfl : k = AL := by omega
     have hkI : ¬ (k : Int) < (k : Int) := by omega
     have HF := Hb.out
     go_wp2_with (fail)
     first | exact ⟨rfl, HF⟩ | exact bodyPost_ret (v := .bool true) (by simp [results, Try.results47, go_sem]; try first | rfl | assumption | omega) rfl ⟨rfl, HF⟩
end Go.Proofs.Ytfdhaochnbfndaa
