/- Texts of layer 2 joined: No. -/
import Derived.Test.YtkdfobnkebkpfaaJE
set_option linter.unusedVariables false
set_option linter.unusedSimpArgs false
/- nodesOf: the walk. -/
namespace Go.Proofs.Ytkdfobnkebkpfaa
open Go.RowKit Go.Shelf

attribute [local go_sem] Oper.semAt_some

set_option maxRecDepth 100000 in
set_option maxHeartbeats 8000000 in
theorem nodesOf_any (hh : Hd) (kids : Fo) (sa : Option Addr) (sc : Nat) (a : Option Addr) (cap : Nat) (w : World) (hss : Sps w sa sc hh.set) (hk : Items w a cap kids) (hN : kids.size ≤ 1099511627770) :
    Calls Try.prog 65 #[itemV hh sa sc a kids.len cap] w fun e w' => ∃ la lc, e = .returned (.slice la (nodsP (Fo.pre 1 (.cons hh kids .nil))).1.length lc) ∧ OwnN w' w.heap.size la (nodsP (Fo.pre 1 (.cons hh kids .nil))).1.length lc (nodsP (Fo.pre 1 (.cons hh kids .nil))).1 ∧ Below w.heap.size w w' := by
  have hN' : kids.size ≤ 1099511627776 := by omega
  refine (callsIn_wide (n := 0)).1 ?_
  refine callsIn_of_wp_marks Try.func65 rfl trivial ?_ rfl
  simp only [Try.ntmps65, List.size_toArray, List.length_cons, List.length_nil, Nat.reduceAdd, Nat.reduceSub, Array.replicate_succ, Array.replicate_zero, List.push_toArray, List.append_toArray, List.nil_append, List.cons_append]
  gi_wp2_with (fail)
  refine ⟨trivial, rfl, ((callsIn_wide (n := 0)).2 (all_any _ rfl _)).mono ?_⟩
  rintro e w' ⟨rfl, rfl⟩
  gi_wp2_with (fail)
  have hbel : Below w.heap.size w (((((w.alloc (.cells #[.int .i64 hh.k, .slice sa hh.set.length sc, .slice a kids.len cap] 25)).alloc (.cells #[.slice none 0 0] 70)).alloc (.cells #[.slice none 0 0] 71)).alloc (.cells #[.int .i64 hh.k, .slice sa hh.set.length sc, .slice a kids.len cap] 25)).alloc (.cells #[inV] 48)) :=
    (((((Below.refl _ w).alloc (Nat.le_refl _) _).alloc (by simp) _).alloc (by simp; omega) _).alloc (by simp; omega) _).alloc (by simp; omega) _
  have hB3 := (Blk.new (((w.alloc (.cells #[.int .i64 hh.k, .slice sa hh.set.length sc, .slice a kids.len cap] 25)).alloc (.cells #[.slice none 0 0] 70)).alloc (.cells #[.slice none 0 0] 71)) 25 #[.int .i64 hh.k, .slice sa hh.set.length sc, .slice a kids.len cap]).alloc (.cells #[inV] 48)
  have hBi := World.alloc_heap_new ((((w.alloc (.cells #[.int .i64 hh.k, .slice sa hh.set.length sc, .slice a kids.len cap] 25)).alloc (.cells #[.slice none 0 0] 70)).alloc (.cells #[.slice none 0 0] 71)).alloc (.cells #[.int .i64 hh.k, .slice sa hh.set.length sc, .slice a kids.len cap] 25)) (.cells #[inV] 48)
  rw [World.size_alloc, World.size_alloc, World.size_alloc, World.size_alloc] at hBi
  have hb1 : Boxed (((((w.alloc (.cells #[.int .i64 hh.k, .slice sa hh.set.length sc, .slice a kids.len cap] 25)).alloc (.cells #[.slice none 0 0] 70)).alloc (.cells #[.slice none 0 0] 71)).alloc (.cells #[.int .i64 hh.k, .slice sa hh.set.length sc, .slice a kids.len cap] 25)).alloc (.cells #[inV] 48)) (w.heap.size + 1) 70 (.slice none 0 0) := by
    have := (Boxed.new (w.alloc (.cells #[.int .i64 hh.k, .slice sa hh.set.length sc, .slice a kids.len cap] 25)) 70 (.slice none 0 0))
    rw [World.size_alloc] at this
    exact ((this.alloc _).alloc _).alloc _
  have hb2 : Boxed (((((w.alloc (.cells #[.int .i64 hh.k, .slice sa hh.set.length sc, .slice a kids.len cap] 25)).alloc (.cells #[.slice none 0 0] 70)).alloc (.cells #[.slice none 0 0] 71)).alloc (.cells #[.int .i64 hh.k, .slice sa hh.set.length sc, .slice a kids.len cap] 25)).alloc (.cells #[inV] 48)) (w.heap.size + 1 + 1) 71 (.slice none 0 0) := by
    have := (Boxed.new ((w.alloc (.cells #[.int .i64 hh.k, .slice sa hh.set.length sc, .slice a kids.len cap] 25)).alloc (.cells #[.slice none 0 0] 70)) 71 (.slice none 0 0))
    rw [World.size_alloc, World.size_alloc] at this
    exact (this.alloc _).alloc _
  rw [World.size_alloc, World.size_alloc, World.size_alloc] at hB3
  have hws : (((((w.alloc (.cells #[.int .i64 hh.k, .slice sa hh.set.length sc, .slice a kids.len cap] 25)).alloc (.cells #[.slice none 0 0] 70)).alloc (.cells #[.slice none 0 0] 71)).alloc (.cells #[.int .i64 hh.k, .slice sa hh.set.length sc, .slice a kids.len cap] 25)).alloc (.cells #[inV] 48)).heap.size = w.heap.size + 1 + 1 + 1 + 1 + 1 := by simp
  generalize (((((w.alloc (.cells #[.int .i64 hh.k, .slice sa hh.set.length sc, .slice a kids.len cap] 25)).alloc (.cells #[.slice none 0 0] 70)).alloc (.cells #[.slice none 0 0] 71)).alloc (.cells #[.int .i64 hh.k, .slice sa hh.set.length sc, .slice a kids.len cap] 25)).alloc (.cells #[inV] 48)) = wl at hbel hB3 hBi hb1 hb2 hws ⊢
  have Hws := Lib.hid hws
  clear hws
  refine range_law (T := itT) (n₀ := w.heap.size) (encs := encs) (Good := Good w (Fo.pre 1 (.cons hh kids .nil))) (Full := Full (Fo.pre 1 (.cons hh kids .nil))) (gf := 51) (lb := #[.pointer (some ⟨w.heap.size + 1 + 1 + 1, 0, none⟩), .pointer (some ⟨w.heap.size + 1 + 1 + 1 + 1, 0, none⟩)]) rfl (enters_of Try.func51 (by kernel_rfl) rfl)
    hbel.size (all_walks w wl (w.heap.size + 1 + 1 + 1) (w.heap.size + 1 + 1 + 1 + 1) hh kids sa sc a cap hss hk hbel hN' (hB3.cell 0) (hB3.cell 1) (hB3.cell 2) hBi) (fun _ => rfl)
    (NdI w) (fun _ _ => False)
    ?bI ?bIx ?h0 ?round ?done ?stop
  case bI => exact bears_nd w _ hbel.size
  case bIx => exact fun _ _ _ _ h => h.elim
  case h0 => exact ⟨hbel, none, 0, none, 0, hb1, hb2, World.ownsRow_nil _ _ _ _, World.ownsRow_nil _ _ _ _⟩
  case stop => rintro D pre W hD hgood hI; exact hI.elim
  case round =>
    rintro l pre ⟨⟨d, hd, len⟩, xsa, xsc, xa, xcap⟩ W hl ⟨r, hr⟩ hI hgood
    have hsp : Sps w xsa xsc hd.set := hgood.2 _ (List.mem_append_right _ (List.mem_singleton.2 rfl))
    obtain ⟨⟨rst, hrst⟩, -⟩ := hgood
    have hdep := nodsP_depth (.cons hh kids .nil) (pre.map (·.nd)) ⟨d, hd, len⟩ rst (by simpa using hrst)
    have hplen : pre.length + 1 ≤ kids.size + 1 := by
      have h1 := congrArg List.length hrst
      rw [Fo.pre_length] at h1
      simp [Fo.size] at h1
      omega
    have hlok := nodsP_ok (pre.map (·.nd))
    have hnl := nodsP_length (pre.map (·.nd))
    rw [List.length_map] at hnl
    obtain ⟨hB, la, lc, ta, tc, h1, h2, h3, h4⟩ := hI
    have Hst : Hid (nodsP ((pre ++ ([⟨⟨d, hd, len⟩, xsa, xsc, xa, xcap⟩] : List Nx)).map (fun y : Nx => y.nd)) = nodStep (nodsP (pre.map (·.nd))) ⟨d, hd, len⟩) := Lib.hid (by rw [List.map_append]; exact nodsP_snoc _ _)
    generalize hS : nodsP (pre.map (·.nd)) = S at *
    clear hS
    obtain ⟨ns, last⟩ := S
    simp only at hdep hlok hnl h2 h3 h4
    obtain ⟨hd1, hd2⟩ := hdep
    generalize hLen : pre.length = L at *
    generalize hLa : last.length = M at *
    have HLa := Lib.hid hLa
    have Hnl := Lib.hid hnl
    have HLen := Lib.hid hLen
    have Hplen := Lib.hid hplen
    have Hlok := Lib.hid hlok
    clear hLa hnl hLen hplen hlok hrst
    dsimp only [encs, itemV]
    have hws : w.heap.size + 4 ≤ wl.heap.size := by have := Hws.out; omega
    have hlW : l < W.heap.size := (Array.getElem?_eq_some_iff.1 hr).1
    gi_wp2_with (fail)
    refine ⟨(KeepsOthers.alloc W _).from _, Spares.grown (World.grownBy_alloc W _ none) hB.size (fun r e => by cases e), fun W2 hg2 => ?_⟩
    have hx := (Blk.new W 25 #[.int .i64 hd.k, .slice xsa hd.set.length xsc, .slice xa len xcap]).kept hg2 (by simp; omega)
    have hb1 := (h1.alloc (.cells #[.int .i64 hd.k, .slice xsa hd.set.length xsc, .slice xa len xcap] 25)).kept hg2 (by simp; omega)
    have hb2 := (h2.alloc (.cells #[.int .i64 hd.k, .slice xsa hd.set.length xsc, .slice xa len xcap] 25)).kept hg2 (by simp; omega)
    have hrow2 : ∀ {e size n : Nat} {v : Value} {xs : List Value}, W.ownsRow w.heap.size e size v n xs → W2.ownsRow w.heap.size e size v n xs := by
      intro e size n v xs h
      refine (World.ownsRow.alloc h _).kept hg2 (.inr (own_ne (T := fun _ => false) h rfl hr (.inl rfl)))
    have hB2 : Below w.heap.size w W2 := hB.trans (((Below.refl w.heap.size W).alloc hB.size _).grown hg2 (by have := hB.size; simp; omega) (fun k e => by cases e; omega))
    have x0 := hx.cell 0
    have x1 := hx.cell 1
    have x2 := hx.cell 2
    simp only [List.getElem?_cons_zero, List.getElem?_cons_succ] at x0 x1 x2
    clear hx hg2 hr hB hlW
    gi_wp2_with (fail)
    have h3' := hrow2 h3
    have h4' := hrow2 h4
    clear h3 h4 hrow2 h1 h2
    have hspW := hsp.grown hB2
    gi_cut [7] from 12 (fun p wx => ∃ bx, p = .pointer (some ⟨bx, 0, none⟩) ∧ Blk wx bx 98 (cellsN ⟨hd.k, fS hd.set, -1, -1⟩) ∧ Below W2.heap.size W2 wx ∧ W2.heap.size ≤ bx)
    case first J K' hJ hK' =>
      clear hb1 hb2 h3' h4' Hst HLa Hnl HLen Hplen Hlok hB3 hBi Hws hspW x2 hd1 hd2 hk hss hN hN'
      have hWlt : W.heap.size < W2.heap.size := World.block_lt_of_cell? W2 _ x0
      have hbd : Below W2.heap.size W2 W2.drew := (Below.refl _ W2).drew
      have hbA : ∀ o, Below W2.heap.size W2 (W2.drew.alloc o) := fun o => hbd.alloc (Nat.le_refl _) o
      have yB0 : ∀ wx, Below W2.heap.size W2 wx → wx.cell? ⟨W.heap.size, 0, none⟩ = some (.int .i64 hd.k) := fun wx hb => (hb.cell (p := ⟨W.heap.size, 0, none⟩) hWlt).trans x0
      have yB1 : ∀ wx, Below W2.heap.size W2 wx → wx.cell? ⟨W.heap.size, 1, none⟩ = some (.slice xsa hd.set.length xsc) := fun wx hb => (hb.cell (p := ⟨W.heap.size, 1, none⟩) hWlt).trans x1
      have u0 := yB0 _ (hbA (.cells #[.int .i64 0, .int .u64 0, .int .u64 0, .int .u64 0, .int .u64 0, .int .i64 0, .int .i64 0] 98))
      have u1 := yB1 _ (hbA (.cells #[.int .i64 0, .int .u64 0, .int .u64 0, .int .u64 0, .int .u64 0, .int .i64 0, .int .i64 0] 98))
      have t0 := yB0 _ hbd
      have t1 := yB1 _ hbd
      have hspD : Sps W2.drew xsa xsc hd.set := hsp.grown (hB2.trans (hbd.mono hB2.size))
      have hspA : Sps (W2.drew.alloc (.cells #[.int .i64 0, .int .u64 0, .int .u64 0, .int .u64 0, .int .u64 0, .int .i64 0, .int .i64 0] 98)) xsa xsc hd.set := hsp.grown (hB2.trans ((hbA _).mono hB2.size))
      refine wpIn_region_any (by kernel_rfl) ?_
      change wpAnyIn _ _ _ _ _ _ _ _ _ (World.drew _)
      refine wpAnyInR_of_wide (by kernel_rfl) _ _ _ _ ?_
      refine wpAnyIn_take (i := 0) (v := .pointer (some ⟨W.heap.size, 0, none⟩)) rfl rfl (by kernel_rfl) (by kernel_rfl) (by kernel_rfl) (fun _ _ _ h => h) ⟨Or.inl ⟨by rfl, by intro w; go_simp⟩, fun _ => rfl⟩ ?_
      refine wpAnyIn_take (i := 2) (v := .pointer (some ⟨W.heap.size, 1, none⟩)) rfl rfl (by kernel_rfl) (by kernel_rfl) (by kernel_rfl) (fun _ _ _ h => h) ⟨Or.inl ⟨by rfl, by intro w; go_simp⟩, fun _ => rfl⟩ ?_
      refine wpAnyIn_ready (rs := [1, 3, 6]) (by kernel_rfl) (by simp) ?_
      refine AllReadyIn.cons rfl (fun K hK => ?_) (AllReadyIn.cons rfl (fun K hK => ?_) (AllReadyIn.cons rfl (fun K hK => ?_) AllReadyIn.nil))
      · go_simp
        refine hK _ _ ?_
        clear hK K
        refine wpAnyIn_ready (rs := [3, 6]) (by kernel_rfl) (by simp) ?_
        refine AllReadyIn.cons rfl (fun K hK => ?_) (AllReadyIn.cons rfl (fun K hK => ?_) AllReadyIn.nil)
        · go_simp
          refine hK _ _ ?_
          clear hK K
          refine wpAnyIn_ready (rs := [4, 6]) (by kernel_rfl) (by simp) ?_
          refine AllReadyIn.cons rfl (fun K hK => ?_) (AllReadyIn.cons rfl (fun K hK => ?_) AllReadyIn.nil)
          · go_simp
            refine ⟨trivial, rfl, ((callsIn_wide (n := 0)).2 (setOf_any xsa hd.set.length xsc hd.set _ hspD rfl)).mono ?_⟩
            rintro e W3 ⟨⟨f, rfl, hf⟩, hb3⟩
            obtain rfl := fS_of hf
            have hbw : Below W2.heap.size W2 W3 := hbd.trans (hb3.mono (Nat.le_refl _))
            have y0 := yB0 _ hbw
            have v0 := yB0 _ (hbw.alloc hbw.size (.cells #[.int .i64 0, .int .u64 0, .int .u64 0, .int .u64 0, .int .u64 0, .int .i64 0, .int .i64 0] 98))
            (try dsimp only)
            (try simp only [wds])
            refine hK _ _ ?_
            clear hK K
            refine wpAnyIn_take (i := 5) (v := .agg #[.int .i64 hd.k, .int .u64 ((fS hd.set 0).toNat : Int), .int .u64 ((fS hd.set 1).toNat : Int), .int .u64 ((fS hd.set 2).toNat : Int), .int .u64 ((fS hd.set 3).toNat : Int), .int .i64 (-1), .int .i64 (-1)]) rfl rfl (by kernel_rfl) (by kernel_rfl) (by kernel_rfl) (fun _ _ _ h => h) ⟨Or.inl ⟨by rfl, by intro w; go_simp; (try simp only [cellsN, wds, List.cons_append, List.nil_append]); (try rfl)⟩, fun _ => rfl⟩ ?_
            refine wpAnyIn_ready (rs := [6]) (by kernel_rfl) (by simp) ?_
            refine AllReadyIn.cons rfl (fun K hK => ?_) AllReadyIn.nil
            · go_simp
              refine hK _ _ ?_
              clear hK K
              refine wpAnyIn_ready (rs := [7]) (by kernel_rfl) (by simp) ?_
              refine AllReadyIn.cons rfl (fun K hK => ?_) AllReadyIn.nil
              · go_simp
                refine hK _ _ ?_
                clear hK K
                refine wpAnyIn_done (by kernel_rfl) ?_ _
                (first | refine hK' _ _ (Met.intro (hJ _ _ ?_)) | refine Met.intro (hJ _ _ ?_))
                (repeat apply Exists.intro)
                refine ⟨?_, rfl⟩
                exact ⟨_, rfl, Blk.new _ _ _, hbw.alloc hbw.size _, hbw.size⟩
          · go_simp
            refine hK _ _ ?_
            clear hK K
            refine wpAnyIn_ready (rs := [4]) (by kernel_rfl) (by simp) ?_
            refine AllReadyIn.cons rfl (fun K hK => ?_) AllReadyIn.nil
            · go_simp
              refine ⟨trivial, rfl, ((callsIn_wide (n := 0)).2 (setOf_any xsa hd.set.length xsc hd.set _ hspA rfl)).mono ?_⟩
              rintro e W3 ⟨⟨f, rfl, hf⟩, hb3⟩
              obtain rfl := fS_of hf
              have hbw : Below W2.heap.size W2 W3 := (hbA _).trans (hb3.mono (by simp))
              have y0 := yB0 _ hbw
              have v0 := yB0 _ (hbw.alloc hbw.size (.cells #[.int .i64 0, .int .u64 0, .int .u64 0, .int .u64 0, .int .u64 0, .int .i64 0, .int .i64 0] 98))
              have hz := (Blk.new W2.drew 98 #[.int .i64 0, .int .u64 0, .int .u64 0, .int .u64 0, .int .u64 0, .int .i64 0, .int .i64 0]).below hb3 (by simp)
              rw [show W2.drew.heap.size = W2.heap.size from rfl] at hz
              have hzl := hz.lt
              have z0 := hz.cell 0
              have z1 := hz.cell 1
              have z2 := hz.cell 2
              have z3 := hz.cell 3
              have z4 := hz.cell 4
              have z5 := hz.cell 5
              have z6 := hz.cell 6
              simp only [List.getElem?_cons_zero, List.getElem?_cons_succ] at z0 z1 z2 z3 z4 z5 z6
              have f0 := hz.frozen 0
              have f1 := hz.frozen 1
              have f2 := hz.frozen 2
              have f3 := hz.frozen 3
              have f4 := hz.frozen 4
              have f5 := hz.frozen 5
              have f6 := hz.frozen 6
              (try dsimp only)
              (try simp only [wds])
              refine hK _ _ ?_
              clear hK K
              refine wpAnyIn_take (i := 5) (v := .agg #[.int .i64 hd.k, .int .u64 ((fS hd.set 0).toNat : Int), .int .u64 ((fS hd.set 1).toNat : Int), .int .u64 ((fS hd.set 2).toNat : Int), .int .u64 ((fS hd.set 3).toNat : Int), .int .i64 (-1), .int .i64 (-1)]) rfl rfl (by kernel_rfl) (by kernel_rfl) (by kernel_rfl) (fun _ _ _ h => h) ⟨Or.inl ⟨by rfl, by intro w; go_simp; (try simp only [cellsN, wds, List.cons_append, List.nil_append]); (try rfl)⟩, fun _ => rfl⟩ ?_
              refine wpAnyIn_ready (rs := [7]) (by kernel_rfl) (by simp) ?_
              refine AllReadyIn.cons rfl (fun K hK => ?_) AllReadyIn.nil
              · go_simp
                refine hK _ _ ?_
                clear hK K
                refine wpAnyIn_done (by kernel_rfl) ?_ _
                (first | refine hK' _ _ (Met.intro (hJ _ _ ?_)) | refine Met.intro (hJ _ _ ?_))
                (repeat apply Exists.intro)
                refine ⟨?_, rfl⟩
                refine ⟨_, rfl, ?_, ?_, Nat.le_refl _⟩
                · exact ((((((hz.set 0 _).set 1 _).set 2 _).set 3 _).set 4 _).set 5 _).set 6 _
                · exact ((((((hbw.setCell (Nat.le_refl _) _).setCell (Nat.le_refl _) _).setCell (Nat.le_refl _) _).setCell (Nat.le_refl _) _).setCell (Nat.le_refl _) _).setCell (Nat.le_refl _) _).setCell (Nat.le_refl _) _
        · go_simp
          refine hK _ _ ?_
          clear hK K
          refine wpAnyIn_ready (rs := [3]) (by kernel_rfl) (by simp) ?_
          refine AllReadyIn.cons rfl (fun K hK => ?_) AllReadyIn.nil
          · go_simp
            refine hK _ _ ?_
            clear hK K
            refine wpAnyIn_ready (rs := [4]) (by kernel_rfl) (by simp) ?_
            refine AllReadyIn.cons rfl (fun K hK => ?_) AllReadyIn.nil
            · go_simp
              refine ⟨trivial, rfl, ((callsIn_wide (n := 0)).2 (setOf_any xsa hd.set.length xsc hd.set _ hspA rfl)).mono ?_⟩
              rintro e W3 ⟨⟨f, rfl, hf⟩, hb3⟩
              obtain rfl := fS_of hf
              have hbw : Below W2.heap.size W2 W3 := (hbA _).trans (hb3.mono (by simp))
              have y0 := yB0 _ hbw
              have v0 := yB0 _ (hbw.alloc hbw.size (.cells #[.int .i64 0, .int .u64 0, .int .u64 0, .int .u64 0, .int .u64 0, .int .i64 0, .int .i64 0] 98))
              have hz := (Blk.new W2.drew 98 #[.int .i64 0, .int .u64 0, .int .u64 0, .int .u64 0, .int .u64 0, .int .i64 0, .int .i64 0]).below hb3 (by simp)
              rw [show W2.drew.heap.size = W2.heap.size from rfl] at hz
              have hzl := hz.lt
              have z0 := hz.cell 0
              have z1 := hz.cell 1
              have z2 := hz.cell 2
              have z3 := hz.cell 3
              have z4 := hz.cell 4
              have z5 := hz.cell 5
              have z6 := hz.cell 6
              simp only [List.getElem?_cons_zero, List.getElem?_cons_succ] at z0 z1 z2 z3 z4 z5 z6
              have f0 := hz.frozen 0
              have f1 := hz.frozen 1
              have f2 := hz.frozen 2
              have f3 := hz.frozen 3
              have f4 := hz.frozen 4
              have f5 := hz.frozen 5
              have f6 := hz.frozen 6
              (try dsimp only)
              (try simp only [wds])
              refine hK _ _ ?_
              clear hK K
              refine wpAnyIn_take (i := 5) (v := .agg #[.int .i64 hd.k, .int .u64 ((fS hd.set 0).toNat : Int), .int .u64 ((fS hd.set 1).toNat : Int), .int .u64 ((fS hd.set 2).toNat : Int), .int .u64 ((fS hd.set 3).toNat : Int), .int .i64 (-1), .int .i64 (-1)]) rfl rfl (by kernel_rfl) (by kernel_rfl) (by kernel_rfl) (fun _ _ _ h => h) ⟨Or.inl ⟨by rfl, by intro w; go_simp; (try simp only [cellsN, wds, List.cons_append, List.nil_append]); (try rfl)⟩, fun _ => rfl⟩ ?_
              refine wpAnyIn_ready (rs := [7]) (by kernel_rfl) (by simp) ?_
              refine AllReadyIn.cons rfl (fun K hK => ?_) AllReadyIn.nil
              · go_simp
                refine hK _ _ ?_
                clear hK K
                refine wpAnyIn_done (by kernel_rfl) ?_ _
                (first | refine hK' _ _ (Met.intro (hJ _ _ ?_)) | refine Met.intro (hJ _ _ ?_))
                (repeat apply Exists.intro)
                refine ⟨?_, rfl⟩
                refine ⟨_, rfl, ?_, ?_, Nat.le_refl _⟩
                · exact ((((((hz.set 0 _).set 1 _).set 2 _).set 3 _).set 4 _).set 5 _).set 6 _
                · exact ((((((hbw.setCell (Nat.le_refl _) _).setCell (Nat.le_refl _) _).setCell (Nat.le_refl _) _).setCell (Nat.le_refl _) _).setCell (Nat.le_refl _) _).setCell (Nat.le_refl _) _).setCell (Nat.le_refl _) _
      · go_simp
        refine hK _ _ ?_
        clear hK K
        refine wpAnyIn_ready (rs := [1, 4, 6]) (by kernel_rfl) (by simp) ?_
        refine AllReadyIn.cons rfl (fun K hK => ?_) (AllReadyIn.cons rfl (fun K hK => ?_) (AllReadyIn.cons rfl (fun K hK => ?_) AllReadyIn.nil))
        · go_simp
          refine hK _ _ ?_
          clear hK K
          refine wpAnyIn_ready (rs := [4, 6]) (by kernel_rfl) (by simp) ?_
          refine AllReadyIn.cons rfl (fun K hK => ?_) (AllReadyIn.cons rfl (fun K hK => ?_) AllReadyIn.nil)
          · go_simp
            refine ⟨trivial, rfl, ((callsIn_wide (n := 0)).2 (setOf_any xsa hd.set.length xsc hd.set _ hspD rfl)).mono ?_⟩
            rintro e W3 ⟨⟨f, rfl, hf⟩, hb3⟩
            obtain rfl := fS_of hf
            have hbw : Below W2.heap.size W2 W3 := hbd.trans (hb3.mono (Nat.le_refl _))
            have y0 := yB0 _ hbw
            have v0 := yB0 _ (hbw.alloc hbw.size (.cells #[.int .i64 0, .int .u64 0, .int .u64 0, .int .u64 0, .int .u64 0, .int .i64 0, .int .i64 0] 98))
            (try dsimp only)
            (try simp only [wds])
            refine hK _ _ ?_
            clear hK K
            refine wpAnyIn_take (i := 5) (v := .agg #[.int .i64 hd.k, .int .u64 ((fS hd.set 0).toNat : Int), .int .u64 ((fS hd.set 1).toNat : Int), .int .u64 ((fS hd.set 2).toNat : Int), .int .u64 ((fS hd.set 3).toNat : Int), .int .i64 (-1), .int .i64 (-1)]) rfl rfl (by kernel_rfl) (by kernel_rfl) (by kernel_rfl) (fun _ _ _ h => h) ⟨Or.inl ⟨by rfl, by intro w; go_simp; (try simp only [cellsN, wds, List.cons_append, List.nil_append]); (try rfl)⟩, fun _ => rfl⟩ ?_
            refine wpAnyIn_ready (rs := [6]) (by kernel_rfl) (by simp) ?_
            refine AllReadyIn.cons rfl (fun K hK => ?_) AllReadyIn.nil
            · go_simp
              refine hK _ _ ?_
              clear hK K
              refine wpAnyIn_ready (rs := [7]) (by kernel_rfl) (by simp) ?_
              refine AllReadyIn.cons rfl (fun K hK => ?_) AllReadyIn.nil
              · go_simp
                refine hK _ _ ?_
                clear hK K
                refine wpAnyIn_done (by kernel_rfl) ?_ _
                (first | refine hK' _ _ (Met.intro (hJ _ _ ?_)) | refine Met.intro (hJ _ _ ?_))
                (repeat apply Exists.intro)
                refine ⟨?_, rfl⟩
                exact ⟨_, rfl, Blk.new _ _ _, hbw.alloc hbw.size _, hbw.size⟩
          · go_simp
            refine hK _ _ ?_
            clear hK K
            refine wpAnyIn_ready (rs := [4]) (by kernel_rfl) (by simp) ?_
            refine AllReadyIn.cons rfl (fun K hK => ?_) AllReadyIn.nil
            · go_simp
              refine ⟨trivial, rfl, ((callsIn_wide (n := 0)).2 (setOf_any xsa hd.set.length xsc hd.set _ hspA rfl)).mono ?_⟩
              rintro e W3 ⟨⟨f, rfl, hf⟩, hb3⟩
              obtain rfl := fS_of hf
              have hbw : Below W2.heap.size W2 W3 := (hbA _).trans (hb3.mono (by simp))
              have y0 := yB0 _ hbw
              have v0 := yB0 _ (hbw.alloc hbw.size (.cells #[.int .i64 0, .int .u64 0, .int .u64 0, .int .u64 0, .int .u64 0, .int .i64 0, .int .i64 0] 98))
              have hz := (Blk.new W2.drew 98 #[.int .i64 0, .int .u64 0, .int .u64 0, .int .u64 0, .int .u64 0, .int .i64 0, .int .i64 0]).below hb3 (by simp)
              rw [show W2.drew.heap.size = W2.heap.size from rfl] at hz
              have hzl := hz.lt
              have z0 := hz.cell 0
              have z1 := hz.cell 1
              have z2 := hz.cell 2
              have z3 := hz.cell 3
              have z4 := hz.cell 4
              have z5 := hz.cell 5
              have z6 := hz.cell 6
              simp only [List.getElem?_cons_zero, List.getElem?_cons_succ] at z0 z1 z2 z3 z4 z5 z6
              have f0 := hz.frozen 0
              have f1 := hz.frozen 1
              have f2 := hz.frozen 2
              have f3 := hz.frozen 3
              have f4 := hz.frozen 4
              have f5 := hz.frozen 5
              have f6 := hz.frozen 6
              (try dsimp only)
              (try simp only [wds])
              refine hK _ _ ?_
              clear hK K
              refine wpAnyIn_take (i := 5) (v := .agg #[.int .i64 hd.k, .int .u64 ((fS hd.set 0).toNat : Int), .int .u64 ((fS hd.set 1).toNat : Int), .int .u64 ((fS hd.set 2).toNat : Int), .int .u64 ((fS hd.set 3).toNat : Int), .int .i64 (-1), .int .i64 (-1)]) rfl rfl (by kernel_rfl) (by kernel_rfl) (by kernel_rfl) (fun _ _ _ h => h) ⟨Or.inl ⟨by rfl, by intro w; go_simp; (try simp only [cellsN, wds, List.cons_append, List.nil_append]); (try rfl)⟩, fun _ => rfl⟩ ?_
              refine wpAnyIn_ready (rs := [7]) (by kernel_rfl) (by simp) ?_
              refine AllReadyIn.cons rfl (fun K hK => ?_) AllReadyIn.nil
              · go_simp
                refine hK _ _ ?_
                clear hK K
                refine wpAnyIn_done (by kernel_rfl) ?_ _
                (first | refine hK' _ _ (Met.intro (hJ _ _ ?_)) | refine Met.intro (hJ _ _ ?_))
                (repeat apply Exists.intro)
                refine ⟨?_, rfl⟩
                refine ⟨_, rfl, ?_, ?_, Nat.le_refl _⟩
                · exact ((((((hz.set 0 _).set 1 _).set 2 _).set 3 _).set 4 _).set 5 _).set 6 _
                · exact ((((((hbw.setCell (Nat.le_refl _) _).setCell (Nat.le_refl _) _).setCell (Nat.le_refl _) _).setCell (Nat.le_refl _) _).setCell (Nat.le_refl _) _).setCell (Nat.le_refl _) _).setCell (Nat.le_refl _) _
        · go_simp
          refine ⟨trivial, rfl, ((callsIn_wide (n := 0)).2 (setOf_any xsa hd.set.length xsc hd.set _ hspD rfl)).mono ?_⟩
          rintro e W3 ⟨⟨f, rfl, hf⟩, hb3⟩
          obtain rfl := fS_of hf
          have hbw : Below W2.heap.size W2 W3 := hbd.trans (hb3.mono (Nat.le_refl _))
          have y0 := yB0 _ hbw
          have v0 := yB0 _ (hbw.alloc hbw.size (.cells #[.int .i64 0, .int .u64 0, .int .u64 0, .int .u64 0, .int .u64 0, .int .i64 0, .int .i64 0] 98))
          (try dsimp only)
          (try simp only [wds])
          refine hK _ _ ?_
          clear hK K
          refine wpAnyIn_ready (rs := [1, 6]) (by kernel_rfl) (by simp) ?_
          refine AllReadyIn.cons rfl (fun K hK => ?_) (AllReadyIn.cons rfl (fun K hK => ?_) AllReadyIn.nil)
          · go_simp
            refine hK _ _ ?_
            clear hK K
            refine wpAnyIn_take (i := 5) (v := .agg #[.int .i64 hd.k, .int .u64 ((fS hd.set 0).toNat : Int), .int .u64 ((fS hd.set 1).toNat : Int), .int .u64 ((fS hd.set 2).toNat : Int), .int .u64 ((fS hd.set 3).toNat : Int), .int .i64 (-1), .int .i64 (-1)]) rfl rfl (by kernel_rfl) (by kernel_rfl) (by kernel_rfl) (fun _ _ _ h => h) ⟨Or.inl ⟨by rfl, by intro w; go_simp; (try simp only [cellsN, wds, List.cons_append, List.nil_append]); (try rfl)⟩, fun _ => rfl⟩ ?_
            refine wpAnyIn_ready (rs := [6]) (by kernel_rfl) (by simp) ?_
            refine AllReadyIn.cons rfl (fun K hK => ?_) AllReadyIn.nil
            · go_simp
              refine hK _ _ ?_
              clear hK K
              refine wpAnyIn_ready (rs := [7]) (by kernel_rfl) (by simp) ?_
              refine AllReadyIn.cons rfl (fun K hK => ?_) AllReadyIn.nil
              · go_simp
                refine hK _ _ ?_
                clear hK K
                refine wpAnyIn_done (by kernel_rfl) ?_ _
                (first | refine hK' _ _ (Met.intro (hJ _ _ ?_)) | refine Met.intro (hJ _ _ ?_))
                (repeat apply Exists.intro)
                refine ⟨?_, rfl⟩
                exact ⟨_, rfl, Blk.new _ _ _, hbw.alloc hbw.size _, hbw.size⟩
          · go_simp
            refine hK _ _ ?_
            clear hK K
            refine wpAnyIn_ready (rs := [1]) (by kernel_rfl) (by simp) ?_
            refine AllReadyIn.cons rfl (fun K hK => ?_) AllReadyIn.nil
            · go_simp
              refine hK _ _ ?_
              clear hK K
              refine wpAnyIn_take (i := 5) (v := .agg #[.int .i64 hd.k, .int .u64 ((fS hd.set 0).toNat : Int), .int .u64 ((fS hd.set 1).toNat : Int), .int .u64 ((fS hd.set 2).toNat : Int), .int .u64 ((fS hd.set 3).toNat : Int), .int .i64 (-1), .int .i64 (-1)]) rfl rfl (by kernel_rfl) (by kernel_rfl) (by kernel_rfl) (fun _ _ _ h => h) ⟨Or.inl ⟨by rfl, by intro w; go_simp; (try simp only [cellsN, wds, List.cons_append, List.nil_append]); (try rfl)⟩, fun _ => rfl⟩ ?_
              refine wpAnyIn_ready (rs := [7]) (by kernel_rfl) (by simp) ?_
              refine AllReadyIn.cons rfl (fun K hK => ?_) AllReadyIn.nil
              · go_simp
                refine hK _ _ ?_
                clear hK K
                refine wpAnyIn_done (by kernel_rfl) ?_ _
                (first | refine hK' _ _ (Met.intro (hJ _ _ ?_)) | refine Met.intro (hJ _ _ ?_))
                (repeat apply Exists.intro)
                refine ⟨?_, rfl⟩
                exact ⟨_, rfl, Blk.new _ _ _, hbw.alloc hbw.size _, hbw.size⟩
        · go_simp
          refine hK _ _ ?_
          clear hK K
          refine wpAnyIn_ready (rs := [1, 4]) (by kernel_rfl) (by simp) ?_
          refine AllReadyIn.cons rfl (fun K hK => ?_) (AllReadyIn.cons rfl (fun K hK => ?_) AllReadyIn.nil)
          · go_simp
            refine hK _ _ ?_
            clear hK K
            refine wpAnyIn_ready (rs := [4]) (by kernel_rfl) (by simp) ?_
            refine AllReadyIn.cons rfl (fun K hK => ?_) AllReadyIn.nil
            · go_simp
              refine ⟨trivial, rfl, ((callsIn_wide (n := 0)).2 (setOf_any xsa hd.set.length xsc hd.set _ hspA rfl)).mono ?_⟩
              rintro e W3 ⟨⟨f, rfl, hf⟩, hb3⟩
              obtain rfl := fS_of hf
              have hbw : Below W2.heap.size W2 W3 := (hbA _).trans (hb3.mono (by simp))
              have y0 := yB0 _ hbw
              have v0 := yB0 _ (hbw.alloc hbw.size (.cells #[.int .i64 0, .int .u64 0, .int .u64 0, .int .u64 0, .int .u64 0, .int .i64 0, .int .i64 0] 98))
              have hz := (Blk.new W2.drew 98 #[.int .i64 0, .int .u64 0, .int .u64 0, .int .u64 0, .int .u64 0, .int .i64 0, .int .i64 0]).below hb3 (by simp)
              rw [show W2.drew.heap.size = W2.heap.size from rfl] at hz
              have hzl := hz.lt
              have z0 := hz.cell 0
              have z1 := hz.cell 1
              have z2 := hz.cell 2
              have z3 := hz.cell 3
              have z4 := hz.cell 4
              have z5 := hz.cell 5
              have z6 := hz.cell 6
              simp only [List.getElem?_cons_zero, List.getElem?_cons_succ] at z0 z1 z2 z3 z4 z5 z6
              have f0 := hz.frozen 0
              have f1 := hz.frozen 1
              have f2 := hz.frozen 2
              have f3 := hz.frozen 3
              have f4 := hz.frozen 4
              have f5 := hz.frozen 5
              have f6 := hz.frozen 6
              (try dsimp only)
              (try simp only [wds])
              refine hK _ _ ?_
              clear hK K
              refine wpAnyIn_take (i := 5) (v := .agg #[.int .i64 hd.k, .int .u64 ((fS hd.set 0).toNat : Int), .int .u64 ((fS hd.set 1).toNat : Int), .int .u64 ((fS hd.set 2).toNat : Int), .int .u64 ((fS hd.set 3).toNat : Int), .int .i64 (-1), .int .i64 (-1)]) rfl rfl (by kernel_rfl) (by kernel_rfl) (by kernel_rfl) (fun _ _ _ h => h) ⟨Or.inl ⟨by rfl, by intro w; go_simp; (try simp only [cellsN, wds, List.cons_append, List.nil_append]); (try rfl)⟩, fun _ => rfl⟩ ?_
              refine wpAnyIn_ready (rs := [7]) (by kernel_rfl) (by simp) ?_
              refine AllReadyIn.cons rfl (fun K hK => ?_) AllReadyIn.nil
              · go_simp
                refine hK _ _ ?_
                clear hK K
                refine wpAnyIn_done (by kernel_rfl) ?_ _
                (first | refine hK' _ _ (Met.intro (hJ _ _ ?_)) | refine Met.intro (hJ _ _ ?_))
                (repeat apply Exists.intro)
                refine ⟨?_, rfl⟩
                refine ⟨_, rfl, ?_, ?_, Nat.le_refl _⟩
                · exact ((((((hz.set 0 _).set 1 _).set 2 _).set 3 _).set 4 _).set 5 _).set 6 _
                · exact ((((((hbw.setCell (Nat.le_refl _) _).setCell (Nat.le_refl _) _).setCell (Nat.le_refl _) _).setCell (Nat.le_refl _) _).setCell (Nat.le_refl _) _).setCell (Nat.le_refl _) _).setCell (Nat.le_refl _) _
          · go_simp
            refine ⟨trivial, rfl, ((callsIn_wide (n := 0)).2 (setOf_any xsa hd.set.length xsc hd.set _ hspA rfl)).mono ?_⟩
            rintro e W3 ⟨⟨f, rfl, hf⟩, hb3⟩
            obtain rfl := fS_of hf
            have hbw : Below W2.heap.size W2 W3 := (hbA _).trans (hb3.mono (by simp))
            have y0 := yB0 _ hbw
            have v0 := yB0 _ (hbw.alloc hbw.size (.cells #[.int .i64 0, .int .u64 0, .int .u64 0, .int .u64 0, .int .u64 0, .int .i64 0, .int .i64 0] 98))
            have hz := (Blk.new W2.drew 98 #[.int .i64 0, .int .u64 0, .int .u64 0, .int .u64 0, .int .u64 0, .int .i64 0, .int .i64 0]).below hb3 (by simp)
            rw [show W2.drew.heap.size = W2.heap.size from rfl] at hz
            have hzl := hz.lt
            have z0 := hz.cell 0
            have z1 := hz.cell 1
            have z2 := hz.cell 2
            have z3 := hz.cell 3
            have z4 := hz.cell 4
            have z5 := hz.cell 5
            have z6 := hz.cell 6
            simp only [List.getElem?_cons_zero, List.getElem?_cons_succ] at z0 z1 z2 z3 z4 z5 z6
            have f0 := hz.frozen 0
            have f1 := hz.frozen 1
            have f2 := hz.frozen 2
            have f3 := hz.frozen 3
            have f4 := hz.frozen 4
            have f5 := hz.frozen 5
            have f6 := hz.frozen 6
            (try dsimp only)
            (try simp only [wds])
            refine hK _ _ ?_
            clear hK K
            refine wpAnyIn_ready (rs := [1]) (by kernel_rfl) (by simp) ?_
            refine AllReadyIn.cons rfl (fun K hK => ?_) AllReadyIn.nil
            · go_simp
              refine hK _ _ ?_
              clear hK K
              refine wpAnyIn_take (i := 5) (v := .agg #[.int .i64 hd.k, .int .u64 ((fS hd.set 0).toNat : Int), .int .u64 ((fS hd.set 1).toNat : Int), .int .u64 ((fS hd.set 2).toNat : Int), .int .u64 ((fS hd.set 3).toNat : Int), .int .i64 (-1), .int .i64 (-1)]) rfl rfl (by kernel_rfl) (by kernel_rfl) (by kernel_rfl) (fun _ _ _ h => h) ⟨Or.inl ⟨by rfl, by intro w; go_simp; (try simp only [cellsN, wds, List.cons_append, List.nil_append]); (try rfl)⟩, fun _ => rfl⟩ ?_
              refine wpAnyIn_ready (rs := [7]) (by kernel_rfl) (by simp) ?_
              refine AllReadyIn.cons rfl (fun K hK => ?_) AllReadyIn.nil
              · go_simp
                refine hK _ _ ?_
                clear hK K
                refine wpAnyIn_done (by kernel_rfl) ?_ _
                (first | refine hK' _ _ (Met.intro (hJ _ _ ?_)) | refine Met.intro (hJ _ _ ?_))
                (repeat apply Exists.intro)
                refine ⟨?_, rfl⟩
                refine ⟨_, rfl, ?_, ?_, Nat.le_refl _⟩
                · exact ((((((hz.set 0 _).set 1 _).set 2 _).set 3 _).set 4 _).set 5 _).set 6 _
                · exact ((((((hbw.setCell (Nat.le_refl _) _).setCell (Nat.le_refl _) _).setCell (Nat.le_refl _) _).setCell (Nat.le_refl _) _).setCell (Nat.le_refl _) _).setCell (Nat.le_refl _) _).setCell (Nat.le_refl _) _
      · go_simp
        refine hK _ _ ?_
        clear hK K
        refine wpAnyIn_ready (rs := [1, 3]) (by kernel_rfl) (by simp) ?_
        refine AllReadyIn.cons rfl (fun K hK => ?_) (AllReadyIn.cons rfl (fun K hK => ?_) AllReadyIn.nil)
        · go_simp
          refine hK _ _ ?_
          clear hK K
          refine wpAnyIn_ready (rs := [3]) (by kernel_rfl) (by simp) ?_
          refine AllReadyIn.cons rfl (fun K hK => ?_) AllReadyIn.nil
          · go_simp
            refine hK _ _ ?_
            clear hK K
            refine wpAnyIn_ready (rs := [4]) (by kernel_rfl) (by simp) ?_
            refine AllReadyIn.cons rfl (fun K hK => ?_) AllReadyIn.nil
            · go_simp
              refine ⟨trivial, rfl, ((callsIn_wide (n := 0)).2 (setOf_any xsa hd.set.length xsc hd.set _ hspA rfl)).mono ?_⟩
              rintro e W3 ⟨⟨f, rfl, hf⟩, hb3⟩
              obtain rfl := fS_of hf
              have hbw : Below W2.heap.size W2 W3 := (hbA _).trans (hb3.mono (by simp))
              have y0 := yB0 _ hbw
              have v0 := yB0 _ (hbw.alloc hbw.size (.cells #[.int .i64 0, .int .u64 0, .int .u64 0, .int .u64 0, .int .u64 0, .int .i64 0, .int .i64 0] 98))
              have hz := (Blk.new W2.drew 98 #[.int .i64 0, .int .u64 0, .int .u64 0, .int .u64 0, .int .u64 0, .int .i64 0, .int .i64 0]).below hb3 (by simp)
              rw [show W2.drew.heap.size = W2.heap.size from rfl] at hz
              have hzl := hz.lt
              have z0 := hz.cell 0
              have z1 := hz.cell 1
              have z2 := hz.cell 2
              have z3 := hz.cell 3
              have z4 := hz.cell 4
              have z5 := hz.cell 5
              have z6 := hz.cell 6
              simp only [List.getElem?_cons_zero, List.getElem?_cons_succ] at z0 z1 z2 z3 z4 z5 z6
              have f0 := hz.frozen 0
              have f1 := hz.frozen 1
              have f2 := hz.frozen 2
              have f3 := hz.frozen 3
              have f4 := hz.frozen 4
              have f5 := hz.frozen 5
              have f6 := hz.frozen 6
              (try dsimp only)
              (try simp only [wds])
              refine hK _ _ ?_
              clear hK K
              refine wpAnyIn_take (i := 5) (v := .agg #[.int .i64 hd.k, .int .u64 ((fS hd.set 0).toNat : Int), .int .u64 ((fS hd.set 1).toNat : Int), .int .u64 ((fS hd.set 2).toNat : Int), .int .u64 ((fS hd.set 3).toNat : Int), .int .i64 (-1), .int .i64 (-1)]) rfl rfl (by kernel_rfl) (by kernel_rfl) (by kernel_rfl) (fun _ _ _ h => h) ⟨Or.inl ⟨by rfl, by intro w; go_simp; (try simp only [cellsN, wds, List.cons_append, List.nil_append]); (try rfl)⟩, fun _ => rfl⟩ ?_
              refine wpAnyIn_ready (rs := [7]) (by kernel_rfl) (by simp) ?_
              refine AllReadyIn.cons rfl (fun K hK => ?_) AllReadyIn.nil
              · go_simp
                refine hK _ _ ?_
                clear hK K
                refine wpAnyIn_done (by kernel_rfl) ?_ _
                (first | refine hK' _ _ (Met.intro (hJ _ _ ?_)) | refine Met.intro (hJ _ _ ?_))
                (repeat apply Exists.intro)
                refine ⟨?_, rfl⟩
                refine ⟨_, rfl, ?_, ?_, Nat.le_refl _⟩
                · exact ((((((hz.set 0 _).set 1 _).set 2 _).set 3 _).set 4 _).set 5 _).set 6 _
                · exact ((((((hbw.setCell (Nat.le_refl _) _).setCell (Nat.le_refl _) _).setCell (Nat.le_refl _) _).setCell (Nat.le_refl _) _).setCell (Nat.le_refl _) _).setCell (Nat.le_refl _) _).setCell (Nat.le_refl _) _
        · go_simp
          refine hK _ _ ?_
          clear hK K
          refine wpAnyIn_ready (rs := [1, 4]) (by kernel_rfl) (by simp) ?_
          refine AllReadyIn.cons rfl (fun K hK => ?_) (AllReadyIn.cons rfl (fun K hK => ?_) AllReadyIn.nil)
          · go_simp
            refine hK _ _ ?_
            clear hK K
            refine wpAnyIn_ready (rs := [4]) (by kernel_rfl) (by simp) ?_
            refine AllReadyIn.cons rfl (fun K hK => ?_) AllReadyIn.nil
            · go_simp
              refine ⟨trivial, rfl, ((callsIn_wide (n := 0)).2 (setOf_any xsa hd.set.length xsc hd.set _ hspA rfl)).mono ?_⟩
              rintro e W3 ⟨⟨f, rfl, hf⟩, hb3⟩
              obtain rfl := fS_of hf
              have hbw : Below W2.heap.size W2 W3 := (hbA _).trans (hb3.mono (by simp))
              have y0 := yB0 _ hbw
              have v0 := yB0 _ (hbw.alloc hbw.size (.cells #[.int .i64 0, .int .u64 0, .int .u64 0, .int .u64 0, .int .u64 0, .int .i64 0, .int .i64 0] 98))
              have hz := (Blk.new W2.drew 98 #[.int .i64 0, .int .u64 0, .int .u64 0, .int .u64 0, .int .u64 0, .int .i64 0, .int .i64 0]).below hb3 (by simp)
              rw [show W2.drew.heap.size = W2.heap.size from rfl] at hz
              have hzl := hz.lt
              have z0 := hz.cell 0
              have z1 := hz.cell 1
              have z2 := hz.cell 2
              have z3 := hz.cell 3
              have z4 := hz.cell 4
              have z5 := hz.cell 5
              have z6 := hz.cell 6
              simp only [List.getElem?_cons_zero, List.getElem?_cons_succ] at z0 z1 z2 z3 z4 z5 z6
              have f0 := hz.frozen 0
              have f1 := hz.frozen 1
              have f2 := hz.frozen 2
              have f3 := hz.frozen 3
              have f4 := hz.frozen 4
              have f5 := hz.frozen 5
              have f6 := hz.frozen 6
              (try dsimp only)
              (try simp only [wds])
              refine hK _ _ ?_
              clear hK K
              refine wpAnyIn_take (i := 5) (v := .agg #[.int .i64 hd.k, .int .u64 ((fS hd.set 0).toNat : Int), .int .u64 ((fS hd.set 1).toNat : Int), .int .u64 ((fS hd.set 2).toNat : Int), .int .u64 ((fS hd.set 3).toNat : Int), .int .i64 (-1), .int .i64 (-1)]) rfl rfl (by kernel_rfl) (by kernel_rfl) (by kernel_rfl) (fun _ _ _ h => h) ⟨Or.inl ⟨by rfl, by intro w; go_simp; (try simp only [cellsN, wds, List.cons_append, List.nil_append]); (try rfl)⟩, fun _ => rfl⟩ ?_
              refine wpAnyIn_ready (rs := [7]) (by kernel_rfl) (by simp) ?_
              refine AllReadyIn.cons rfl (fun K hK => ?_) AllReadyIn.nil
              · go_simp
                refine hK _ _ ?_
                clear hK K
                refine wpAnyIn_done (by kernel_rfl) ?_ _
                (first | refine hK' _ _ (Met.intro (hJ _ _ ?_)) | refine Met.intro (hJ _ _ ?_))
                (repeat apply Exists.intro)
                refine ⟨?_, rfl⟩
                refine ⟨_, rfl, ?_, ?_, Nat.le_refl _⟩
                · exact ((((((hz.set 0 _).set 1 _).set 2 _).set 3 _).set 4 _).set 5 _).set 6 _
                · exact ((((((hbw.setCell (Nat.le_refl _) _).setCell (Nat.le_refl _) _).setCell (Nat.le_refl _) _).setCell (Nat.le_refl _) _).setCell (Nat.le_refl _) _).setCell (Nat.le_refl _) _).setCell (Nat.le_refl _) _
          · go_simp
            refine ⟨trivial, rfl, ((callsIn_wide (n := 0)).2 (setOf_any xsa hd.set.length xsc hd.set _ hspA rfl)).mono ?_⟩
            rintro e W3 ⟨⟨f, rfl, hf⟩, hb3⟩
            obtain rfl := fS_of hf
            have hbw : Below W2.heap.size W2 W3 := (hbA _).trans (hb3.mono (by simp))
            have y0 := yB0 _ hbw
            have v0 := yB0 _ (hbw.alloc hbw.size (.cells #[.int .i64 0, .int .u64 0, .int .u64 0, .int .u64 0, .int .u64 0, .int .i64 0, .int .i64 0] 98))
            have hz := (Blk.new W2.drew 98 #[.int .i64 0, .int .u64 0, .int .u64 0, .int .u64 0, .int .u64 0, .int .i64 0, .int .i64 0]).below hb3 (by simp)
            rw [show W2.drew.heap.size = W2.heap.size from rfl] at hz
            have hzl := hz.lt
            have z0 := hz.cell 0
            have z1 := hz.cell 1
            have z2 := hz.cell 2
            have z3 := hz.cell 3
            have z4 := hz.cell 4
            have z5 := hz.cell 5
            have z6 := hz.cell 6
            simp only [List.getElem?_cons_zero, List.getElem?_cons_succ] at z0 z1 z2 z3 z4 z5 z6
            have f0 := hz.frozen 0
            have f1 := hz.frozen 1
            have f2 := hz.frozen 2
            have f3 := hz.frozen 3
            have f4 := hz.frozen 4
            have f5 := hz.frozen 5
            have f6 := hz.frozen 6
            (try dsimp only)
            (try simp only [wds])
            refine hK _ _ ?_
            clear hK K
            refine wpAnyIn_ready (rs := [1]) (by kernel_rfl) (by simp) ?_
            refine AllReadyIn.cons rfl (fun K hK => ?_) AllReadyIn.nil
            · go_simp
              refine hK _ _ ?_
              clear hK K
              refine wpAnyIn_take (i := 5) (v := .agg #[.int .i64 hd.k, .int .u64 ((fS hd.set 0).toNat : Int), .int .u64 ((fS hd.set 1).toNat : Int), .int .u64 ((fS hd.set 2).toNat : Int), .int .u64 ((fS hd.set 3).toNat : Int), .int .i64 (-1), .int .i64 (-1)]) rfl rfl (by kernel_rfl) (by kernel_rfl) (by kernel_rfl) (fun _ _ _ h => h) ⟨Or.inl ⟨by rfl, by intro w; go_simp; (try simp only [cellsN, wds, List.cons_append, List.nil_append]); (try rfl)⟩, fun _ => rfl⟩ ?_
              refine wpAnyIn_ready (rs := [7]) (by kernel_rfl) (by simp) ?_
              refine AllReadyIn.cons rfl (fun K hK => ?_) AllReadyIn.nil
              · go_simp
                refine hK _ _ ?_
                clear hK K
                refine wpAnyIn_done (by kernel_rfl) ?_ _
                (first | refine hK' _ _ (Met.intro (hJ _ _ ?_)) | refine Met.intro (hJ _ _ ?_))
                (repeat apply Exists.intro)
                refine ⟨?_, rfl⟩
                refine ⟨_, rfl, ?_, ?_, Nat.le_refl _⟩
                · exact ((((((hz.set 0 _).set 1 _).set 2 _).set 3 _).set 4 _).set 5 _).set 6 _
                · exact ((((((hbw.setCell (Nat.le_refl _) _).setCell (Nat.le_refl _) _).setCell (Nat.le_refl _) _).setCell (Nat.le_refl _) _).setCell (Nat.le_refl _) _).setCell (Nat.le_refl _) _).setCell (Nat.le_refl _) _
    case rest =>
      obtain ⟨bx, rfl, hX, hbx, hbl⟩ := hcut
      rename World => w6
      have hN6 : Nst w bx L M la lc ta tc ns last ⟨hd.k, fS hd.set, -1, -1⟩ W2 w6 := by
        refine ⟨hX, hb1.kept (below_grownBy hbx none) (by simp), hb2.kept (below_grownBy hbx none) (by simp), World.ownsRow.kept h3' (below_grownBy hbx none) (by rcases hv : Value.ownBlock (.slice la L lc) with _ | k <;> simp), World.ownsRow.kept h4' (below_grownBy hbx none) (by rcases hv : Value.ownBlock (.slice ta M tc) with _ | k <;> simp), hB2.trans (hbx.mono hB2.size), Keep.grown (below_grownBy hbx none) hB2.size (fun r e => by cases e), ?_, ?_⟩
        · have := (Array.getElem?_eq_some_iff.1 hb2).1
          omega
        · intro e
          obtain ⟨_, cur, hc⟩ := OwnN.row h3' bx e
          have := (Array.getElem?_eq_some_iff.1 hc).1
          omega
      clear hX hbx hb1 hb2 h3' h4' hspW x0 x1 x2 hB3 hBi hk hss hN' hbl hB2
      gi_step
      gi_step
      gi_cut [] from 18 (fun wx => Nst w bx L M la lc ta tc ns last ⟨hd.k, fS hd.set, upN last d, -1⟩ W2 wx)
      case first J K' hJ hK' =>
        have hb2c := hN6.b2.cell
        have hnf := hN6.node.frozen 5
        have hnc := hN6.node.cell 5
        simp only [cellsN, wds, List.cons_append, List.nil_append, List.getElem?_cons_succ, List.getElem?_cons_zero] at hnc
        have hblt := hN6.node.lt
        by_cases hdd : 1 < d
        · obtain ⟨e, rfl⟩ : ∃ e, d = e + 2 := ⟨d - 2, by omega⟩
          obtain ⟨g, rfl, hle1, hle2, hcell⟩ := hN6.rl.getAt e (by omega)
          obtain ⟨u, hu⟩ : ∃ u, Hid (last.getD e 0 = u) := ⟨_, Lib.hid rfl⟩
          rw [hu.out] at hcell
          have hup : Hid (upN last (e + 2) = (u : Int)) := Lib.hid (by unfold upN; rw [if_pos (by omega), show e + 2 - 2 = e from rfl, hu.out])
          have hfin := Lib.hid (hN6.setUp u)
          have h1I : (1 : Int) < ((e + 2 : Nat) : Int) := by omega
          have e1 : ((e + 2 : Nat) : Int) - 2 = (e : Int) := by omega
          have e2 : (e : Int) + 2 - 2 = (e : Int) := by omega
          have heI : (e : Int) < (M : Int) := by omega
          clear hN6 Hst
          gi_wp2_with (fail)
          (first | refine Met.intro (hJ _ _ ?_) | refine hK' _ _ (Met.intro (hJ _ _ ?_)))
          (repeat apply Exists.intro)
          refine ⟨?_, rfl⟩
          rw [hup.out]
          exact hfin.out
        · have h1I : ¬ (1 : Int) < (d : Int) := by omega
          have hup : Hid (upN last d = -1) := Lib.hid (by unfold upN; rw [if_neg hdd])
          gi_wp2_with (fail)
          (first | refine Met.intro (hJ _ _ ?_) | refine hK' _ _ (Met.intro (hJ _ _ ?_)))
          (repeat apply Exists.intro)
          refine ⟨?_, rfl⟩
          rw [hup.out]
          exact hN6
      case rest =>
        rename World => w7
        have hN7 := hcut
        clear hcut hN6
        gi_step
        gi_step
        gi_cut [] from 18 (fun wx => Nst w bx L M la lc ta tc (ahead (ns, last) d) last ⟨hd.k, fS hd.set, upN last d, -1⟩ W2 wx)
        case first J K' hJ hK' =>
          have hb1c := hN7.b1.cell
          have hb2c := hN7.b2.cell
          by_cases hdM : d ≤ M
          · obtain ⟨e, rfl⟩ : ∃ e, d = e + 1 := ⟨d - 1, by omega⟩
            obtain ⟨g2, rfl, hle1, hle2, hcell⟩ := hN7.rl.getAt e (by omega)
            obtain ⟨u, hu⟩ : ∃ u, Hid (last.getD e 0 = u) := ⟨_, Lib.hid rfl⟩
            rw [hu.out] at hcell
            have huL : u < L := by
              have h1 := hN7.rl.len
              have h2 := Hlok.out.2 (last[e]'(by omega)) (List.getElem_mem _)
              have h3 := hN7.rn.len
              rw [List.getD_eq_getElem?_getD, List.getElem?_eq_getElem (by omega)] at hu
              have h4 := hu.out
              simp only [Option.getD_some] at h4
              simp only at h2
              omega
            have hah : Hid (ahead (ns, last) (e + 1) = setNext ns u L) := Lib.hid (by
              have h1 := hN7.rl.len
              have h3 := hN7.rn.len
              unfold ahead
              rw [if_pos (by simp only; omega)]
              simp only [Nat.add_sub_cancel]
              rw [hu.out, ← h3])
            obtain ⟨g, rfl, hl1, hl2, hfz, ⟨old, hold⟩, hfin⟩ := hN7.drew.setNext u L (by have h3 := hN7.rn.len; omega)
            have hl3 : L ≤ lc := by have h3 := hN7.rn.len; omega
            have Hfin := Lib.hid hfin
            have h1I : ((e + 1 : Nat) : Int) ≤ (M : Int) := by omega
            have e1 : ((e + 1 : Nat) : Int) - 1 = (e : Int) := by omega
            have e2 : (e : Int) + 1 - 1 = (e : Int) := by omega
            have heI : (e : Int) < (M : Int) := by omega
            have huI : (u : Int) < (L : Int) := by omega
            have hwe : IntKind.i64.wrap (e : Int) = (e : Int) := by rw [IntKind.wrap_i64]; omega
            clear hN7 Hst hfin hl1 Hlok
            gi_wp2_with (fail)
            refine wpInR_region_still_tail 10 (by kernel_rfl) (by kernel_rfl) (by kernel_rfl) ?_
            simp only [List.take_succ_cons, List.take_zero, List.drop_succ_cons, List.drop_zero]
            repeat still_step
            try refine wpStill_nil ?_
            gi_wp2_with (fail)
            (first | refine Met.intro (hJ _ _ ?_) | refine hK' _ _ (Met.intro (hJ _ _ ?_)))
            (repeat apply Exists.intro)
            refine ⟨?_, rfl⟩
            rw [hah.out]
            exact Hfin.out
          · have h1I : ¬ (d : Int) ≤ (M : Int) := by omega
            have hah : Hid (ahead (ns, last) d = ns) := Lib.hid (by have h1 := hN7.rl.len; unfold ahead; rw [if_neg (by simp only; omega)])
            gi_wp2_with (fail)
            (first | refine Met.intro (hJ _ _ ?_) | refine hK' _ _ (Met.intro (hJ _ _ ?_)))
            (repeat apply Exists.intro)
            refine ⟨?_, rfl⟩
            rw [hah.out]
            exact hN7
        case rest =>
          rename World => w8
          have hN8 := hcut
          clear hcut hN7
          gi_step
          gi_step
          gi_cut [] from 18 (fun wx => ∃ ta' tc', Nst w bx L d la lc ta' tc' (ahead (ns, last) d) (last.take (d - 1) ++ [L]) ⟨hd.k, fS hd.set, upN last d, -1⟩ W2 wx)
          case first J K' hJ hK' =>
            obtain ⟨e, rfl⟩ : ∃ e, d = e + 1 := ⟨d - 1, by omega⟩
            have hN9 := hN8.drew
            have heM : e ≤ M := by omega
            obtain ⟨ht1, ht2, ht3⟩ := hN8.rl.slc
            have hML : M ≤ 1099511627770 := by
              have h1 := Hlok.out.1
              have h2 := hN8.rl.len
              have h3 := HLa.out
              have h4 := Hnl.out
              have h5 := Hplen.out
              simp only at h1
              omega
            have hc1 := hN9.b1.cell
            have hc2 := hN9.b2.cell
            have hnl : Hid ((ns.length : Int) = (L : Int)) := Lib.hid (by have := Hnl.out; omega)
            obtain ⟨a', c', w', hrun, hq1, hq2, hq3, hfin⟩ := hN9.pushLast e L heM hML 71
            have Hfin := Lib.hid hfin
            have e1 : ((e + 1 : Nat) : Int) - 1 = (e : Int) := by omega
            have e2 : (e : Int) + 1 - 1 = (e : Int) := by omega
            have heI : (e : Int) ≤ (tc : Int) := by omega
            have hwe : IntKind.i64.wrap (e : Int) = (e : Int) := by rw [IntKind.wrap_i64]; omega
            have hc1a : (w8.drew.alloc (.cells #[.int .i64 (L : Int)] 3)).cell? ⟨w.heap.size + 1, 0, none⟩ = some (.slice la L lc) := (hN9.alloc _).b1.cell
            have hc2a : (w8.drew.alloc (.cells #[.int .i64 (L : Int)] 3)).cell? ⟨w.heap.size + 1 + 1, 0, none⟩ = some (.slice ta M tc) := (hN9.alloc _).b2.cell
            have hlt1 := (Array.getElem?_eq_some_iff.1 hN9.b1).1
            have hlt2 := (Array.getElem?_eq_some_iff.1 hN9.b2).1
            clear hN8 hN9 hfin Hst Hlok
            rcases ht3 with ⟨rfl, rfl⟩ | ⟨g, rfl⟩
            · obtain rfl : e = 0 := by omega
              obtain rfl : M = 0 := by omega
              refine wpIn_region_any (by kernel_rfl) ?_
              change wpAnyIn _ _ _ _ _ _ _ _ _ (World.drew _)
              refine wpAnyInR_of_wide (by kernel_rfl) _ _ _ _ ?_
              generalize w8.drew = w9 at *
              refine wpAnyIn_take (i := 1) (v := .int .i64 1) rfl rfl (by kernel_rfl) (by kernel_rfl) (by kernel_rfl) (fun _ _ _ h => h) ⟨Or.inl ⟨by rfl, by intro w; go_simp⟩, fun _ => rfl⟩ ?_
              refine wpAnyIn_take (i := 2) (v := .int .i64 0) rfl rfl (by kernel_rfl) (by kernel_rfl) (by kernel_rfl) (fun _ _ _ h => h) ⟨Or.inl ⟨by rfl, by intro w; go_simp; rfl⟩, fun _ => rfl⟩ ?_
              refine wpAnyIn_ready (rs := [0, 4]) (by kernel_rfl) (by simp) ?_
              refine AllReadyIn.cons rfl (fun K hK => ?_) (AllReadyIn.cons rfl (fun K hK => ?_) AllReadyIn.nil)
              · go_simp
                refine hK _ _ ?_
                clear hK K
                refine wpAnyIn_take (i := 3) (v := .slice none 0 0) rfl rfl (by kernel_rfl) (by kernel_rfl) (by kernel_rfl) (fun _ _ _ h => h) ⟨Or.inl ⟨by rfl, by intro w; go_simp⟩, fun _ => rfl⟩ ?_
                refine wpAnyIn_ready (rs := [4]) (by kernel_rfl) (by simp) ?_
                refine AllReadyIn.cons rfl (fun K hK => ?_) AllReadyIn.nil
                go_simp
                refine hK _ _ ?_
                clear hK K
                refine wpAnyIn_take (i := 5) (v := .int .i64 (L : Int)) rfl rfl (by kernel_rfl) (by kernel_rfl) (by kernel_rfl) (fun _ _ _ h => h) ⟨Or.inl ⟨by rfl, by intro w; go_simp⟩, fun _ => rfl⟩ ?_
                refine wpAnyIn_ready (rs := [6]) (by kernel_rfl) (by simp) ?_
                refine AllReadyIn.cons rfl (fun K hK => ?_) AllReadyIn.nil
                go_simp
                refine hK _ _ ?_
                clear hK K
                refine wpAnyIn_ready (rs := [7]) (by kernel_rfl) (by simp) ?_
                refine AllReadyIn.cons rfl (fun K hK => step_append_runW rfl (.tmp 43) (.tmp 46) 71 71 rfl _ _ _ w' rfl rfl hrun (hK _ _ ?_)) AllReadyIn.nil
                clear hK K
                refine wpAnyIn_ready (rs := [8]) (by kernel_rfl) (by simp) ?_
                refine AllReadyIn.cons rfl (fun K hK => ?_) AllReadyIn.nil
                go_simp
                refine hK _ _ ?_
                clear hK K
                refine wpAnyIn_done (by kernel_rfl) ?_ _
                (first | refine hK' _ _ (Met.intro (hJ _ _ ?_)) | refine Met.intro (hJ _ _ ?_))
                (repeat apply Exists.intro)
                refine ⟨⟨_, _, Hfin.out⟩, rfl⟩
              · go_simp
                refine hK _ _ ?_
                clear hK K
                refine wpAnyIn_take (i := 5) (v := .int .i64 (L : Int)) rfl rfl (by kernel_rfl) (by kernel_rfl) (by kernel_rfl) (fun _ _ _ h => h) ⟨Or.inl ⟨by rfl, by intro w; go_simp⟩, fun _ => rfl⟩ ?_
                refine wpAnyIn_ready (rs := [0, 6]) (by kernel_rfl) (by simp) ?_
                refine AllReadyIn.cons rfl (fun K hK => ?_) (AllReadyIn.cons rfl (fun K hK => ?_) AllReadyIn.nil)
                · go_simp
                  refine hK _ _ ?_
                  clear hK K
                  refine wpAnyIn_take (i := 3) (v := .slice none 0 0) rfl rfl (by kernel_rfl) (by kernel_rfl) (by kernel_rfl) (fun _ _ _ h => h) ⟨Or.inl ⟨by rfl, by intro w; go_simp⟩, fun _ => rfl⟩ ?_
                  refine wpAnyIn_ready (rs := [6]) (by kernel_rfl) (by simp) ?_
                  refine AllReadyIn.cons rfl (fun K hK => ?_) AllReadyIn.nil
                  go_simp
                  refine hK _ _ ?_
                  clear hK K
                  refine wpAnyIn_ready (rs := [7]) (by kernel_rfl) (by simp) ?_
                  refine AllReadyIn.cons rfl (fun K hK => step_append_runW rfl (.tmp 43) (.tmp 46) 71 71 rfl _ _ _ w' rfl rfl hrun (hK _ _ ?_)) AllReadyIn.nil
                  clear hK K
                  refine wpAnyIn_ready (rs := [8]) (by kernel_rfl) (by simp) ?_
                  refine AllReadyIn.cons rfl (fun K hK => ?_) AllReadyIn.nil
                  go_simp
                  refine hK _ _ ?_
                  clear hK K
                  refine wpAnyIn_done (by kernel_rfl) ?_ _
                  (first | refine hK' _ _ (Met.intro (hJ _ _ ?_)) | refine Met.intro (hJ _ _ ?_))
                  (repeat apply Exists.intro)
                  refine ⟨⟨_, _, Hfin.out⟩, rfl⟩
                · go_simp
                  refine hK _ _ ?_
                  clear hK K
                  refine wpAnyIn_ready (rs := [0]) (by kernel_rfl) (by simp) ?_
                  refine AllReadyIn.cons rfl (fun K hK => ?_) AllReadyIn.nil
                  go_simp
                  refine hK _ _ ?_
                  clear hK K
                  refine wpAnyIn_take (i := 3) (v := .slice none 0 0) rfl rfl (by kernel_rfl) (by kernel_rfl) (by kernel_rfl) (fun _ _ _ h => h) ⟨Or.inl ⟨by rfl, by intro w; go_simp⟩, fun _ => rfl⟩ ?_
                  refine wpAnyIn_ready (rs := [7]) (by kernel_rfl) (by simp) ?_
                  refine AllReadyIn.cons rfl (fun K hK => step_append_runW rfl (.tmp 43) (.tmp 46) 71 71 rfl _ _ _ w' rfl rfl hrun (hK _ _ ?_)) AllReadyIn.nil
                  clear hK K
                  refine wpAnyIn_ready (rs := [8]) (by kernel_rfl) (by simp) ?_
                  refine AllReadyIn.cons rfl (fun K hK => ?_) AllReadyIn.nil
                  go_simp
                  refine hK _ _ ?_
                  clear hK K
                  refine wpAnyIn_done (by kernel_rfl) ?_ _
                  (first | refine hK' _ _ (Met.intro (hJ _ _ ?_)) | refine Met.intro (hJ _ _ ?_))
                  (repeat apply Exists.intro)
                  refine ⟨⟨_, _, Hfin.out⟩, rfl⟩
            · skip
              refine wpIn_region_any (by kernel_rfl) ?_
              change wpAnyIn _ _ _ _ _ _ _ _ _ (World.drew _)
              refine wpAnyInR_of_wide (by kernel_rfl) _ _ _ _ ?_
              generalize w8.drew = w9 at *
              refine wpAnyIn_take (i := 1) (v := .int .i64 ((e + 1 : Nat) : Int)) rfl rfl (by kernel_rfl) (by kernel_rfl) (by kernel_rfl) (fun _ _ _ h => h) ⟨Or.inl ⟨by rfl, by intro w; go_simp⟩, fun _ => rfl⟩ ?_
              refine wpAnyIn_take (i := 2) (v := .int .i64 (e : Int)) rfl rfl (by kernel_rfl) (by kernel_rfl) (by kernel_rfl) (fun _ _ _ h => h) ⟨Or.inl ⟨by rfl, by intro w; go_simp⟩, fun _ => rfl⟩ ?_
              refine wpAnyIn_ready (rs := [0, 4]) (by kernel_rfl) (by simp) ?_
              refine AllReadyIn.cons rfl (fun K hK => ?_) (AllReadyIn.cons rfl (fun K hK => ?_) AllReadyIn.nil)
              · go_simp
                refine hK _ _ ?_
                clear hK K
                refine wpAnyIn_take (i := 3) (v := .slice (some ⟨g, 0, none⟩) e tc) rfl rfl (by kernel_rfl) (by kernel_rfl) (by kernel_rfl) (fun _ _ _ h => h) ⟨Or.inl ⟨by rfl, by intro w; go_simp⟩, fun _ => rfl⟩ ?_
                refine wpAnyIn_ready (rs := [4]) (by kernel_rfl) (by simp) ?_
                refine AllReadyIn.cons rfl (fun K hK => ?_) AllReadyIn.nil
                go_simp
                refine hK _ _ ?_
                clear hK K
                refine wpAnyIn_take (i := 5) (v := .int .i64 (L : Int)) rfl rfl (by kernel_rfl) (by kernel_rfl) (by kernel_rfl) (fun _ _ _ h => h) ⟨Or.inl ⟨by rfl, by intro w; go_simp⟩, fun _ => rfl⟩ ?_
                refine wpAnyIn_ready (rs := [6]) (by kernel_rfl) (by simp) ?_
                refine AllReadyIn.cons rfl (fun K hK => ?_) AllReadyIn.nil
                go_simp
                refine hK _ _ ?_
                clear hK K
                refine wpAnyIn_ready (rs := [7]) (by kernel_rfl) (by simp) ?_
                refine AllReadyIn.cons rfl (fun K hK => step_append_runW rfl (.tmp 43) (.tmp 46) 71 71 rfl _ _ _ w' rfl rfl hrun (hK _ _ ?_)) AllReadyIn.nil
                clear hK K
                refine wpAnyIn_ready (rs := [8]) (by kernel_rfl) (by simp) ?_
                refine AllReadyIn.cons rfl (fun K hK => ?_) AllReadyIn.nil
                go_simp
                refine hK _ _ ?_
                clear hK K
                refine wpAnyIn_done (by kernel_rfl) ?_ _
                (first | refine hK' _ _ (Met.intro (hJ _ _ ?_)) | refine Met.intro (hJ _ _ ?_))
                (repeat apply Exists.intro)
                refine ⟨⟨_, _, Hfin.out⟩, rfl⟩
              · go_simp
                refine hK _ _ ?_
                clear hK K
                refine wpAnyIn_take (i := 5) (v := .int .i64 (L : Int)) rfl rfl (by kernel_rfl) (by kernel_rfl) (by kernel_rfl) (fun _ _ _ h => h) ⟨Or.inl ⟨by rfl, by intro w; go_simp⟩, fun _ => rfl⟩ ?_
                refine wpAnyIn_ready (rs := [0, 6]) (by kernel_rfl) (by simp) ?_
                refine AllReadyIn.cons rfl (fun K hK => ?_) (AllReadyIn.cons rfl (fun K hK => ?_) AllReadyIn.nil)
                · go_simp
                  refine hK _ _ ?_
                  clear hK K
                  refine wpAnyIn_take (i := 3) (v := .slice (some ⟨g, 0, none⟩) e tc) rfl rfl (by kernel_rfl) (by kernel_rfl) (by kernel_rfl) (fun _ _ _ h => h) ⟨Or.inl ⟨by rfl, by intro w; go_simp⟩, fun _ => rfl⟩ ?_
                  refine wpAnyIn_ready (rs := [6]) (by kernel_rfl) (by simp) ?_
                  refine AllReadyIn.cons rfl (fun K hK => ?_) AllReadyIn.nil
                  go_simp
                  refine hK _ _ ?_
                  clear hK K
                  refine wpAnyIn_ready (rs := [7]) (by kernel_rfl) (by simp) ?_
                  refine AllReadyIn.cons rfl (fun K hK => step_append_runW rfl (.tmp 43) (.tmp 46) 71 71 rfl _ _ _ w' rfl rfl hrun (hK _ _ ?_)) AllReadyIn.nil
                  clear hK K
                  refine wpAnyIn_ready (rs := [8]) (by kernel_rfl) (by simp) ?_
                  refine AllReadyIn.cons rfl (fun K hK => ?_) AllReadyIn.nil
                  go_simp
                  refine hK _ _ ?_
                  clear hK K
                  refine wpAnyIn_done (by kernel_rfl) ?_ _
                  (first | refine hK' _ _ (Met.intro (hJ _ _ ?_)) | refine Met.intro (hJ _ _ ?_))
                  (repeat apply Exists.intro)
                  refine ⟨⟨_, _, Hfin.out⟩, rfl⟩
                · go_simp
                  refine hK _ _ ?_
                  clear hK K
                  refine wpAnyIn_ready (rs := [0]) (by kernel_rfl) (by simp) ?_
                  refine AllReadyIn.cons rfl (fun K hK => ?_) AllReadyIn.nil
                  go_simp
                  refine hK _ _ ?_
                  clear hK K
                  refine wpAnyIn_take (i := 3) (v := .slice (some ⟨g, 0, none⟩) e tc) rfl rfl (by kernel_rfl) (by kernel_rfl) (by kernel_rfl) (fun _ _ _ h => h) ⟨Or.inl ⟨by rfl, by intro w; go_simp⟩, fun _ => rfl⟩ ?_
                  refine wpAnyIn_ready (rs := [7]) (by kernel_rfl) (by simp) ?_
                  refine AllReadyIn.cons rfl (fun K hK => step_append_runW rfl (.tmp 43) (.tmp 46) 71 71 rfl _ _ _ w' rfl rfl hrun (hK _ _ ?_)) AllReadyIn.nil
                  clear hK K
                  refine wpAnyIn_ready (rs := [8]) (by kernel_rfl) (by simp) ?_
                  refine AllReadyIn.cons rfl (fun K hK => ?_) AllReadyIn.nil
                  go_simp
                  refine hK _ _ ?_
                  clear hK K
                  refine wpAnyIn_done (by kernel_rfl) ?_ _
                  (first | refine hK' _ _ (Met.intro (hJ _ _ ?_)) | refine Met.intro (hJ _ _ ?_))
                  (repeat apply Exists.intro)
                  refine ⟨⟨_, _, Hfin.out⟩, rfl⟩
          case rest =>
            rename World => w10
            obtain ⟨ta', tc', hN10⟩ := hcut
            clear hN8
            obtain ⟨a', c', w', hrun, hq1, hq2, hq3, hfin⟩ := hN10.pushNode (by have h4 := HLen.out; have h5 := Hplen.out; omega) 70
            have Hfin := Lib.hid hfin
            have hc1 := hN10.b1.cell
            have x0 := hN10.node.cell 0
            have x1 := hN10.node.cell 1
            have x2 := hN10.node.cell 2
            have x3 := hN10.node.cell 3
            have x4 := hN10.node.cell 4
            have x5 := hN10.node.cell 5
            have x6 := hN10.node.cell 6
            simp only [cellsN, wds, List.cons_append, List.nil_append, List.getElem?_cons_succ, List.getElem?_cons_zero] at x0 x1 x2 x3 x4 x5 x6 hrun
            clear hfin
            gi_wp2_with (refine wpListIn_append_run rfl (.tmp 48) (.tmp 50) 70 70 rfl _ _ _ w' rfl rfl hrun ?_)
            obtain ⟨hB, hk2, hbx1, hbx2, hn, hl2⟩ := Hfin.out
            have hd3 : (last.take (d - 1) ++ [L]).length = d := by have := HLa.out; simp; omega
            have hst2 : nodStep (ns, last) ⟨d, hd, len⟩ = (ahead (ns, last) d ++ [⟨hd.k, fS hd.set, upN last d, -1⟩], last.take (d - 1) ++ [L]) := by
              unfold nodStep
              rw [show (ns, last).1.length = L from Hnl.out]
            have hq := Hst.out.trans hst2
            refine ⟨hk2.oth.from _, hk2.spa, ?_⟩
            unfold NdI
            rw [hq, List.length_append, HLen.out]
            simp only
            rw [hd3]
            exact ⟨hB, a', c', ta', tc', hbx1, hbx2, hn, hl2⟩
  case done =>
    rintro D xs W hD hfull hI hK
    obtain ⟨hB, la, lc, ta, tc, h1, h2, h3, h4⟩ := hI
    rw [show xs.map (·.nd) = _ from hfull] at h3
    have hlen := h3.len
    rw [hlen] at h1 h3
    have k1 := h1.cell
    have f1 := h1.frozen
    clear hlen hfull
    gi_wp2
    refine ⟨by simp, .inl ⟨_, _, rfl, run_takeDeferred hK, ?_⟩⟩
    refine ⟨.slice la (nodsP (Fo.pre 1 (.cons hh kids .nil))).1.length lc, ?_, la, lc, rfl, ?_, hB.trans ((Below.refl w.heap.size _).grown (grownBy_putObj' _ D (.deferred none)) hB.size (fun k e => by cases e; have := Hws.out; omega))⟩
    · simp [results, Try.f65, go_sem]
    · refine World.ownsRow.kept h3 (grownBy_putObj' _ D (.deferred none)) ?_
      rw [ownBlock_obk]
      cases hla : obk la with
      | none => exact .inl rfl
      | some g => obtain ⟨_, cur, hc⟩ := OwnN.row h3 g hla; exact .inr fun e => by cases e; rw [hK] at hc; cases hc
end Go.Proofs.Ytkdfobnkebkpfaa
