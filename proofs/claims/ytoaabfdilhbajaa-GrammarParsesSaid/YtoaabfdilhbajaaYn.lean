/- Layer 7: the reference's Parse. -/
import Derived.Test.YtoaabfdilhbajaaYm
import Derived.Test.YtoaabfdilhbajaaYg
namespace Go.Proofs.Ytoaabfdilhbajaa
open Go.RowKit Go.Shelf

attribute [local go_sem] Oper.semAt_some

structure PaSt (w0 : World) (gR rb gb : Nat) (s : ByteArray) (w : World) (k : Nat) (bad : Bool) (rs : List RlD) (ga : Option Addr) (gc : Nat) : Prop where
  gr : Below w0.heap.size w0 w
  box : RBx w rb s k bad
  res : Blk w gR 24 [.slice none 0 0]
  gbx : Blk w gb 24 [.slice ga rs.length gc]
  row : OwnR w w0.heap.size ga gc rs
  rdy : ∀ r ∈ rs, RdyR w r
  l1 : w0.heap.size ≤ gR
  l2 : w0.heap.size ≤ rb
  l3 : w0.heap.size ≤ gb
  ne : gR ≠ gb
section
variable {w0 w w' : World} {gR rb gb k k' gc : Nat} {s : ByteArray} {bad bad' : Bool} {rs : List RlD} {ga : Option Addr}
theorem PaSt.rd (h : PaSt w0 gR rb gb s w k bad rs ga gc) (hg : w.grownBy w' (some rb)) (hb : RBx w' rb s k' bad') : PaSt w0 gR rb gb s w' k' bad' rs ga gc := by
  have hx : w.heap[rb]? = _ := h.box
  have ht : ∀ {e : Nat}, e ≠ 61 → ∀ g, some rb = some g → ∃ c t f, w.heap[g]? = some (.cells c t f) ∧ e ≠ t := fun hne g e0 => by cases e0; exact ⟨_, _, _, hx, hne⟩
  have hty : TyK w w' := tyk_of hg (fun g e => by cases e; exact ⟨_, _, _, hx, by decide, by decide⟩)
  exact ⟨h.gr.grown hg h.gr.size (fun k e => by cases e; exact h.l2), hb, blk_ty (g := 0) h.res hg (ht (by decide)), blk_ty (g := 0) h.gbx hg (ht (by decide)), own_kept_ty h.row hg (ht (by decide)), fun r hr => (h.rdy r hr).ty hty, h.l1, h.l2, h.l3, h.ne⟩
theorem PaSt.al (h : PaSt w0 gR rb gb s w k bad rs ga gc) (o : Obj) : PaSt w0 gR rb gb s (w.alloc o) k bad rs ga gc :=
  ⟨h.gr.alloc h.gr.size o, h.box.alloc o, h.res.alloc o, h.gbx.alloc o, h.row.alloc o, fun r hr => (h.rdy r hr).ty (tyk_of (World.grownBy_alloc w o none) (fun g e => by cases e)), h.l1, h.l2, h.l3, h.ne⟩
theorem PaSt.push (h : PaSt w0 gR rb gb s w k bad rs ga gc) (r : RlD) (hr : RdyR w r) (ty : TypeId) (hn : rs.length + 1 ≤ 1099511627780) :
    ∃ a' c' w', (Builtin.append_ #[22, 22] ty #[.slice ga rs.length gc, .slice (some ⟨w.heap.size, 0, none⟩) 1 1]).run Try.prog (w.alloc (.cells #[.string r.n, .slice r.a r.ds.length r.c] 40)) = .ok (.slice a' (rs.length + 1) c') w' ∧
      Blk w' gb 24 [.slice ga rs.length gc] ∧
      PaSt w0 gR rb gb s (w'.setCell ⟨gb, 0, none⟩ (.slice a' (rs.length + 1) c')) k bad (rs ++ [r]) a' c' := by
  obtain ⟨a', c', w', hrun, ho, hg⟩ := run_pushV w 22 ty 40 _ 2 40 Try.underlying22 info_rule rfl (by decide) (by decide) [.string r.n, .slice r.a r.ds.length r.c] rfl (by simp [Value.oneCell']) h.row hn h.gr.size
  have hrt := own_typ h.row
  have hty : ∀ {e : Nat}, e ≠ 40 → ∀ g, (Value.slice ga rs.length gc).ownBlock = some g → ∃ c t f, w.heap[g]? = some (.cells c t f) ∧ e ≠ t := fun hne g e0 => by
    obtain ⟨_, cur, hk⟩ := hrt g e0
    exact ⟨_, _, _, hk, hne⟩
  have hgb := blk_ty (g := 0) h.gbx hg (hty (by decide))
  have hx : w'.heap[gb]? = _ := hgb
  have hg2 := grownBy_set w' gb 0 (.slice a' (rs.length + 1) c')
  have ht2 : ∀ {e : Nat}, e ≠ 24 → ∀ g, some gb = some g → ∃ c t f, w'.heap[g]? = some (.cells c t f) ∧ e ≠ t := fun hne g e0 => by cases e0; exact ⟨_, _, _, hx, hne⟩
  have hk1 : TyK w w' := tyk_of hg (fun g e => by obtain ⟨_, cur, hk⟩ := hrt g e; exact ⟨_, _, _, hk, by decide, by decide⟩)
  have hk2 : TyK w' (w'.setCell ⟨gb, 0, none⟩ (.slice a' (rs.length + 1) c')) := tyk_of hg2 (fun g e => by cases e; exact ⟨_, _, _, hx, by decide, by decide⟩)
  have hlen : (rs ++ [r]).length = rs.length + 1 := by simp
  have hb1 := h.gr.grown hg h.gr.size (fun k e => (hrt k e).1)
  refine ⟨a', c', w', hrun, hgb, hb1.grown hg2 hb1.size (fun k e => by cases e; exact h.l3), blk_ty (g := 0) (blk_ty (g := 0) h.box hg (hty (by decide))) hg2 (ht2 (by decide)), (blk_ty (g := 0) h.res hg (hty (by decide))).setOther h.ne _, ?_, ?_, fun q hq => ?_, h.l1, h.l2, h.l3, h.ne⟩
  · rw [hlen]; exact hgb.set 0 _
  · have := own_kept_ty ho hg2 (ht2 (by decide))
    unfold OwnR
    rw [hlen]
    simpa [RlD.cells] using this
  · rcases List.mem_append.1 hq with hq | hq
    · exact ((h.rdy q hq).ty hk1).ty hk2
    · rw [List.mem_singleton.1 hq]; exact (hr.ty hk1).ty hk2
theorem rls_of {B : Nat} (hr : OwnR w B ga gc rs) (hd : ∀ r ∈ rs, RdyR w r) : Rls w ga gc rs := by
  have ha : ∀ r ∈ rs, Alts w r.a r.c r.ds := fun r hr => (hd r hr).a
  rcases hr.2 with ⟨e1, e0⟩ | ⟨g, cp, cur, e1, hb, hk, hnc, hcm, _⟩
  · injection e1 with e1 e2 e3
    exact ⟨by omega, by omega, fun _ => e3, fun i hi => by omega, fun b off e => (by rw [e1] at e; cases e), ha⟩
  · injection e1 with e1 e2 e3
    refine ⟨by omega, by unfold maxLen at hcm; omega, fun e => (by rw [e1] at e; cases e), fun i hi => ⟨g, 0, e1⟩, fun b off e i hi => ?_, ha⟩
    rw [e1] at e
    cases e
    subst e1
    obtain ⟨q1, q2⟩ := cells_at rs i hi
    rw [Nat.zero_add]
    exact ⟨(World.ownsRow.cellAt hr (i * 2) (by omega)).trans q1, (World.ownsRow.cellAt hr (i * 2 + 1) (by omega)).trans q2⟩
/-- The result is written. -/
theorem PaSt.out (h : PaSt w0 gR rb gb s w k bad rs ga gc) (v : Value) : Blk (w.setCell ⟨gR, 0, none⟩ v) gR 24 [v] ∧ Below w0.heap.size w0 (w.setCell ⟨gR, 0, none⟩ v) ∧ Rls (w.setCell ⟨gR, 0, none⟩ v) ga gc rs := by
  have hx : w.heap[gR]? = _ := h.res
  have hg := grownBy_set w gR 0 v
  have ht : ∀ {e : Nat}, e ≠ 24 → ∀ g, some gR = some g → ∃ c t f, w.heap[g]? = some (.cells c t f) ∧ e ≠ t := fun hne g e0 => by cases e0; exact ⟨_, _, _, hx, hne⟩
  have hty : TyK w (w.setCell ⟨gR, 0, none⟩ v) := tyk_of hg (fun g e => by cases e; exact ⟨_, _, _, hx, by decide, by decide⟩)
  refine ⟨h.res.set 0 v, h.gr.setCell (p := ⟨gR, 0, none⟩) h.l1 v, ?_⟩
  exact rls_of (own_kept_ty h.row hg (ht (by decide))) (fun r hr => (h.rdy r hr).ty hty)
end
set_option maxRecDepth 100000 in
set_option maxHeartbeats 4000000 in
theorem refParse_any (s : ByteArray) (w : World) : Calls Try.prog 17 #[.string s] w (PaQ w (parseP s)) := by
  by_cases hbig : 4096 < s.size
  · have hI : (4096 : Int) < (s.size : Int) := by omega
    have HP : Hid (parseP s = ([], 0, 2)) := Lib.hid (by unfold parseP; rw [if_pos hbig])
    rw [HP.out]
    have HO2 : Hid (Blk (w.alloc (.cells #[.slice none 0 0] 24)) w.heap.size 24 [.slice none 0 0] ∧ Below w.heap.size w (w.alloc (.cells #[.slice none 0 0] 24))) := Lib.hid ⟨Blk.new w 24 #[.slice none 0 0], up1 _ _⟩
    go_enter Try.func17, Try.ntmps17
    go_wp2_with (fail)
    generalize w.alloc (.cells #[.slice none 0 0] 24) = W5 at HO2 ⊢
    have y2 := HO2.out.1.cell 0
    simp only [List.getElem?_cons_zero] at y2
    exact bodyPost_ret (v := .tuple #[.agg #[.slice none 0 0], .int .i64 0, .int .i64 2]) (by simp [results, Try.results17, go_sem, y2]; try first | rfl | assumption | omega) rfl ⟨[], none, 0, rfl, rfl, Rls.nil _, HO2.out.2⟩
  have hI : ¬ (4096 : Int) < (s.size : Int) := by omega
  have hs : s.size ≤ 4096 := by omega
  have HA0 := Lib.hid (ansA.start s hs)
  obtain ⟨A, hA⟩ : ∃ R, Hid (parseP s = R) := ⟨_, Lib.hid rfl⟩
  rw [hA.out] at HA0 ⊢
  have e1 : (w.alloc (.cells #[.slice none 0 0] 24)).heap.size = w.heap.size + 1 := hs1 _ _
  have e2 : ((w.alloc (.cells #[.slice none 0 0] 24)).alloc (.cells #[.string s, .int .i64 0, .bool false] 61)).heap.size = w.heap.size + 1 + 1 := by rw [hs1, e1]
  have hQ0 : PaSt w w.heap.size (w.heap.size + 1) (w.heap.size + 1 + 1) s (((w.alloc (.cells #[.slice none 0 0] 24)).alloc (.cells #[.string s, .int .i64 0, .bool false] 61)).alloc (.cells #[.slice none 0 0] 24)) 0 false [] none 0 := by
    refine ⟨up1' _ _ _ (up1' _ _ _ (up1 _ _)), ?_, ((Blk.new w 24 #[.slice none 0 0]).alloc _).alloc _, ?_, World.ownsRow_nil _ _ _ _, fun r hr => (by cases hr), Nat.le_refl _, by omega, by omega, by omega⟩
    · have := Blk.new (w.alloc (.cells #[.slice none 0 0] 24)) 61 #[.string s, .int .i64 0, .bool false]
      rw [e1] at this
      exact this.alloc _
    · have := Blk.new ((w.alloc (.cells #[.slice none 0 0] 24)).alloc (.cells #[.string s, .int .i64 0, .bool false] 61)) 24 #[.slice none 0 0]
      rw [e2] at this
      exact this
  have HQ0 := Lib.hid hQ0
  have Hrule := Lib.hid (fun k V rs hk h ha hne => rule_any s (w.heap.size + 1) k V A rs hk hs h ha hne)
  have Hhere := Lib.hid (fun k bad V hk h => here_any s (w.heap.size + 1) k bad V hk hs h)
  clear e1 e2 hQ0
  go_enter Try.func17, Try.ntmps17
  go_wp2_with (fail)
  generalize hW1 : World.alloc (World.alloc (World.alloc w _) _) _ = W1 at HQ0 ⊢
  clear hW1
  obtain ⟨gR, hgR⟩ : ∃ q, Hid (w.heap.size = q) := ⟨_, Lib.hid rfl⟩
  rw [hgR.out] at HQ0 Hrule Hhere
  simp only [hgR.out]
  obtain ⟨rb, hrb⟩ : ∃ q, Hid (gR + 1 = q) := ⟨_, Lib.hid rfl⟩
  obtain ⟨gb, hgb⟩ : ∃ q, Hid (rb + 1 = q) := ⟨_, Lib.hid rfl⟩
  have hn1 : gR < rb ∧ rb < gb := by have := hrb.out; have := hgb.out; omega
  rw [hrb.out, hgb.out] at HQ0
  rw [hrb.out] at Hrule Hhere
  simp only [hrb.out, hgb.out]
  go_loopg [7] (s.size + 1) (fun m fv wr => ∃ (k : Nat) (bad first : Bool) (rs : List RlD) (ga : Option Addr) (gc : Nat), m = (if bad = true then 0 else s.size + 1 - k) ∧ k ≤ s.size ∧ fv = .bool first ∧ Hid (PaSt w gR rb gb s wr k bad rs ga gc) ∧ Hid (bad = true → A = ([], k, 70)) ∧ Hid (bad = false → rs.length ≤ k ∧ ansA s A ⟨grP rs, 0⟩ k) ∧ Hid (first = true → rs = [] ∧ bad = false) ∧ Hid (first = false → rs ≠ []))
  case atStart => exact ⟨0, false, true, [], none, 0, rfl, Nat.zero_le _, rfl, HQ0, Lib.hid (fun e => (by cases e)), Lib.hid (fun _ => ⟨Nat.le_refl _, HA0.out⟩), Lib.hid (fun _ => ⟨rfl, rfl⟩), Lib.hid (fun e => (by cases e))⟩
  case round =>
    obtain ⟨k, bad, first, rs, ga, gc, rfl, hk, rfl, HQ, HB, HG, HF1, HF2⟩ := hrel
    clear HQ0 HA0
    cases bad
    case true =>
      have b1 := HQ.out.box.cell 1
      have b2 := HQ.out.box.cell 2
      have bl := HQ.out.box.lt
      have z0 := HQ.out.res.cell 0
      have zl := HQ.out.res.lt
      have zf := HQ.out.res.frozen 0
      simp only [List.getElem?_cons_zero, List.getElem?_cons_succ] at b1 b2 z0
      have HR : Hid (A = ([], k, 70)) := Lib.hid (by first | exact HB.out rfl | exact HB.out trivial)
      clear HB HG
      go_wp2_with (fail)
      have HP : Hid (Blk (wr.setCell ⟨gR, 0, none⟩ (.slice none 0 0)).drew gR 24 [.slice none 0 0] ∧ Below w.heap.size w (wr.setCell ⟨gR, 0, none⟩ (.slice none 0 0)).drew) := Lib.hid (by
        obtain ⟨h1, h2, _⟩ := HQ.out.out (.slice none 0 0)
        exact ⟨h1.kept (grownBy_drew _ none) (by simp), h2.drew⟩)
      go_region
      go_wp2_with (fail)
      generalize World.drew (World.setCell wr _ _) = w5 at HP ⊢
      have y2 := HP.out.1.cell 0
      simp only [List.getElem?_cons_zero] at y2
      rw [HR.out]
      exact bodyPost_ret (v := .tuple #[.agg #[.slice none 0 0], .int .i64 (k : Int), .int .i64 70]) (by simp [results, Try.results17, go_sem, y2]; try first | rfl | assumption | omega) rfl ⟨[], none, 0, rfl, rfl, Rls.nil _, HP.out.2⟩
    case false =>
      obtain ⟨hrk, hans⟩ : rs.length ≤ k ∧ ansA s A ⟨grP rs, 0⟩ k := by first | exact HG.out rfl | exact HG.out trivial
      have Hans := Lib.hid hans
      clear HB HG hans
      have b2 := HQ.out.box.cell 2
      have bl := HQ.out.box.lt
      simp only [List.getElem?_cons_zero, List.getElem?_cons_succ] at b2
      cases first
      case true =>
        obtain ⟨hre, _⟩ : rs = [] ∧ false = false := by first | exact HF1.out rfl | exact HF1.out trivial
        have Hc := Lib.hid (Hrule.out k wr (grP rs) hk HQ.out.box Hans.out (.inl (by rw [hre]; rfl)))
        clear hre HF1 HF2
        go_wp2_with (fail)
        refine Hc.out.mono ?_
        rintro e w5 ⟨r, k2, bad2, rfl, hrdy, hg5, hb5, hk2, hA1, hA2⟩
        have HA1 := Lib.hid hA1
        have HA2 := Lib.hid hA2
        have hQ5 := HQ.out.rd hg5 hb5
        clear hg5 hb5 hA1 hA2 Hc
        have hrd6 : RdyR (w5.alloc (.cells #[.string r.n, .slice r.a r.ds.length r.c] 40)) r := hrdy.ty (tyk_of (World.grownBy_alloc w5 _ none) (fun g e => by cases e))
        have hQ6 := hQ5.al (.cells #[.string r.n, .slice r.a r.ds.length r.c] 40)
        obtain ⟨a', c', w', hrun, hgb7, hQ7⟩ := hQ6.push r hrd6 22 (by omega)
        rw [World.size_alloc] at hrun
        have HQ7 := Lib.hid hQ7
        have Hrun := Lib.hid hrun
        have hB8 := Blk.new w5 40 #[.string r.n, .slice r.a r.ds.length r.c]
        have g0 := hQ6.gbx.cell 0
        have gl := hQ6.gbx.lt
        have g7 := hgb7.cell 0
        have gl7 := hgb7.lt
        have gf7 := hgb7.frozen 0
        have y0 := hB8.cell 0
        have y1 := hB8.cell 1
        have yl := hB8.lt
        simp only [List.getElem?_cons_zero, List.getElem?_cons_succ] at g0 g7 y0 y1
        have h5 := hQ5.gbx.cell 0
        have hl5 := hQ5.gbx.lt
        simp only [List.getElem?_cons_zero] at h5
        obtain ⟨RL, hRL⟩ : ∃ q, Hid (r.ds.length = q) := ⟨_, Lib.hid rfl⟩
        obtain ⟨L, hL⟩ : ∃ q, Hid (rs.length = q) := ⟨_, Lib.hid rfl⟩
        rw [hRL.out] at Hrun y0 y1 yl g0 gl
        rw [hL.out] at Hrun HQ7 g0 g7 h5 hrk
        simp only [hRL.out]
        clear hrdy hQ5 hrd6 hQ6 hrun hgb7 hQ7 hB8 b2 bl
        have HGn : Hid (bad2 = false → (rs ++ [r]).length ≤ k2 ∧ ansA s A ⟨grP (rs ++ [r]), 0⟩ k2) := Lib.hid (fun e => ⟨by have := (HA2.out e).1; rw [List.length_append, hL.out]; simp; omega, by rw [grP_snoc]; exact (HA2.out e).2⟩)
        have Hms : Hid ((if bad2 = true then 0 else s.size + 1 - k2) < s.size + 1 - k) := Lib.hid (by
          cases bad2
          · have := (HA2.out rfl).1
            simp; omega
          · simp; omega)
        go_wp2_with (at_builtin; refine wpList_append_run rfl _ _ 22 22 rfl _ _ _ _ rfl rfl Hrun.out ?_)
        go_roundg (if bad2 = true then 0 else s.size + 1 - k2)
        case measure => exact Hms.out
        case rel => exact ⟨k2, bad2, false, rs ++ [r], a', c', rfl, hk2, rfl, HQ7, HA1, HGn, Lib.hid (fun e => (by cases e)), Lib.hid (fun _ => by simp)⟩
      case false =>
        have hrn : rs ≠ [] := by first | exact HF2.out rfl | exact HF2.out trivial
        have Hrn := Lib.hid hrn
        have Hh := Lib.hid (Hhere.out k false wr hk HQ.out.box)
        have hp := nxA_le hk
        have hkp := le_nxA s k
        have Hans2 := Lib.hid Hans.out.here
        have Hpp := Lib.hid (nxA_nxA s k)
        obtain ⟨p, hpe⟩ : ∃ q, Hid (nxA s k = q) := ⟨_, Lib.hid rfl⟩
        rw [hpe.out] at Hh hp Hans2 Hpp hkp
        clear hrn HF1 HF2
        go_wp2_with (fail)
        refine Hh.out.mono ?_
        rintro e w3 ⟨rfl, hb3, hg3⟩
        have HQ3 := Lib.hid (HQ.out.rd hg3 hb3)
        clear hb3 hg3 Hh b2 bl HQ
        have b2 := HQ3.out.box.cell 2
        have bl := HQ3.out.box.lt
        simp only [List.getElem?_cons_zero, List.getElem?_cons_succ] at b2
        by_cases hpl : p < s.size
        · have hWn : ((wordA s p).toList == []) = false := by
            rw [toList_is, beq_dec]
            exact decide_eq_false (fun e => wordA_ne hpl (ByteArray.ext (Array.ext' e)))
          have Hc := Lib.hid (Hrule.out p w3 (grP rs) hp HQ3.out.box Hans2.out (.inr (by rw [Hpp.out]; exact hpl)))
          generalize wordA s p = W at hWn ⊢
          have hWn2 : W.toList.isEmpty = false := by cases h : W.toList <;> simp_all
          go_wp2_with (fail)
          refine Hc.out.mono ?_
          rintro e w5 ⟨r, k2, bad2, rfl, hrdy, hg5, hb5, hk2, hA1, hA2⟩
          have HA1 := Lib.hid hA1
          have HA2 := Lib.hid hA2
          have hQ5 := HQ3.out.rd hg5 hb5
          clear hg5 hb5 hA1 hA2 Hc
          have hrd6 : RdyR (w5.alloc (.cells #[.string r.n, .slice r.a r.ds.length r.c] 40)) r := hrdy.ty (tyk_of (World.grownBy_alloc w5 _ none) (fun g e => by cases e))
          have hQ6 := hQ5.al (.cells #[.string r.n, .slice r.a r.ds.length r.c] 40)
          obtain ⟨a', c', w', hrun, hgb7, hQ7⟩ := hQ6.push r hrd6 22 (by omega)
          rw [World.size_alloc] at hrun
          have HQ7 := Lib.hid hQ7
          have Hrun := Lib.hid hrun
          have hB8 := Blk.new w5 40 #[.string r.n, .slice r.a r.ds.length r.c]
          have g0 := hQ6.gbx.cell 0
          have gl := hQ6.gbx.lt
          have g7 := hgb7.cell 0
          have gl7 := hgb7.lt
          have gf7 := hgb7.frozen 0
          have y0 := hB8.cell 0
          have y1 := hB8.cell 1
          have yl := hB8.lt
          simp only [List.getElem?_cons_zero, List.getElem?_cons_succ] at g0 g7 y0 y1
          have h5 := hQ5.gbx.cell 0
          have hl5 := hQ5.gbx.lt
          simp only [List.getElem?_cons_zero] at h5
          obtain ⟨RL, hRL⟩ : ∃ q, Hid (r.ds.length = q) := ⟨_, Lib.hid rfl⟩
          obtain ⟨L, hL⟩ : ∃ q, Hid (rs.length = q) := ⟨_, Lib.hid rfl⟩
          rw [hRL.out] at Hrun y0 y1 yl g0 gl
          rw [hL.out] at Hrun HQ7 g0 g7 h5 hrk
          simp only [hRL.out]
          clear hrdy hQ5 hrd6 hQ6 hrun hgb7 hQ7 hB8 b2 bl
          have HGn : Hid (bad2 = false → (rs ++ [r]).length ≤ k2 ∧ ansA s A ⟨grP (rs ++ [r]), 0⟩ k2) := Lib.hid (fun e => ⟨by have := (HA2.out e).1; rw [List.length_append, hL.out]; simp; omega, by rw [grP_snoc]; exact (HA2.out e).2⟩)
          have Hms : Hid ((if bad2 = true then 0 else s.size + 1 - k2) < s.size + 1 - k) := Lib.hid (by
            cases bad2
            · have := (HA2.out rfl).1
              simp; omega
            · simp; omega)
          go_wp2_with (at_builtin; refine wpList_append_run rfl _ _ 22 22 rfl _ _ _ _ rfl rfl Hrun.out ?_)
          go_roundg (if bad2 = true then 0 else s.size + 1 - k2)
          case measure => exact Hms.out
          case rel => exact ⟨k2, bad2, false, rs ++ [r], a', c', rfl, hk2, rfl, HQ7, HA1, HGn, Lib.hid (fun e => (by cases e)), Lib.hid (fun _ => by simp)⟩
        · have hWe : wordA s p = ⟨#[]⟩ := wordA_end (by omega)
          have HR0 := Lib.hid (Hans2.out.fin (by rw [Hpp.out]; omega))
          rw [hWe]
          clear hWe
          have z0 := HQ3.out.res.cell 0
          have zl := HQ3.out.res.lt
          have g0 := HQ3.out.gbx.cell 0
          have gl := HQ3.out.gbx.lt
          simp only [List.getElem?_cons_zero, List.getElem?_cons_succ] at z0 g0
          have hrls := rls_of HQ3.out.row HQ3.out.rdy
          have Hl := Lib.hid (refLong_any rs ga gc w3 hrls)
          have HLP := Lib.hid (long_is rs)
          obtain ⟨G, hG⟩ : ∃ q, Hid (longG rs = q) := ⟨_, Lib.hid rfl⟩
          rw [hG.out] at Hl HLP
          have hrn2 : grP rs ≠ [] := fun e => Hrn.out (by simpa [grP] using e)
          have HAe : Hid (A = if G = true then ([], 0, 2) else (grP rs, 0, 0)) := Lib.hid (by
            rw [HR0.out]
            simp only [parseT]
            rw [if_neg (by simp [hrn2]), ← HLP.out])
          obtain ⟨L, hL⟩ : ∃ q, Hid (rs.length = q) := ⟨_, Lib.hid rfl⟩
          rw [hL.out] at Hl g0
          clear hrls hrn2
          go_wp2_with (fail)
          refine Hl.out.mono ?_
          rintro e w4 ⟨rfl, hb4⟩
          have z1 := cell_up hb4 z0
          have g1 := cell_up hb4 g0
          have zl1 : gR < w4.heap.size := Nat.lt_of_lt_of_le zl hb4.size
          have gl1 : gb < w4.heap.size := Nat.lt_of_lt_of_le gl hb4.size
          have hQ4 : PaSt w gR rb gb s w4 p false rs ga gc := HQ3.out.rd (below_grownBy hb4 (some rb)) (HQ3.out.box.below hb4 HQ3.out.box.lt)
          have zf := hQ4.res.frozen 0
          have HQ4 := Lib.hid hQ4
          clear z0 g0 zl gl hb4 hQ4 HQ3
          cases G
          case true =>
            have HP := Lib.hid (HQ4.out.out (.slice none 0 0))
            go_wp2_with (fail)
            generalize World.setCell w4 _ _ = w5 at HP ⊢
            have y2 := HP.out.1.cell 0
            simp only [List.getElem?_cons_zero] at y2
            rw [HAe.out]
            exact bodyPost_ret (v := .tuple #[.agg #[.slice none 0 0], .int .i64 0, .int .i64 2]) (by simp [results, Try.results17, go_sem, y2]; try first | rfl | assumption | omega) rfl ⟨[], none, 0, rfl, rfl, Rls.nil _, HP.out.2.1⟩
          case false =>
            have HP := Lib.hid (HQ4.out.out (.slice ga L gc))
            go_wp2_with (fail)
            generalize World.setCell w4 _ _ = w5 at HP ⊢
            have y2 := HP.out.1.cell 0
            simp only [List.getElem?_cons_zero] at y2
            rw [HAe.out]
            exact bodyPost_ret (v := .tuple #[.agg #[.slice ga L gc], .int .i64 0, .int .i64 0]) (by simp [results, Try.results17, go_sem, y2]; try first | rfl | assumption | omega) rfl ⟨rs, ga, gc, by rw [hL.out]; rfl, rfl, HP.out.2.2, HP.out.2.1⟩
end Go.Proofs.Ytoaabfdilhbajaa
