/- Texts joined: Ca. -/
import Derived.Test.YtngbfjimmdkfeaaPBDL
import Derived.Test.YtngbfjimmdkfeaaPBRc
import Derived.Test.YtngbfjimmdkfeaaPBDB
set_option linter.unusedVariables false
set_option linter.unusedSimpArgs false
namespace Go.Proofs.Ytngbfjimmdkfeaa
open Go.RowKit Go.Shelf Go.Maps

attribute [local go_sem] Oper.semAt_some

theorem own_lit (w : World) (X : Nat) (t : TypeId) (v : Value) (hX : X ≤ w.heap.size) : (w.alloc (.cells #[v] t)).ownsRow X t 1 (.slice (some ⟨w.heap.size, 0, none⟩) 1 1) 1 [v] := by
  refine ⟨rfl, .inr ⟨w.heap.size, 1, #[v], rfl, hX, World.alloc_heap_new w _, Nat.le_refl _, by decide, rfl, rfl⟩⟩
theorem wrap_byte {c : Nat} (h : c < 256) : IntKind.u8.wrap (c : Int) = (c : Int) := by
  simp [IntKind.wrap, IntKind.signed, IntKind.bits]
  omega
theorem nil_dfa {w : World} {X : Nat} (h : Blk w X 25 [.slice none 0 0, .slice none 0 0]) : Blk ((w.setCell ⟨X, 0, none⟩ (.slice none 0 0)).setCell ⟨X, 1, none⟩ (.slice none 0 0)) X 25 [.slice none 0 0, .slice none 0 0] := (h.set 0 (.slice none 0 0)).set 1 (.slice none 0 0)

set_option maxRecDepth 100000 in
set_option maxHeartbeats 8000000 in
theorem refDBuild_any (w : World) (x : Nf) (p : NfL) (hx : NfAt w x p) :
    Calls Try.prog 16 #[.agg #[.int .i64 x.n, .int .i64 x.s, .slice p.ea x.ends.length p.ec, .slice p.ga x.es.length p.gc]] w fun e w' => PostB w w' x e := by
  have hE1 := hx.ends.le
  have hE2 := hx.ends.max
  have hG1 := hx.es.le
  have hG2 := hx.es.max
  have Hx := Lib.hid hx
  have Hck := Lib.hid (fun (V : World) (h : NfAt V x p) => refNCheck_any x p V h)
  have Hby := Lib.hid (fun (V : World) (h : NfAt V x p) => refBytes_any x p V h)
  have Hcl := Lib.hid (fun (V : World) (h : NfAt V x p) (hl : linkB x = true) (s : List Nat) (a : Option Addr) (c : Nat) (h2 : IntsN V a c s) (h3 : Rising s) (h4 : ∀ v ∈ s, v < x.n.toNat) => refCloseF_any x p s a c V h hl h2 h3 h4)
  have Hst := Lib.hid (fun (V : World) (h : NfAt V x p) (hl : linkB x = true) (s : List Nat) (a : Option Addr) (c b : Nat) (h2 : IntsN V a c s) (h3 : Rising s) (h4 : ∀ v ∈ s, v < x.n.toNat) (h5 : b < 256) => refStepF_any x p s a c b V h hl h2 h3 h4 h5)
  have Hac := Lib.hid (fun (V : World) (h : NfAt V x p) (s : List Nat) (a : Option Addr) (c : Nat) (h2 : IntsN V a c s) (h3 : ∀ e ∈ x.ends, 0 ≤ e) => refAcc_any x p s a c V h h2 h3)
  obtain ⟨ea, ec, ga, gc⟩ := p
  dsimp only at *
  obtain ⟨E, hE⟩ : ∃ E, Hid (x.ends.length = E) := ⟨_, Lib.hid rfl⟩
  obtain ⟨G, hG⟩ : ∃ G, Hid (x.es.length = G) := ⟨_, Lib.hid rfl⟩
  obtain ⟨xn, hn⟩ : ∃ n, Hid (x.n = n) := ⟨_, Lib.hid rfl⟩
  obtain ⟨xs, hs⟩ : ∃ n, Hid (x.s = n) := ⟨_, Lib.hid rfl⟩
  obtain ⟨q, hq⟩ : ∃ n, Hid (nfB x = n) := ⟨_, Lib.hid rfl⟩
  rw [hE.out] at hE1
  rw [hG.out] at hG1
  rw [hE.out, hG.out, hn.out, hs.out] at Hck Hby Hac
  have hNt : Hid (x.n.toNat = xn.toNat) := Lib.hid (by rw [hn.out])
  rw [hE.out, hG.out, hs.out, hn.out] at Hcl Hst
  rw [hq.out] at Hck
  rw [hE.out, hG.out, hn.out, hs.out]
  obtain ⟨X, hX⟩ : ∃ X, Hid (w.heap.size = X) := ⟨_, Lib.hid rfl⟩
  have hb1 : Below w.heap.size w ((w.alloc (.cells #[.int .i64 xn, .int .i64 xs, .slice ea E ec, .slice ga G gc] 32)).alloc (.cells #[.slice none 0 0, .slice none 0 0] 25)) := ((Below.refl _ w).alloc (Nat.le_refl _) _).alloc (by simp) _
  have hbx := (Blk.new w 32 #[.int .i64 xn, .int .i64 xs, .slice ea E ec, .slice ga G gc]).alloc (.cells #[.slice none 0 0, .slice none 0 0] 25)
  have hbr := Blk.new (w.alloc (.cells #[.int .i64 xn, .int .i64 xs, .slice ea E ec, .slice ga G gc] 32)) 25 #[.slice none 0 0, .slice none 0 0]
  rw [World.size_alloc] at hbr
  obtain ⟨V, hV⟩ : ∃ V, Hid ((w.alloc (.cells #[.int .i64 xn, .int .i64 xs, .slice ea E ec, .slice ga G gc] 32)).alloc (.cells #[.slice none 0 0, .slice none 0 0] 25) = V) := ⟨_, Lib.hid rfl⟩
  rw [hV.out] at hbx hbr hb1
  rw [hX.out] at hbx hbr
  have HX0 := Lib.hid (hx.grown hb1)
  have y0 := hbx.cell 0
  have y1 := hbx.cell 1
  have y2 := hbx.cell 2
  have y3 := hbx.cell 3
  have yl := hbx.lt
  simp only [List.getElem?_cons_zero, List.getElem?_cons_succ] at y0 y1 y2 y3
  clear hx
  go_enter Try.func16, Try.ntmps16
  go_upto_region 1 with fail
  rw [hV.out, hX.out]
  go_wp2_with (fail)
  refine (Hck.out V HX0.out).mono ?_
  rintro e w1 ⟨rfl, hb2⟩
  have Hb2 := Lib.hid hb2
  clear hb2
  cases q
  case false =>
    rw [if_neg (by simp)]
    have r0 := (hbr.below Hb2.out hbr.lt).cell 0
    have r1 := (hbr.below Hb2.out hbr.lt).cell 1
    have rf := (hbr.below Hb2.out hbr.lt).frozen
    have rs0 := nil_dfa (hbr.below Hb2.out hbr.lt)
    have rg := grownBy_trans (grownBy_set w1 (X + 1) 0 (.slice none 0 0)) (grownBy_set _ (X + 1) 1 (.slice none 0 0)) (fun i e => .inl e)
    have HBl : Hid (Below w.heap.size w ((w1.setCell ⟨X + 1, 0, none⟩ (.slice none 0 0)).setCell ⟨X + 1, 1, none⟩ (.slice none 0 0))) := Lib.hid ((hb1.trans (Hb2.out.mono hb1.size)).grown rg (Nat.le_trans hb1.size Hb2.out.size) (fun g e => by injection e with e; rw [hX.out]; omega))
    have q0 := rs0.cell 0
    have q1 := rs0.cell 1
    clear rg rs0
    go_wp2_with (fail)
    exact bodyPost_ret (v := .tuple #[.agg #[.slice none 0 0, .slice none 0 0], .int .i64 30]) (by simp [results, Try.results16, go_sem, q0, q1]; try first | rfl | assumption | omega) rfl ⟨HBl.out, .inl ⟨hq.out, rfl⟩⟩
  case true =>
  rw [if_pos rfl]
  have Hl := Lib.hid (link_of hq.out)
  have hbx1 := hbx.below Hb2.out hbx.lt
  have Hbr1 := Lib.hid (hbr.below Hb2.out hbr.lt)
  have Hbw1 : Hid (Below X w w1) := Lib.hid (by rw [← hX.out]; exact hb1.trans (Hb2.out.mono hb1.size))
  have HXN : Hid (∀ W : World, Below X w W → NfAt W x ⟨ea, ec, ga, gc⟩) := Lib.hid (fun W h => Hx.out.grown (by rw [hX.out]; exact h))
  clear hb1 hbr Hb2 hbx y0 y1 y2 y3 yl HX0 Hck
  have y0 := hbx1.cell 0
  have y1 := hbx1.cell 1
  have y2 := hbx1.cell 2
  have y3 := hbx1.cell 3
  have yl := hbx1.lt
  simp only [List.getElem?_cons_zero, List.getElem?_cons_succ] at y0 y1 y2 y3
  go_wp2_with (fail)
  refine (Hby.out w1 (HXN.out _ Hbw1.out)).mono ?_
  rintro e w2 ⟨tb, rfl, Tt, hT, htb, hTr, hb3⟩
  have HTr := Lib.hid hTr
  have HT2 := Lib.hid hT
  have hbx2 := hbx1.below hb3 hbx1.lt
  have Hbr2 := Lib.hid (Hbr1.out.below hb3 Hbr1.out.lt)
  have Hbw2 := Lib.hid (Hbw1.out.trans (hb3.mono (by rw [← hX.out]; exact Hbw1.out.size)))
  clear hT hTr htb hb3 hbx1 Hbr1 Hbw1 y0 y1 y2 y3 yl Hby
  have y0 := hbx2.cell 0
  have y1 := hbx2.cell 1
  have y2 := hbx2.cell 2
  have y3 := hbx2.cell 3
  have yl := hbx2.lt
  simp only [List.getElem?_cons_zero, List.getElem?_cons_succ] at y0 y1 y2 y3
  obtain ⟨st, hst, hstl⟩ : ∃ st : Nat, xs = (st : Int) ∧ st < x.n.toNat := by
    obtain ⟨st, h1, h2⟩ := link_start Hl.out.1
    exact ⟨st, by rw [← hs.out]; exact h1, h2⟩
  subst hst
  have hup := up_by (w := w2) (.cells #[.int .i64 (st : Int)] 3)
  have hbx3 := hbx2.below hup hbx2.lt
  have Hbr3 := Lib.hid (Hbr2.out.below hup Hbr2.out.lt)
  have HT3 := Lib.hid (HT2.out.below hup HT2.out.lt)
  have Hbw3 := Lib.hid (Hbw2.out.trans (hup.mono (by rw [← hX.out]; exact Hbw2.out.size)))
  have hli : IntsN (w2.alloc (.cells #[.int .i64 (st : Int)] 3)) (some ⟨w2.heap.size, 0, none⟩) 1 [st] := (lit_ints w2 [(st : Int)]).resolve_right (by simp)
  have Hcl0 := Lib.hid (Hcl.out _ (HXN.out _ Hbw3.out) Hl.out.1 [st] (some ⟨w2.heap.size, 0, none⟩) 1 hli (by unfold Rising; exact List.pairwise_singleton _ _) (fun v hv => by rw [List.mem_singleton] at hv; subst hv; rw [← hNt.out]; exact hstl))
  clear hup hli hbx2
  simp only [List.length_cons, List.length_nil, Nat.zero_add] at Hcl0
  go_wp2_with (fail)
  refine Hcl0.out.mono ?_
  rintro e w4 ⟨⟨oa, oc, out, rfl, hi4, hr4, hm4, hl4⟩, hb4, hf4⟩
  have hbx4 := hbx3.below hb4 hbx3.lt
  have Hbr4 := Lib.hid (Hbr3.out.below hb4 Hbr3.out.lt)
  have HT4 := Lib.hid (HT3.out.below hb4 HT3.out.lt)
  have Hbw4 := Lib.hid (Hbw3.out.trans (hb4.mono (by rw [← hX.out]; exact Hbw3.out.size)))
  have hse : out = cloP x (fun a => (a : Int) = x.s) := cloP_is Hl.out.1 (fun a ha => by have := hs.out; omega) hr4 (fun v => by
    rw [hm4 v]
    refine Rn.congr (fun a => ?_) v
    rw [hs.out, List.mem_singleton]
    omega)
  have hset : SetP x out := by rw [hse]; exact setP_clo Hl.out.1 (fun a ha => by have := hs.out; omega)
  have hne : out ≠ [] := by
    have : st ∈ out := (hm4 st).2 (.base (List.mem_singleton.2 rfl))
    exact List.ne_nil_of_mem this
  have hob : ∀ b off, oa = some ⟨b, off, none⟩ → X + 1 < b ∧ b < w4.heap.size ∧ b ≠ tb := fun b off e => by
    have h1 := hf4 _ _ _ rfl b off e
    have h2 := Hbr3.out.lt
    have h3 := HT3.out.lt
    obtain ⟨u, r, hur⟩ := List.exists_cons_of_ne_nil hne
    have h4 := World.block_lt_of_cell? _ _ (hi4.cell b off e 0 (by rw [List.length_map, hur]; simp))
    have h4 : b < w4.heap.size := h4
    omega
  have hR : ∃ L : RbL, Hid (Rb X w [.int .i64 xn, .int .i64 (st : Int), .slice ea E ec, .slice ga G gc] tb (w4.heap.size + 1) (w4.heap.size + 1 + 1) Tt ((w4.alloc (.cells #[.slice oa out.length oc] 23)).alloc (.cells #[.slice none 0 0, .slice none 0 0] 25)) L) ∧ L = ⟨[⟨out, oa, oc⟩], some ⟨w4.heap.size, 0, none⟩, 1, [], none, 0, [], none, 0, ⟨[], none, 0⟩⟩ := by
    refine ⟨_, Lib.hid ?_, rfl⟩
    have hu1 := up_by (w := w4) (.cells #[.slice oa out.length oc] 23)
    have ho1 := own_lit w4 X 23 (.slice oa out.length oc) (by rw [← hX.out]; exact Hbw4.out.size)
    have s1 : (w4.alloc (.cells #[.slice oa out.length oc] 23)).heap.size = w4.heap.size + 1 := World.size_alloc _ _
    generalize w4.alloc (.cells #[.slice oa out.length oc] 23) = w5 at *
    have hu2 := up_by (w := w5) (.cells #[.slice none 0 0, .slice none 0 0] 25)
    have hd2 := Blk.new w5 25 #[.slice none 0 0, .slice none 0 0]
    have s2 : (w5.alloc (.cells #[.slice none 0 0, .slice none 0 0] 25)).heap.size = w5.heap.size + 1 := World.size_alloc _ _
    generalize w5.alloc (.cells #[.slice none 0 0, .slice none 0 0] 25) = w6 at *
    rw [s1] at hd2 s2
    have hu := hu1.trans (hu2.mono hu1.size)
    have hX4 : X ≤ w4.heap.size := by rw [← hX.out]; exact Hbw4.out.size
    have hall := own_grow ho1 hu2
    exact {
      bel := Hbw4.out.trans (hu.mono hX4)
      xs := by omega
      nf := hbx4.below hu hbx4.lt
      res := Hbr4.out.below hu Hbr4.out.lt
      dbx := by have := Hbr4.out.lt; omega
      trn := HT4.out.below hu HT4.out.lt
      dv := hd2
      all := hall
      mrs := World.ownsRow_nil _ _ _ _
      acc := World.ownsRow_nil _ _ _ _
      row := World.ownsRow_nil _ _ _ _
      lb := by omega
      lbs := by omega
      mvs := fun r hr => by cases hr
      sts := fun r hr => by
        rw [List.mem_singleton] at hr
        subst hr
        refine ⟨hi4.grown hu, fun b off e => ?_⟩
        obtain ⟨h1, h2, h3⟩ := hob b off e
        refine ⟨by omega, fun hw => ?_⟩
        rcases hw with e2 | e2 | e2 | e2 | e2
        · omega
        · have : w4.heap.size = b := by simpa [Value.ownBlock] using e2
          omega
        · cases e2
        · cases e2
        · cases e2 }
  obtain ⟨L0, HR0, hL0⟩ := hR
  have HP0 : Hid (PB x 0 = (L0.rs.map NlD.l, L0.ms.map MvD.l, L0.acs) ∧ (∀ r ∈ L0.rs, SetP x r.l) ∧ L0.ms.length = 0 ∧ L0.acs.length = 0 ∧ L0.rs.length = 1 ∧ (∀ d ∈ L0.ms, ∀ m ∈ d.l, m.lo < 256 ∧ m.hi < 256) ∧ L0.vA = .slice (some ⟨w4.heap.size, 0, none⟩) 1 1) := Lib.hid (by
    rw [hL0]
    refine ⟨by rw [PB, ← hse]; rfl, fun r hr => ?_, rfl, rfl, rfl, fun d hd => (by cases hd), rfl⟩
    rw [List.mem_singleton] at hr
    subst hr
    exact hset)
  have hvA := HP0.out.2.2.2.2.2.2
  unfold RbL.vA at hvA
  clear hL0 hset hse hob hi4 hr4 hm4 hl4 hb4 hf4 hbx3 hbx4 Hbr4 Hbr3 Hbr2 HT4 HT3 HT2 Hbw4 Hbw3 Hbw2 y0 y1 y2 y3 yl hne Hcl0 Hcl
  go_upto_region 8 with fail
  obtain ⟨db, hdb⟩ : ∃ n, Hid (w4.heap.size + 1 = n) := ⟨_, Lib.hid rfl⟩
  have HR1 : Hid (Rb X w [.int .i64 xn, .int .i64 (st : Int), .slice ea E ec, .slice ga G gc] tb db (db + 1) Tt ((w4.alloc (.cells #[.slice oa out.length oc] 23)).alloc (.cells #[.slice none 0 0, .slice none 0 0] 25)) L0) := Lib.hid (by have := HR0.out; rw [hdb.out] at this; exact this)
  rw [hdb.out, ← hvA]
  obtain ⟨W6, hW6⟩ : ∃ W, Hid ((w4.alloc (.cells #[.slice oa out.length oc] 23)).alloc (.cells #[.slice none 0 0, .slice none 0 0] 25) = W) := ⟨_, Lib.hid rfl⟩
  rw [hW6.out] at HR1 ⊢
  clear hvA HR0
  go_loopw [6, 8] (fun av kv wr => ∃ (k Lb : Nat) (L : RbL), kv = .int .i64 (k : Int) ∧ av = .slice L.aA L.rs.length L.cA ∧ Rb X w [.int .i64 xn, .int .i64 (st : Int), .slice ea E ec, .slice ga G gc] tb db Lb Tt wr L ∧ Hid (PB x k = (L.rs.map NlD.l, L.ms.map MvD.l, L.acs) ∧ (∀ r ∈ L.rs, SetP x r.l) ∧ L.ms.length = k ∧ L.acs.length = k ∧ k ≤ L.rs.length ∧ L.rs.length ≤ 2000 ∧ ∀ d ∈ L.ms, ∀ m ∈ d.l, m.lo < 256 ∧ m.hi < 256)) (fun _ kv _ => 2001 - (intOf kv).toNat)
  case atStart => exact ⟨0, _, L0, rfl, rfl, HR1.out, Lib.hid ⟨HP0.out.1, HP0.out.2.1, HP0.out.2.2.1, HP0.out.2.2.2.1, Nat.zero_le _, by have := HP0.out.2.2.2.2.1; omega, HP0.out.2.2.2.2.2.1⟩⟩
  case round =>
    obtain ⟨k, Lb, L, rfl, rfl, hR, HI⟩ := hrel
    clear HR1 HP0
    obtain ⟨rs, aA, cA, ms, mA, mC, acs, kA, kC, dd⟩ := L
    dsimp only at HI ⊢
    obtain ⟨N, hN⟩ : ∃ n, Hid (rs.length = n) := ⟨_, Lib.hid rfl⟩
    have hle := ownW_le hR.all
    have hNle : rs.length ≤ 2000 := HI.out.2.2.2.2.2.1
    have hkle : k ≤ rs.length := HI.out.2.2.2.2.1
    dsimp only at hle
    rw [hN.out] at hle hNle hkle
    by_cases hlt : k < N
    · have hkI : (k : Int) < (N : Int) := by omega
      have hkI0 : (0 : Int) ≤ (k : Int) := by omega
      have hkr : k < rs.length := by rw [hN.out]; exact hlt
      obtain ⟨r0, hr0⟩ : ∃ r, Hid (rs[k] = r) := ⟨_, Lib.hid rfl⟩
      have HR2 := Lib.hid hR.begin
      dsimp only at HR2
      have HS0 : Hid (movA (goA x r0.l) (rs.map NlD.l) 0 = (rs.map NlD.l, [], -1)) := Lib.hid rfl
      clear hR
      obtain ⟨LB, hLB⟩ : ∃ n, Hid (wr.heap.size = n) := ⟨_, Lib.hid rfl⟩
      rw [hLB.out] at HR2
      rw [hN.out]
      go_wp2_with (fail)
      go_loopw [6, 9, 10, 11] (fun av lv tv cv wr2 => ∃ (c : Nat) (rs2 : List NlD) (a2 : Option Addr) (c2 : Nat) (d : MvD) (tq : Int), cv = .int .i64 (c : Int) ∧ tv = .int .i64 tq ∧ lv = .slice d.a d.l.length d.c ∧ av = .slice a2 rs2.length c2 ∧ c ≤ 256 ∧ Rb X w [.int .i64 xn, .int .i64 (st : Int), .slice ea E ec, .slice ga G gc] tb db LB Tt wr2 ⟨rs2, a2, c2, ms, mA, mC, acs, kA, kC, d⟩ ∧ Hid (movA (goA x r0.l) (rs.map NlD.l) c = (rs2.map NlD.l, d.l, tq) ∧ (∃ nw, rs2 = rs ++ nw) ∧ rs2.length ≤ N + c ∧ d.l.length ≤ c ∧ (∀ m ∈ d.l, m.lo < c ∧ m.hi < c) ∧ ∀ r ∈ rs2, SetP x r.l)) (fun _ _ _ cv _ => 256 - (intOf cv).toNat)
      case atStart => exact ⟨0, rs, aA, cA, ⟨[], none, 0⟩, -1, rfl, rfl, rfl, by rw [hN.out], by omega, HR2.out, Lib.hid ⟨HS0.out, ⟨[], by simp⟩, by rw [hN.out]; omega, Nat.le_refl _, fun m hm => (by cases hm), HI.out.2.1⟩⟩
      case round =>
        obtain ⟨c, rs2, a2, c2, d, tq, rfl, rfl, rfl, rfl, hc, hR, HJ⟩ := hrel
        clear HR2 HS0
        obtain ⟨N2, hN2⟩ : ∃ n, Hid (rs2.length = n) := ⟨_, Lib.hid rfl⟩
        have hle2 := ownW_le hR.all
        dsimp only at hle2
        have hN2le : rs2.length ≤ N + c := HJ.out.2.2.1
        have hrle := ownW_le (show wr.ownsRow _ _ _ _ _ _ from hR.row)
        have hdle : d.l.length ≤ c := HJ.out.2.2.2.1
        have hdhi : ∀ m ∈ d.l, m.hi < 256 := fun m hm => by have := (HJ.out.2.2.2.2.1 m hm).2; omega
        rw [hN2.out] at hle2 hN2le
        have hNN : N ≤ N2 := by
          obtain ⟨nw, e⟩ := HJ.out.2.1
          rw [← hN2.out, e, List.length_append, hN.out]
          omega
        by_cases hlc : c < 256
        · have hcI : (c : Int) < 256 := by omega
          have hcI0 : (0 : Int) ≤ (c : Int) := by omega
          have t0 := hR.trn.cell (j := c) (by omega)
          have tl := hR.trn.lt
          dsimp only [bG] at t0
          obtain ⟨D, hD⟩ : ∃ n, Hid (d.l.length = n) := ⟨_, Lib.hid rfl⟩
          obtain ⟨tv, htv⟩ : ∃ v, Hid (Tt c = v) := ⟨_, Lib.hid rfl⟩
          rw [htv.out] at t0
          have HRw := Lib.hid hR
          rw [hN2.out]
          cases tv
          case false =>
            have HST : Hid (movA (goA x r0.l) (rs.map NlD.l) (c + 1) = (rs2.map NlD.l, pushM d.l c tq, tq) ∧ (tq = -1 ∨ 0 ≤ tq)) := Lib.hid (by
              cases c with
              | zero =>
                have := (HTr.out 0 (by omega)).2 (.inl rfl)
                rw [htv.out] at this
                cases this
              | succ c => exact movA_stay HJ.out.1 (go_same HTr.out r0.l (by omega) htv.out))
            clear hR
            rcases HST.out.2 with hm1 | hge
            · have HN1 := HST.out.1
              subst hm1
              rw [push_none] at HN1
              have HN := Lib.hid HN1
              clear HN1
              go_wp2_with (fail)
              exact ⟨⟨c + 1, rs2, a2, c2, d, -1, by simp, rfl, by rfl, by rw [hN2.out], by omega, HRw.out, Lib.hid ⟨HN.out, HJ.out.2.1, by rw [hN2.out]; omega, by omega, fun m hm => by have := HJ.out.2.2.2.2.1 m hm; omega, HJ.out.2.2.2.2.2⟩⟩, by simp [intOf]; omega⟩
            · have HLy := Lib.hid (refLay_any wr LB d c tq HRw.out.row HRw.out.lbs hlc (by omega) (by omega) hdhi)
              go_wp2_with (fail)
              refine HLy.out.mono ?_
              rintro e V4 ⟨d4, rfl, hd4, ho4, hk4, hn4⟩
              have HR4 := Lib.hid (HRw.out.kp hk4 (fun g e => e) ho4 hn4)
              have HN4 : Hid (movA (goA x r0.l) (rs.map NlD.l) (c + 1) = (rs2.map NlD.l, d4.l, tq) ∧ (∃ nw, rs2 = rs ++ nw) ∧ rs2.length ≤ N + (c + 1) ∧ d4.l.length ≤ c + 1 ∧ (∀ m ∈ d4.l, m.lo < c + 1 ∧ m.hi < c + 1) ∧ ∀ r ∈ rs2, SetP x r.l) := Lib.hid (by
                rw [hd4]
                exact ⟨HST.out.1, HJ.out.2.1, by rw [hN2.out]; omega, by have := push_len d.l c tq; omega, push_small HJ.out.2.2.2.2.1, HJ.out.2.2.2.2.2⟩)
              clear hd4 ho4 hk4 hn4 HLy
              dsimp only at HR4
              go_wp2_with (fail)
              exact ⟨⟨c + 1, rs2, a2, c2, d4, tq, by simp, rfl, by rfl, by rw [hN2.out], by omega, HR4.out, HN4⟩, by simp [intOf]; omega⟩
          case true =>
            have hdw : Below wr.heap.size wr wr.drew := (Below.refl _ _).drew
            have HRd := Lib.hid (HRw.out.below hdw)
            have hk2 : k < rs2.length := by rw [hN2.out]; omega
            have hr2 : rs2[k] = r0 := by
              obtain ⟨nw, e⟩ := HJ.out.2.1
              subst e
              rw [List.getElem_append_left hkr]
              exact hr0.out
            have hmem : r0 ∈ rs2 := by rw [← hr2]; exact List.getElem_mem hk2
            have HSr := Lib.hid (HJ.out.2.2.2.2.2 r0 hmem)
            obtain ⟨gA, hgA, _⟩ := own_some HRw.out.all (by dsimp only; omega)
            dsimp only at hgA
            subst hgA
            have hca : wr.drew.cell? ⟨gA, k, none⟩ = some (.slice r0.a r0.l.length r0.c) := by
              have := row_slices HRd.out.all hk2
              rw [hr2] at this
              exact this
            obtain ⟨R0, hR0⟩ : ∃ n, Hid (r0.l.length = n) := ⟨_, Lib.hid rfl⟩
            rw [hR0.out] at hca
            have HSt : Hid (∀ V, Below wr.drew.heap.size wr.drew V → (Below wr.drew.heap.size wr.drew V ∧ V.cell? ⟨X, 0, none⟩ = some (.int .i64 xn) ∧ V.cell? ⟨X, 1, none⟩ = some (.int .i64 (st : Int)) ∧ V.cell? ⟨X, 2, none⟩ = some (.slice ea E ec) ∧ V.cell? ⟨X, 3, none⟩ = some (.slice ga G gc) ∧ V.cell? ⟨gA, k, none⟩ = some (.slice r0.a R0 r0.c))) := Lib.hid (fun V hV => by
              have h' := (HRd.out.below hV).nf
              exact ⟨hV, by simpa using h'.cell 0, by simpa using h'.cell 1, by simpa using h'.cell 2, by simpa using h'.cell 3, cell_up hV hca⟩)
            obtain ⟨Gs, hGs⟩ : ∃ l, Hid (goA x r0.l c = l) := ⟨_, Lib.hid rfl⟩
            have HC1 : Hid (∀ V, Below wr.drew.heap.size wr.drew V → Calls Try.prog 38 #[.agg #[.int .i64 xn, .int .i64 (st : Int), .slice ea E ec, .slice ga G gc], .slice r0.a R0 r0.c, .int .u8 (c : Int)] V fun e V' => ∃ oa oc, e = .returned (.slice oa Gs.length oc) ∧ (IntsN V' oa oc Gs ∧ FrA wr.drew.heap.size oa) ∧ Below wr.drew.heap.size wr.drew V') := Lib.hid (fun V hV => by
              have hin := ((HRd.out.below hV).sts r0 hmem).1
              have := Hst.out V (HXN.out V (HRd.out.below hV).bel) Hl.out.1 r0.l r0.a r0.c c hin HSr.out.1 (fun v hv => by rw [← hNt.out]; exact HSr.out.2.1 v hv) hlc
              rw [hR0.out] at this
              refine this.mono ?_
              rintro e V' ⟨oa, oc, out, rfl, ⟨h1, h2, h3, h4⟩, h5, h6⟩
              have ho := go_is Hl.out.1 HSr.out h2 h3
              rw [hGs.out] at ho
              subst ho
              exact ⟨oa, oc, rfl, ⟨h1, fun b off e => Nat.le_trans hV.size (h6 b off e)⟩, hV.trans (h5.mono hV.size)⟩)
            have hkN2 : k < N2 := by omega
            have hkN2I : (k : Int) < (N2 : Int) := by omega
            have hwr : IntKind.u8.wrap (c : Int) = (c : Int) := wrap_byte hlc
            clear hR hdw hca hr2
            go_wp2_with (fail)
            refine wp_region_held_drew (S := fun w' => (Below wr.drew.heap.size wr.drew w' ∧ w'.cell? ⟨X, 0, none⟩ = some (.int .i64 xn) ∧ w'.cell? ⟨X, 1, none⟩ = some (.int .i64 (st : Int)) ∧ w'.cell? ⟨X, 2, none⟩ = some (.slice ea E ec) ∧ w'.cell? ⟨X, 3, none⟩ = some (.slice ga G gc) ∧ w'.cell? ⟨gA, k, none⟩ = some (.slice r0.a R0 r0.c))) (by kernel_rfl) ?_ (fun hHeld => ?_)
            · exact HSt.out _ (Below.refl _ _)
            refine wpAnyH_take (i := 0) (v := ?_) (gatL gatZ) (by kernel_rfl) (by kernel_rfl) (by kernel_rfl) (fun _ _ _ h => h) (Or.inl ⟨by rfl, ?_⟩) (by assumption) ?_
            rotate_left
            · intro w hSw
              try dsimp only at hSw
              go_simp
              all_goals with_reducible rfl
            try simp only [Act.put, List.setIfInBounds_toArray, List.set_cons_zero, List.set_cons_succ]
            refine wpAnyH_take (i := 1) (v := ?_) (gatL (gatS gatZ)) (by kernel_rfl) (by kernel_rfl) (by kernel_rfl) (fun _ _ _ h => h) (Or.inl ⟨by rfl, ?_⟩) (by assumption) ?_
            rotate_left
            · intro w hSw
              try dsimp only at hSw
              go_simp
              all_goals with_reducible rfl
            try simp only [Act.put, List.setIfInBounds_toArray, List.set_cons_zero, List.set_cons_succ]
            refine wpAnyH_take (i := 2) (v := ?_) (gatL (gatS (gatS gatZ))) (by kernel_rfl) (by kernel_rfl) (by kernel_rfl) (fun _ _ _ h => h) (Or.inl ⟨by rfl, ?_⟩) (by assumption) ?_
            rotate_left
            · intro w hSw
              try dsimp only at hSw
              go_simp
              all_goals with_reducible rfl
            try simp only [Act.put, List.setIfInBounds_toArray, List.set_cons_zero, List.set_cons_succ]
            refine wpAnyH_take (i := 3) (v := ?_) (gatL (gatS (gatS (gatS gatZ)))) (by kernel_rfl) (by kernel_rfl) (by kernel_rfl) (fun _ _ _ h => h) (Or.inl ⟨by rfl, ?_⟩) (by assumption) ?_
            rotate_left
            · intro w hSw
              try dsimp only at hSw
              go_simp
              all_goals with_reducible rfl
            try simp only [Act.put, List.setIfInBounds_toArray, List.set_cons_zero, List.set_cons_succ]
            refine wpAnyH_take (i := 4) (v := ?_) (gatL (gatS (gatS (gatS (gatS gatZ))))) (by kernel_rfl) (by kernel_rfl) (by kernel_rfl) (fun _ _ _ h => h) (Or.inl ⟨by rfl, ?_⟩) (by assumption) ?_
            rotate_left
            · intro w hSw
              try dsimp only at hSw
              go_simp
              all_goals with_reducible rfl
            try simp only [Act.put, List.setIfInBounds_toArray, List.set_cons_zero, List.set_cons_succ]
            refine wpAnyH_take (i := 5) (v := ?_) (gatL (gatS (gatS (gatS (gatS (gatS gatZ)))))) (by kernel_rfl) (by kernel_rfl) (by kernel_rfl) (fun _ _ _ h => h) (Or.inl ⟨by rfl, ?_⟩) (by assumption) ?_
            rotate_left
            · intro w hSw
              try dsimp only at hSw
              go_simp
              all_goals with_reducible rfl
            try simp only [Act.put, List.setIfInBounds_toArray, List.set_cons_zero, List.set_cons_succ]
            refine wpAnyH_take (i := 6) (v := ?_) (gatL (gatS (gatS (gatS (gatS (gatS (gatS gatZ))))))) (by kernel_rfl) (by kernel_rfl) (by kernel_rfl) (fun _ _ _ h => h) (Or.inl ⟨by rfl, ?_⟩) (by assumption) ?_
            rotate_left
            · intro w hSw
              try dsimp only at hSw
              go_simp
              all_goals with_reducible rfl
            try simp only [Act.put, List.setIfInBounds_toArray, List.set_cons_zero, List.set_cons_succ]
            refine wpAnyH_ready (rs := [7]) (by kernel_rfl) (by simp) ?_
            refine AllReadyH.cons (gatL (gatS (gatS (gatS (gatS (gatS (gatS (gatS gatZ)))))))) (fun K hK => ?_) AllReadyH.nil
            go_simp
            try simp only [hwr]
            go_at_call 38
            (with_reducible refine (HC1.out _ hHeld.1).mono ?_)
            rintro e V1 ⟨oa, oc, rfl, ⟨hi1, hf1⟩, hV1⟩
            have HV1 := Lib.hid hV1
            clear hV1
            dsimp only
            refine hK.out _ _ ?_ (fun hHeld => ?_)
            · exact HSt.out _ HV1.out
            clear hK K
            try simp only [Act.put, List.setIfInBounds_toArray, List.set_cons_zero, List.set_cons_succ]
            refine wpAnyH_take (i := 8) (v := ?_) (gatL (gatS (gatS (gatS (gatS (gatS (gatS (gatS (gatS gatZ))))))))) (by kernel_rfl) (by kernel_rfl) (by kernel_rfl) (fun _ _ _ h => h) (Or.inl ⟨by rfl, ?_⟩) (by assumption) ?_
            rotate_left
            · intro w hSw
              try dsimp only at hSw
              go_simp
              all_goals with_reducible rfl
            try simp only [Act.put, List.setIfInBounds_toArray, List.set_cons_zero, List.set_cons_succ]
            refine wpAnyH_done (by kernel_rfl) ?_ _
            have HR1 := Lib.hid (HRd.out.below HV1.out)
            by_cases hG0 : Gs = []
            · subst hG0
              have HN := Lib.hid (movA_nil HJ.out.1 hGs.out)
              simp only [List.length_nil]
              clear hi1 hf1
              go_wp2_with (fail)
              exact ⟨⟨c + 1, rs2, some ⟨gA, 0, none⟩, c2, d, -1, by simp, rfl, by rfl, by rw [hN2.out], by omega, HR1.out, Lib.hid ⟨HN.out, HJ.out.2.1, by rw [hN2.out]; omega, by omega, fun m hm => by have := HJ.out.2.2.2.2.1 m hm; omega, HJ.out.2.2.2.2.2⟩⟩, by simp [intOf]; omega⟩
            · have hGe : goA x r0.l c ≠ [] := by rw [hGs.out]; exact hG0
              have HGe := Lib.hid hGe
              have hGl : 0 < Gs.length := List.length_pos_iff.2 hG0
              have hob : ∀ b off, oa = some ⟨b, off, none⟩ → wr.drew.heap.size ≤ b ∧ b < V1.heap.size := fun b off e => by
                have h4 := World.block_lt_of_cell? _ _ (hi1.cell b off e 0 (by rw [List.length_map]; exact hGl))
                exact ⟨hf1 b off e, h4⟩
              have Hob := Lib.hid hob
              have Hi1 := Lib.hid hi1
              have hgc : Gs.length ≤ oc ∧ oc ≤ 9223372036854775807 := ⟨by have := hi1.le; rw [List.length_map] at this; exact this, hi1.max⟩
              have Hfd := Lib.hid (refFind_any rs2 (some ⟨gA, 0, none⟩) c2 Gs oa oc V1 HR1.out.sts_ hi1)
              obtain ⟨GL, hGL⟩ : ∃ n, Hid (Gs.length = n) := ⟨_, Lib.hid rfl⟩
              obtain ⟨fd, hfd⟩ : ∃ n, Hid (fdR Gs (rs2.map NlD.l) 0 = n) := ⟨_, Lib.hid rfl⟩
              rw [hN2.out, hGL.out, hfd.out] at Hfd
              rw [hGL.out] at hgc hGl
              have hGlI : (0 : Int) < (GL : Int) := by omega
              rw [hGL.out]
              clear hob hi1 hf1 hGe hG0
              go_wp2_with (fail)
              refine Hfd.out.mono ?_
              rintro e V2 ⟨rfl, hb2⟩
              have HR2 := Lib.hid (HR1.out.below hb2)
              have Hi2 := Lib.hid (Hi1.out.grown hb2)
              have HV2 : Hid (V1.heap.size ≤ V2.heap.size) := Lib.hid hb2.size
              clear hb2 Hfd
              rcases fdR_lo Gs (rs2.map NlD.l) with hfe | ⟨i, hfi, hil⟩
              · have hfe2 : fd = -1 := by rw [← hfd.out]; exact hfe
                subst hfe2
                have HN := Lib.hid (movA_new HJ.out.1 HGe.out (by rw [hGs.out]; omega))
                rw [hGs.out, List.length_map, hN2.out] at HN
                obtain ⟨g3, c3, V3, hrun3, hR3, hs3⟩ := HR2.out.pushAll 83 ⟨Gs, oa, oc⟩ Hi2.out (fun b off e => by
                  obtain ⟨h1, h2⟩ := Hob.out b off e
                  refine ⟨Nat.lt_of_lt_of_le h2 HV2.out, fun hw => ?_⟩
                  have := HRd.out.W_lt hw
                  omega) (by dsimp only; rw [hN2.out]; omega)
                dsimp only at hrun3 hR3
                rw [hN2.out, hGL.out] at hrun3
                have Hr3 := Lib.hid hrun3
                have HRw3 := Lib.hid hR3
                clear hrun3 hs3 hR3
                have HLy := Lib.hid (refLay_any V3 LB d c (N2 : Int) HRw3.out.row HRw3.out.lbs hlc (by omega) (by omega) hdhi)
                go_wp2_with (at_builtin; refine wpList_append_run rfl _ _ 83 83 rfl _ _ _ _ rfl rfl Hr3.out ?_)
                refine HLy.out.mono ?_
                rintro e V4 ⟨d4, rfl, hd4, ho4, hk4, hn4⟩
                have HR4 := Lib.hid (HRw3.out.kp hk4 (fun g e => e) ho4 hn4)
                have HN4 : Hid (movA (goA x r0.l) (rs.map NlD.l) (c + 1) = ((rs2 ++ [(⟨Gs, oa, oc⟩ : NlD)]).map NlD.l, d4.l, (N2 : Int)) ∧ (∃ nw, (rs2 ++ [(⟨Gs, oa, oc⟩ : NlD)]) = rs ++ nw) ∧ (rs2 ++ [(⟨Gs, oa, oc⟩ : NlD)]).length ≤ N + (c + 1) ∧ d4.l.length ≤ c + 1 ∧ (∀ m ∈ d4.l, m.lo < c + 1 ∧ m.hi < c + 1) ∧ ∀ r ∈ (rs2 ++ [(⟨Gs, oa, oc⟩ : NlD)]), SetP x r.l) := Lib.hid (by
                  rw [hd4, List.map_append]
                  exact ⟨HN.out, by obtain ⟨nw, e⟩ := HJ.out.2.1; exact ⟨nw ++ [⟨Gs, oa, oc⟩], by rw [e, List.append_assoc]⟩, by rw [List.length_append, hN2.out]; simp only [List.length_cons, List.length_nil]; omega, by have := push_len d.l c (N2 : Int); omega, push_small HJ.out.2.2.2.2.1, fun r hr => by rcases List.mem_append.1 hr with h | h; exact HJ.out.2.2.2.2.2 r h; rw [List.mem_singleton] at h; subst h; rw [← hGs.out]; exact setP_go Hl.out.1 _ _⟩)
                clear hd4 ho4 hk4 hn4 HLy
                dsimp only at HR4
                go_wp2_with (fail)
                exact ⟨⟨c + 1, (rs2 ++ [(⟨Gs, oa, oc⟩ : NlD)]), some ⟨g3, 0, none⟩, c3, d4, (N2 : Int), by simp, rfl, by rfl, by rw [List.length_append, hN2.out, List.length_singleton], by omega, HR4.out, HN4⟩, by simp [intOf]; omega⟩
              · have hfe2 : fd = (i : Int) := by rw [← hfd.out]; exact hfi
                subst hfe2
                have hiI0 : (0 : Int) ≤ (i : Int) := by omega
                have HN := Lib.hid (movA_old HJ.out.1 HGe.out (i := i) (by rw [hGs.out]; exact hfi))
                have HLy := Lib.hid (refLay_any V2 LB d c (i : Int) HR2.out.row HR2.out.lbs hlc (by omega) (by omega) hdhi)
                go_wp2_with (fail)
                refine HLy.out.mono ?_
                rintro e V4 ⟨d4, rfl, hd4, ho4, hk4, hn4⟩
                have HR4 := Lib.hid (HR2.out.kp hk4 (fun g e => e) ho4 hn4)
                have HN4 : Hid (movA (goA x r0.l) (rs.map NlD.l) (c + 1) = (rs2.map NlD.l, d4.l, (i : Int)) ∧ (∃ nw, rs2 = rs ++ nw) ∧ rs2.length ≤ N + (c + 1) ∧ d4.l.length ≤ c + 1 ∧ (∀ m ∈ d4.l, m.lo < c + 1 ∧ m.hi < c + 1) ∧ ∀ r ∈ rs2, SetP x r.l) := Lib.hid (by
                  rw [hd4]
                  exact ⟨HN.out, HJ.out.2.1, by rw [hN2.out]; omega, by have := push_len d.l c (i : Int); omega, push_small HJ.out.2.2.2.2.1, HJ.out.2.2.2.2.2⟩)
                clear hd4 ho4 hk4 hn4 HLy
                dsimp only at HR4
                go_wp2_with (fail)
                exact ⟨⟨c + 1, rs2, some ⟨gA, 0, none⟩, c2, d4, (i : Int), by simp, rfl, by rfl, by rw [hN2.out], by omega, HR4.out, HN4⟩, by simp [intOf]; omega⟩
        · obtain rfl : c = 256 := by omega
          have hcI : ¬ ((256 : Nat) : Int) < 256 := by omega
          have hk2 : k < rs2.length := by rw [hN2.out]; omega
          have hr2 : rs2[k] = r0 := by
            obtain ⟨nw, e⟩ := HJ.out.2.1
            subst e
            rw [List.getElem_append_left hkr]
            exact hr0.out
          have hmem : r0 ∈ rs2 := by rw [← hr2]; exact List.getElem_mem hk2
          have HPB : Hid (PB x (k + 1) = (rs2.map NlD.l, ms.map MvD.l ++ [d.l], acs ++ [accA r0.l x.ends 0])) := Lib.hid (by
            rw [PB, HI.out.1]
            exact stpA_some (by rw [List.getElem?_map, List.getElem?_eq_getElem hkr, hr0.out]; rfl) (by rw [HJ.out.1]) (by rw [HJ.out.1]))
          have hmsl : ms.length = k := HI.out.2.2.1
          have hacl : acs.length = k := HI.out.2.2.2.1
          have HRw := Lib.hid hR
          rw [hN2.out]
          by_cases hbig : 2000 < N2
          · have hbigI : (2000 : Int) < (N2 : Int) := by omega
            have r0_ := hR.res.cell 0
            have r1_ := hR.res.cell 1
            have rf := hR.res.frozen
            have rl := hR.res.lt
            have rs0 := nil_dfa hR.res
            have rg := grownBy_trans (grownBy_set wr (X + 1) 0 (.slice none 0 0)) (grownBy_set _ (X + 1) 1 (.slice none 0 0)) (fun i e => .inl e)
            have HBl : Hid (Below w.heap.size w ((wr.setCell ⟨X + 1, 0, none⟩ (.slice none 0 0)).setCell ⟨X + 1, 1, none⟩ (.slice none 0 0))) := Lib.hid (by
              rw [hX.out]
              exact hR.bel.grown rg hR.xs (fun g e => by injection e with e; omega))
            have q0 := rs0.cell 0
            have q1 := rs0.cell 1
            simp only [List.getElem?_cons_zero, List.getElem?_cons_succ] at r0_ r1_ q0 q1
            have HF : Hid (PostB w ((wr.setCell ⟨X + 1, 0, none⟩ (.slice none 0 0)).setCell ⟨X + 1, 1, none⟩ (.slice none 0 0)) x (.returned (.tuple #[.agg #[.slice none 0 0, .slice none 0 0], .int .i64 40]))) := Lib.hid ⟨HBl.out, .inr (.inl ⟨hq.out, ⟨k + 1, by rw [HPB.out, List.length_map, hN2.out]; exact hbig⟩, rfl⟩)⟩
            clear rg rs0 hR
            go_wp2_with (fail)
            exact bodyPost_ret (v := .tuple #[.agg #[.slice none 0 0, .slice none 0 0], .int .i64 40]) (by simp [results, Try.results16, go_sem, q0, q1]; try first | rfl | assumption | omega) rfl HF.out
          · have hbigI : ¬ (2000 : Int) < (N2 : Int) := by omega
            obtain ⟨gA, hgA, _⟩ := own_some hR.all (by dsimp only; omega)
            dsimp only at hgA
            subst hgA
            obtain ⟨g3, c3, V3, hrun3, hdv3, hs3, hR3⟩ := hR.pushMs 22 (by dsimp only; omega)
            dsimp only at hrun3 hR3
            obtain ⟨MN, hMN⟩ : ∃ n, Hid (ms.length = n) := ⟨_, Lib.hid rfl⟩
            obtain ⟨AN, hAN⟩ : ∃ n, Hid (acs.length = n) := ⟨_, Lib.hid rfl⟩
            obtain ⟨DN, hDN⟩ : ∃ n, Hid (d.l.length = n) := ⟨_, Lib.hid rfl⟩
            have b0 := hR.dv.cell 0
            have bl := hR.dv.lt
            have e0 := hdv3.cell 0
            have ef := hdv3.frozen 0
            have el := hdv3.lt
            have hml := ownW_le hR.mrs
            have hal := ownW_le hR.acc
            unfold RbL.vM RbL.vK at b0 e0
            dsimp only at hml hal b0 e0
            simp only [List.getElem?_cons_zero, List.getElem?_cons_succ] at b0 e0
            rw [hMN.out] at hrun3 hR3 b0 e0 hml hmsl
            rw [hAN.out] at hal hacl
            rw [hDN.out] at hrun3 ⊢
            have Hr3 := Lib.hid hrun3
            obtain ⟨W4, hW4⟩ : ∃ W, Hid (V3.setCell ⟨db, 0, none⟩ (.slice (some ⟨g3, 0, none⟩) (MN + 1) c3) = W) := ⟨_, Lib.hid rfl⟩
            rw [hW4.out] at hR3
            have hW4' := hW4.out
            have HR4 := Lib.hid hR3
            have hdw : Below W4.heap.size W4 W4.drew := (Below.refl _ _).drew
            have HRd := Lib.hid (hR3.below hdw)
            obtain ⟨R0, hR0⟩ : ∃ n, Hid (r0.l.length = n) := ⟨_, Lib.hid rfl⟩
            obtain ⟨Av, hAv⟩ : ∃ n, Hid (accA r0.l x.ends 0 = n) := ⟨_, Lib.hid rfl⟩
            have HxV : ∀ V, Below W4.drew.heap.size W4.drew V → Hid (V.cell? ⟨X, 0, none⟩ = some (.int .i64 xn) ∧ V.cell? ⟨X, 1, none⟩ = some (.int .i64 (st : Int)) ∧ V.cell? ⟨X, 2, none⟩ = some (.slice ea E ec) ∧ V.cell? ⟨X, 3, none⟩ = some (.slice ga G gc) ∧ V.cell? ⟨gA, k, none⟩ = some (.slice r0.a R0 r0.c)) := fun V hV => Lib.hid (by
              have hRV := HRd.out.below hV
              have h' := hRV.nf
              have h2 := row_slices hRV.all hk2
              rw [hr2, hR0.out] at h2
              exact ⟨by simpa using h'.cell 0, by simpa using h'.cell 1, by simpa using h'.cell 2, by simpa using h'.cell 3, h2⟩)
            have HxA : ∀ V o, Below W4.drew.heap.size W4.drew V → Hid ((V.alloc o).cell? ⟨X, 0, none⟩ = some (.int .i64 xn) ∧ (V.alloc o).cell? ⟨X, 1, none⟩ = some (.int .i64 (st : Int)) ∧ (V.alloc o).cell? ⟨X, 2, none⟩ = some (.slice ea E ec) ∧ (V.alloc o).cell? ⟨X, 3, none⟩ = some (.slice ga G gc) ∧ (V.alloc o).cell? ⟨gA, k, none⟩ = some (.slice r0.a R0 r0.c)) := fun V o hV => HxV (V.alloc o) (hV.trans ((up_by o).mono hV.size))
            have Hd1 : ∀ V, Below W4.drew.heap.size W4.drew V → V.cell? ⟨db, 1, none⟩ = some (.slice kA AN kC) := fun V hV => by
              have h1 := (HRd.out.below hV).dv.cell 1
              unfold RbL.vM RbL.vK at h1
              dsimp only at h1
              rw [hAN.out] at h1
              exact h1
            have Hdl : ∀ V, Below W4.drew.heap.size W4.drew V → db < V.heap.size := fun V hV => (HRd.out.below hV).dv.lt
            have HC1 : Hid (∀ V, Below W4.drew.heap.size W4.drew V → Calls Try.prog 41 #[.agg #[.int .i64 xn, .int .i64 (st : Int), .slice ea E ec, .slice ga G gc], .slice r0.a R0 r0.c] V fun e V' => e = .returned (.int .i64 Av) ∧ Below W4.drew.heap.size W4.drew V') := Lib.hid (fun V hV => by
              have hin := ((HRd.out.below hV).sts r0 hmem).1
              have := Hac.out V (HXN.out V (HRd.out.below hV).bel) r0.l r0.a r0.c hin (fun e he => (link_ends3 Hl.out.1 e he).1)
              rw [hR0.out, hAv.out] at this
              exact this.mono (fun e V' ⟨h1, h2⟩ => ⟨h1, hV.trans (h2.mono hV.size)⟩))
            have HAf : Hid (∀ V, Below W4.drew.heap.size W4.drew V → ∃ g c' V', (Builtin.append_ #[23, 23] 23 #[.slice kA AN kC, .slice (some ⟨V.heap.size, 0, none⟩) 1 1]).run Try.prog (V.alloc (.cells #[.int .i64 Av] 3)) = .ok (.slice (some ⟨g, 0, none⟩) (AN + 1) c') V' ∧ ((V'.cell? ⟨X, 0, none⟩ = some (.int .i64 xn) ∧ V'.cell? ⟨X, 1, none⟩ = some (.int .i64 (st : Int)) ∧ V'.cell? ⟨X, 2, none⟩ = some (.slice ea E ec) ∧ V'.cell? ⟨X, 3, none⟩ = some (.slice ga G gc) ∧ V'.cell? ⟨gA, k, none⟩ = some (.slice r0.a R0 r0.c)) ∧ V'.cell? ⟨db, 1, none⟩ = some (.slice kA AN kC) ∧ V'.frozen? ⟨db, 1, none⟩ = false ∧ db < V'.heap.size) ∧
                Rb X w [.int .i64 xn, .int .i64 (st : Int), .slice ea E ec, .slice ga G gc] tb db W4.heap.size Tt (V'.setCell ⟨db, 1, none⟩ (.slice (some ⟨g, 0, none⟩) (AN + 1) c')) ⟨rs2, some ⟨gA, 0, none⟩, c2, ms ++ [d], some ⟨g3, 0, none⟩, c3, acs ++ [Av], some ⟨g, 0, none⟩, c', ⟨[], none, 0⟩⟩) := Lib.hid (fun V hV => by
              obtain ⟨g, c', V', h1, h2, ⟨h3, h3b⟩, _, h4⟩ := (HRd.out.below hV).pushAc 23 Av (by dsimp only; rw [hAN.out]; omega)
              dsimp only at h1 h3b h4
              rw [hAN.out] at h1 h4
              have h5 := row_slices h3b hk2
              rw [hr2, hR0.out] at h5
              have h6 := h2.cell 1
              unfold RbL.vM RbL.vK at h6
              dsimp only at h6
              rw [hAN.out] at h6
              exact ⟨g, c', V', h1, ⟨⟨by simpa using h3.cell 0, by simpa using h3.cell 1, by simpa using h3.cell 2, by simpa using h3.cell 3, h5⟩, h6, h2.frozen 1, h2.lt⟩, h4⟩)
            have HxS : ∀ (W : World) (Lb : Nat) (L : RbL), Rb X w [.int .i64 xn, .int .i64 (st : Int), .slice ea E ec, .slice ga G gc] tb db Lb Tt W L → L.rs = rs2 → L.aA = some ⟨gA, 0, none⟩ → Hid (W.cell? ⟨X, 0, none⟩ = some (.int .i64 xn) ∧ W.cell? ⟨X, 1, none⟩ = some (.int .i64 (st : Int)) ∧ W.cell? ⟨X, 2, none⟩ = some (.slice ea E ec) ∧ W.cell? ⟨X, 3, none⟩ = some (.slice ga G gc) ∧ W.cell? ⟨gA, k, none⟩ = some (.slice r0.a R0 r0.c)) := fun W Lb L hRW e1 e2 => Lib.hid (by
              have h' := hRW.nf
              have hall := hRW.all
              rw [e1, e2] at hall
              have h2 := row_slices hall hk2
              rw [hr2, hR0.out] at h2
              exact ⟨by simpa using h'.cell 0, by simpa using h'.cell 1, by simpa using h'.cell 2, by simpa using h'.cell 3, h2⟩)
            have HIn : Hid (PB x (k + 1) = (rs2.map NlD.l, (ms ++ [d]).map MvD.l, acs ++ [Av]) ∧ (∀ r ∈ rs2, SetP x r.l) ∧ (ms ++ [d]).length = k + 1 ∧ (acs ++ [Av]).length = k + 1 ∧ k + 1 ≤ rs2.length ∧ rs2.length ≤ 2000 ∧ ∀ d' ∈ ms ++ [d], ∀ m ∈ d'.l, m.lo < 256 ∧ m.hi < 256) := Lib.hid ⟨by rw [HPB.out, hAv.out, List.map_append]; rfl, HJ.out.2.2.2.2.2, by rw [List.length_append, hMN.out, hmsl]; rfl, by rw [List.length_append, hAN.out, hacl]; rfl, by omega, by rw [hN2.out]; omega, fun d' hd' m hm => by
              rcases List.mem_append.1 hd' with h | h
              · exact HI.out.2.2.2.2.2.2 d' h m hm
              · rw [List.mem_singleton] at h
                subst h
                exact HJ.out.2.2.2.2.1 m hm⟩
            have hkN2 : k < N2 := by omega
            have hkN2I : (k : Int) < (N2 : Int) := by omega
            have d1w := Hd1 W4.drew (Below.refl _ _)
            have d1l := Hdl W4.drew (Below.refl _ _)
            clear hrun3 hR3 hdw hR hdv3 hs3 hr2 hmsl hacl
            go_wp2_with (at_builtin; refine wpList_append_run rfl _ _ 22 22 rfl _ _ _ _ rfl rfl Hr3.out ?_)
            refine wp_region_held_drew (S := fun w' => (w'.cell? ⟨X, 0, none⟩ = some (.int .i64 xn) ∧ w'.cell? ⟨X, 1, none⟩ = some (.int .i64 (st : Int)) ∧ w'.cell? ⟨X, 2, none⟩ = some (.slice ea E ec) ∧ w'.cell? ⟨X, 3, none⟩ = some (.slice ga G gc) ∧ w'.cell? ⟨gA, k, none⟩ = some (.slice r0.a R0 r0.c))) (by kernel_rfl) ?_ (fun hHeld => ?_)
            · exact (HxV _ (Below.refl _ _)).out
            refine wpAnyH_take (i := 0) (v := ?_) (gatL gatZ) (by kernel_rfl) (by kernel_rfl) (by kernel_rfl) (fun _ _ _ h => h) (Or.inl ⟨by rfl, ?_⟩) (by assumption) ?_
            rotate_left
            · intro w hSw
              try dsimp only at hSw
              go_simp
              all_goals with_reducible rfl
            try simp only [Act.put, List.setIfInBounds_toArray, List.set_cons_zero, List.set_cons_succ]
            refine wpAnyH_take (i := 2) (v := ?_) (gatL (gatS (gatS gatZ))) (by kernel_rfl) (by kernel_rfl) (by kernel_rfl) (fun _ _ _ h => h) (Or.inl ⟨by rfl, ?_⟩) (by assumption) ?_
            rotate_left
            · intro w hSw
              try dsimp only at hSw
              go_simp
              all_goals with_reducible rfl
            try simp only [Act.put, List.setIfInBounds_toArray, List.set_cons_zero, List.set_cons_succ]
            refine wpAnyH_take (i := 3) (v := ?_) (gatL (gatS (gatS (gatS gatZ)))) (by kernel_rfl) (by kernel_rfl) (by kernel_rfl) (fun _ _ _ h => h) (Or.inl ⟨by rfl, ?_⟩) (by assumption) ?_
            rotate_left
            · intro w hSw
              try dsimp only at hSw
              go_simp
              all_goals with_reducible rfl
            try simp only [Act.put, List.setIfInBounds_toArray, List.set_cons_zero, List.set_cons_succ]
            refine wpAnyH_take (i := 4) (v := ?_) (gatL (gatS (gatS (gatS (gatS gatZ))))) (by kernel_rfl) (by kernel_rfl) (by kernel_rfl) (fun _ _ _ h => h) (Or.inl ⟨by rfl, ?_⟩) (by assumption) ?_
            rotate_left
            · intro w hSw
              try dsimp only at hSw
              go_simp
              all_goals with_reducible rfl
            try simp only [Act.put, List.setIfInBounds_toArray, List.set_cons_zero, List.set_cons_succ]
            refine wpAnyH_take (i := 5) (v := ?_) (gatL (gatS (gatS (gatS (gatS (gatS gatZ)))))) (by kernel_rfl) (by kernel_rfl) (by kernel_rfl) (fun _ _ _ h => h) (Or.inl ⟨by rfl, ?_⟩) (by assumption) ?_
            rotate_left
            · intro w hSw
              try dsimp only at hSw
              go_simp
              all_goals with_reducible rfl
            try simp only [Act.put, List.setIfInBounds_toArray, List.set_cons_zero, List.set_cons_succ]
            refine wpAnyH_take (i := 6) (v := ?_) (gatL (gatS (gatS (gatS (gatS (gatS (gatS gatZ))))))) (by kernel_rfl) (by kernel_rfl) (by kernel_rfl) (fun _ _ _ h => h) (Or.inl ⟨by rfl, ?_⟩) (by assumption) ?_
            rotate_left
            · intro w hSw
              try dsimp only at hSw
              go_simp
              all_goals with_reducible rfl
            try simp only [Act.put, List.setIfInBounds_toArray, List.set_cons_zero, List.set_cons_succ]
            refine wpAnyH_ready (rs := [1, 7]) (by kernel_rfl) (by simp) ?_
            refine AllReadyH.cons (gatL (gatS gatZ)) (fun K hK => ?_) (AllReadyH.cons (gatL (gatS (gatS (gatS (gatS (gatS (gatS (gatS gatZ)))))))) (fun K hK => ?_) (AllReadyH.nil))
            ·
              go_simp
              refine hK.out _ _ ?_ (fun hHeld => ?_)
              · exact (HxV _ (Below.refl _ _)).out
              clear hK K
              try simp only [Act.put, List.setIfInBounds_toArray, List.set_cons_zero, List.set_cons_succ]
              refine wpAnyH_ready (rs := [7]) (by kernel_rfl) (by simp) ?_
              refine AllReadyH.cons (gatL (gatS (gatS (gatS (gatS (gatS (gatS (gatS gatZ)))))))) (fun K hK => ?_) AllReadyH.nil
              go_simp
              go_at_call 41
              (with_reducible refine (HC1.out _ (Below.refl _ _)).mono ?_)
              rintro e V5 ⟨rfl, hV5⟩
              have HV5 := Lib.hid hV5
              clear hV5
              have d1v := Hd1 V5 HV5.out
              have d1x := Hdl V5 HV5.out
              have d1a := fun o => Hd1 (V5.alloc o) (HV5.out.trans ((up_by o).mono HV5.out.size))
              have d1y := fun o => Hdl (V5.alloc o) (HV5.out.trans ((up_by o).mono HV5.out.size))
              dsimp only
              refine hK.out _ _ ?_ (fun hHeld => ?_)
              · exact (HxV _ HV5.out).out
              clear hK K
              try simp only [Act.put, List.setIfInBounds_toArray, List.set_cons_zero, List.set_cons_succ]
              refine wpAnyH_ready (rs := [8]) (by kernel_rfl) (by simp) ?_
              refine AllReadyH.cons (gatL (gatS (gatS (gatS (gatS (gatS (gatS (gatS (gatS gatZ))))))))) (fun K hK => ?_) AllReadyH.nil
              go_simp
              refine hK.out _ _ ?_ (fun hHeld => ?_)
              · exact (HxA _ _ HV5.out).out
              clear hK K
              try simp only [Act.put, List.setIfInBounds_toArray, List.set_cons_zero, List.set_cons_succ]
              refine wpAnyH_ready (rs := [9]) (by kernel_rfl) (by simp) ?_
              refine AllReadyH.cons (gatL (gatS (gatS (gatS (gatS (gatS (gatS (gatS (gatS (gatS gatZ)))))))))) (fun K hK => ?_) AllReadyH.nil
              obtain ⟨gK, cK, V6, hrK, ⟨hSK, hdK, hfK, hlK⟩, hRK⟩ := HAf.out V5 HV5.out
              have HRK := Lib.hid hRK
              have HSK := Lib.hid hSK
              clear hRK hSK
              refine step_append_run rfl _ _ 23 23 rfl _ _ _ _ rfl rfl hrK ?_
              refine hK.out _ _ ?_ (fun hHeld => ?_)
              · exact HSK.out
              clear hK K
              try simp only [Act.put, List.setIfInBounds_toArray, List.set_cons_zero, List.set_cons_succ]
              refine wpAnyH_take (i := 10) (v := ?_) (gatL (gatS (gatS (gatS (gatS (gatS (gatS (gatS (gatS (gatS (gatS gatZ))))))))))) (by kernel_rfl) (by kernel_rfl) (by kernel_rfl) (fun _ _ _ h => h) (Or.inl ⟨by rfl, ?_⟩) (by assumption) ?_
              rotate_left
              · intro w hSw
                try dsimp only at hSw
                go_simp
                all_goals with_reducible rfl
              try simp only [Act.put, List.setIfInBounds_toArray, List.set_cons_zero, List.set_cons_succ]
              refine wpAnyH_ready (rs := [11]) (by kernel_rfl) (by simp) ?_
              refine AllReadyH.cons (gatL (gatS (gatS (gatS (gatS (gatS (gatS (gatS (gatS (gatS (gatS (gatS gatZ)))))))))))) (fun K hK => ?_) AllReadyH.nil
              go_simp
              refine hK.out _ _ ?_ (fun hHeld => ?_)
              · exact (HxS _ _ _ HRK.out rfl rfl).out
              clear hK K
              try simp only [Act.put, List.setIfInBounds_toArray, List.set_cons_zero, List.set_cons_succ]
              refine wpAnyH_done (by kernel_rfl) ?_ _
              go_wp2_with (fail)
              exact ⟨⟨k + 1, _, ⟨rs2, some ⟨gA, 0, none⟩, c2, ms ++ [d], some ⟨g3, 0, none⟩, c3, acs ++ [Av], some ⟨gK, 0, none⟩, cK, ⟨[], none, 0⟩⟩, by simp, by dsimp only; rw [hN2.out], HRK.out, HIn⟩, by simp [intOf]; omega⟩
            ·
              go_simp
              go_at_call 41
              (with_reducible refine (HC1.out _ (Below.refl _ _)).mono ?_)
              rintro e V5 ⟨rfl, hV5⟩
              have HV5 := Lib.hid hV5
              clear hV5
              have d1v := Hd1 V5 HV5.out
              have d1x := Hdl V5 HV5.out
              have d1a := fun o => Hd1 (V5.alloc o) (HV5.out.trans ((up_by o).mono HV5.out.size))
              have d1y := fun o => Hdl (V5.alloc o) (HV5.out.trans ((up_by o).mono HV5.out.size))
              dsimp only
              refine hK.out _ _ ?_ (fun hHeld => ?_)
              · exact (HxV _ HV5.out).out
              clear hK K
              try simp only [Act.put, List.setIfInBounds_toArray, List.set_cons_zero, List.set_cons_succ]
              refine wpAnyH_ready (rs := [1, 8]) (by kernel_rfl) (by simp) ?_
              refine AllReadyH.cons (gatL (gatS gatZ)) (fun K hK => ?_) (AllReadyH.cons (gatL (gatS (gatS (gatS (gatS (gatS (gatS (gatS (gatS gatZ))))))))) (fun K hK => ?_) (AllReadyH.nil))
              ·
                go_simp
                refine hK.out _ _ ?_ (fun hHeld => ?_)
                · exact (HxV _ HV5.out).out
                clear hK K
                try simp only [Act.put, List.setIfInBounds_toArray, List.set_cons_zero, List.set_cons_succ]
                refine wpAnyH_ready (rs := [8]) (by kernel_rfl) (by simp) ?_
                refine AllReadyH.cons (gatL (gatS (gatS (gatS (gatS (gatS (gatS (gatS (gatS gatZ))))))))) (fun K hK => ?_) AllReadyH.nil
                go_simp
                refine hK.out _ _ ?_ (fun hHeld => ?_)
                · exact (HxA _ _ HV5.out).out
                clear hK K
                try simp only [Act.put, List.setIfInBounds_toArray, List.set_cons_zero, List.set_cons_succ]
                refine wpAnyH_ready (rs := [9]) (by kernel_rfl) (by simp) ?_
                refine AllReadyH.cons (gatL (gatS (gatS (gatS (gatS (gatS (gatS (gatS (gatS (gatS gatZ)))))))))) (fun K hK => ?_) AllReadyH.nil
                obtain ⟨gK, cK, V6, hrK, ⟨hSK, hdK, hfK, hlK⟩, hRK⟩ := HAf.out V5 HV5.out
                have HRK := Lib.hid hRK
                have HSK := Lib.hid hSK
                clear hRK hSK
                refine step_append_run rfl _ _ 23 23 rfl _ _ _ _ rfl rfl hrK ?_
                refine hK.out _ _ ?_ (fun hHeld => ?_)
                · exact HSK.out
                clear hK K
                try simp only [Act.put, List.setIfInBounds_toArray, List.set_cons_zero, List.set_cons_succ]
                refine wpAnyH_take (i := 10) (v := ?_) (gatL (gatS (gatS (gatS (gatS (gatS (gatS (gatS (gatS (gatS (gatS gatZ))))))))))) (by kernel_rfl) (by kernel_rfl) (by kernel_rfl) (fun _ _ _ h => h) (Or.inl ⟨by rfl, ?_⟩) (by assumption) ?_
                rotate_left
                · intro w hSw
                  try dsimp only at hSw
                  go_simp
                  all_goals with_reducible rfl
                try simp only [Act.put, List.setIfInBounds_toArray, List.set_cons_zero, List.set_cons_succ]
                refine wpAnyH_ready (rs := [11]) (by kernel_rfl) (by simp) ?_
                refine AllReadyH.cons (gatL (gatS (gatS (gatS (gatS (gatS (gatS (gatS (gatS (gatS (gatS (gatS gatZ)))))))))))) (fun K hK => ?_) AllReadyH.nil
                go_simp
                refine hK.out _ _ ?_ (fun hHeld => ?_)
                · exact (HxS _ _ _ HRK.out rfl rfl).out
                clear hK K
                try simp only [Act.put, List.setIfInBounds_toArray, List.set_cons_zero, List.set_cons_succ]
                refine wpAnyH_done (by kernel_rfl) ?_ _
                go_wp2_with (fail)
                exact ⟨⟨k + 1, _, ⟨rs2, some ⟨gA, 0, none⟩, c2, ms ++ [d], some ⟨g3, 0, none⟩, c3, acs ++ [Av], some ⟨gK, 0, none⟩, cK, ⟨[], none, 0⟩⟩, by simp, by dsimp only; rw [hN2.out], HRK.out, HIn⟩, by simp [intOf]; omega⟩
              ·
                go_simp
                refine hK.out _ _ ?_ (fun hHeld => ?_)
                · exact (HxA _ _ HV5.out).out
                clear hK K
                try simp only [Act.put, List.setIfInBounds_toArray, List.set_cons_zero, List.set_cons_succ]
                refine wpAnyH_ready (rs := [1]) (by kernel_rfl) (by simp) ?_
                refine AllReadyH.cons (gatL (gatS gatZ)) (fun K hK => ?_) AllReadyH.nil
                go_simp
                refine hK.out _ _ ?_ (fun hHeld => ?_)
                · exact (HxA _ _ HV5.out).out
                clear hK K
                try simp only [Act.put, List.setIfInBounds_toArray, List.set_cons_zero, List.set_cons_succ]
                refine wpAnyH_ready (rs := [9]) (by kernel_rfl) (by simp) ?_
                refine AllReadyH.cons (gatL (gatS (gatS (gatS (gatS (gatS (gatS (gatS (gatS (gatS gatZ)))))))))) (fun K hK => ?_) AllReadyH.nil
                obtain ⟨gK, cK, V6, hrK, ⟨hSK, hdK, hfK, hlK⟩, hRK⟩ := HAf.out V5 HV5.out
                have HRK := Lib.hid hRK
                have HSK := Lib.hid hSK
                clear hRK hSK
                refine step_append_run rfl _ _ 23 23 rfl _ _ _ _ rfl rfl hrK ?_
                refine hK.out _ _ ?_ (fun hHeld => ?_)
                · exact HSK.out
                clear hK K
                try simp only [Act.put, List.setIfInBounds_toArray, List.set_cons_zero, List.set_cons_succ]
                refine wpAnyH_take (i := 10) (v := ?_) (gatL (gatS (gatS (gatS (gatS (gatS (gatS (gatS (gatS (gatS (gatS gatZ))))))))))) (by kernel_rfl) (by kernel_rfl) (by kernel_rfl) (fun _ _ _ h => h) (Or.inl ⟨by rfl, ?_⟩) (by assumption) ?_
                rotate_left
                · intro w hSw
                  try dsimp only at hSw
                  go_simp
                  all_goals with_reducible rfl
                try simp only [Act.put, List.setIfInBounds_toArray, List.set_cons_zero, List.set_cons_succ]
                refine wpAnyH_ready (rs := [11]) (by kernel_rfl) (by simp) ?_
                refine AllReadyH.cons (gatL (gatS (gatS (gatS (gatS (gatS (gatS (gatS (gatS (gatS (gatS (gatS gatZ)))))))))))) (fun K hK => ?_) AllReadyH.nil
                go_simp
                refine hK.out _ _ ?_ (fun hHeld => ?_)
                · exact (HxS _ _ _ HRK.out rfl rfl).out
                clear hK K
                try simp only [Act.put, List.setIfInBounds_toArray, List.set_cons_zero, List.set_cons_succ]
                refine wpAnyH_done (by kernel_rfl) ?_ _
                go_wp2_with (fail)
                exact ⟨⟨k + 1, _, ⟨rs2, some ⟨gA, 0, none⟩, c2, ms ++ [d], some ⟨g3, 0, none⟩, c3, acs ++ [Av], some ⟨gK, 0, none⟩, cK, ⟨[], none, 0⟩⟩, by simp, by dsimp only; rw [hN2.out], HRK.out, HIn⟩, by simp [intOf]; omega⟩
    · obtain rfl : k = N := by omega
      have hkI : ¬ (k : Int) < (k : Int) := by omega
      have hmsl : ms.length = k := HI.out.2.2.1
      have hacl : acs.length = k := HI.out.2.2.2.1
      have b0 := hR.dv.cell 0
      have b1 := hR.dv.cell 1
      have bl := hR.dv.lt
      have r0_ := hR.res.cell 0
      have r1_ := hR.res.cell 1
      have rf := hR.res.frozen
      have rl := hR.res.lt
      unfold RbL.vM RbL.vK at b0 b1
      dsimp only at b0 b1
      simp only [List.getElem?_cons_zero, List.getElem?_cons_succ] at b0 b1 r0_ r1_
      rw [hmsl] at b0
      rw [hacl] at b1
      have k8 : KpM (fun g => g = X + 1) wr ((wr.setCell ⟨X + 1, 0, none⟩ (.slice mA k mC)).setCell ⟨X + 1, 1, none⟩ (.slice kA k kC)) := ((KpM.refl wr).step (grownBy_set wr (X + 1) 0 _) (fun g e => .inl (by injection e with e; exact e.symm))).step (grownBy_set _ (X + 1) 1 _) (fun g e => .inl (by injection e with e; exact e.symm))
      have rs0 := (hR.res.set 0 (.slice mA k mC)).set 1 (.slice kA k kC)
      have q0 := rs0.cell 0
      have q1 := rs0.cell 1
      simp only [List.set_cons_zero, List.set_cons_succ, List.getElem?_cons_zero, List.getElem?_cons_succ] at q0 q1
      have hD : DfAt ((wr.setCell ⟨X + 1, 0, none⟩ (.slice mA k mC)).setCell ⟨X + 1, 1, none⟩ (.slice kA k kC)) ⟨ms.map MvD.l, acs⟩ ⟨ms, mA, mC, kA, kC⟩ := by
        refine ⟨mrs_own (base := X) (k8.own hR.mrs (fun g e e2 => own_Blk hR.mrs hR.res (by decide) (by rw [← e2]; exact e.symm))) (fun r hr => ?_) HI.out.2.2.2.2.2.2, rfl, ints_own (k8.own hR.acc (fun g e e2 => own_Blk hR.acc hR.res (by decide) (by rw [← e2]; exact e.symm)))⟩
        have h1 := (hR.mvs r hr).1
        unfold OwnMv at h1 ⊢
        exact k8.own h1 (fun g e e2 => own_Blk h1 hR.res (by decide) (by rw [← e2]; exact e.symm))
      have HF : Hid (PostB w ((wr.setCell ⟨X + 1, 0, none⟩ (.slice mA k mC)).setCell ⟨X + 1, 1, none⟩ (.slice kA k kC)) x (.returned (.tuple #[.agg #[.slice mA k mC, .slice kA k kC], .int .i64 0]))) := Lib.hid (by
        refine ⟨by rw [hX.out]; exact k8.bel hR.bel hR.xs (fun g e => by omega), .inr (.inr ⟨hq.out, k, ?_⟩)⟩
        rw [HI.out.1]
        dsimp only
        refine ⟨by rw [List.length_map]; exact hN.out.symm, by omega, by rw [List.length_map]; exact hmsl, hacl, ⟨ms, mA, mC, kA, kC⟩, hD, ?_⟩
        rw [List.length_map, hmsl, hacl])
      rw [hN.out]
      clear k8 rs0 hD hR
      go_wp2_with (fail)
      exact bodyPost_ret (v := .tuple #[.agg #[.slice mA k mC, .slice kA k kC], .int .i64 0]) (by simp [results, Try.results16, go_sem, q0, q1]; try first | rfl | assumption | omega) rfl HF.out
end Go.Proofs.Ytngbfjimmdkfeaa

