/- Texts joined: Tm Tl Tn To Tr. -/
import Derived.Test.YthogiakfbgehnaaREAm
set_option linter.unusedVariables false
set_option linter.unusedSimpArgs false
namespace Go.Proofs.Ythogiakfbgehnaa
open Go.RowKit Go.Shelf

attribute [local go_sem] Oper.semAt_some

set_option maxRecDepth 100000 in
set_option maxHeartbeats 4000000 in
theorem toldD_any (w0 : World) (h : TrH) (kids : TrF) (a : Option Addr) (cap : Nat) (hk : TrS w0 (fun _ => True) a cap kids) (w : World) :
    Calls Try.prog 131 #[treV h a kids.len cap] w fun e W => ∃ A C, e = .returned (.slice A (told true h kids).len C) ∧ TrS w0 (fun _ => True) A C (told true h kids) ∧ Below w.heap.size w W := by
  obtain ⟨hk0, hn, hs⟩ := h
  have hlm : kids.len ≤ cap ∧ cap ≤ 9223372036854775807 := ⟨hk.le, hk.max⟩
  have hB := Blk.new w 51 #[.int .i64 hk0, .int .i64 hn, .int .i64 hs, .slice a kids.len cap]
  have hb : Below w.heap.size w (w.alloc (.cells #[.int .i64 hk0, .int .i64 hn, .int .i64 hs, .slice a kids.len cap] 51)) := (Below.refl _ _).alloc (Nat.le_refl _) _
  have HIT := Lib.hid (fun V => isTok_any ⟨hk0, hn, hs⟩ a kids.len cap V)
  have x0 := hB.cell 0
  have x1 := hB.cell 1
  have x2 := hB.cell 2
  have x3 := hB.cell 3
  have xl := hB.lt
  simp only [List.getElem?_cons_zero, List.getElem?_cons_succ] at x0 x1 x2 x3
  have HB := Lib.hid hB
  have Hb := Lib.hid hb
  have HK := Lib.hid hk
  by_cases h0 : 0 ≤ hk0
  · have e0 : decide (0 ≤ hk0) = true := decide_eq_true h0
    have et : told true ⟨hk0, hn, hs⟩ kids = .nil := by unfold told; rw [if_pos (by simpa using h0)]
    rw [et]
    have HQ : Hid (∀ W, Below w.heap.size w W → ∃ A C, Ending.returned (.slice none 0 0) = .returned (.slice A (TrF.nil).len C) ∧ TrS w0 (fun _ => True) A C .nil ∧ Below w.heap.size w W) := Lib.hid (fun W h => ⟨none, 0, rfl, TrS.nil _ _, h⟩)
    clear hB hb hk
    go_enter Try.func131, Try.ntmps131
    go_wp2_with (fail)
    refine (HIT.out _).mono ?_
    rintro e9 w9 ⟨rfl, hb9⟩
    have HF := Lib.hid (HQ.out w9 (Hb.out.trans (hb9.mono Hb.out.size)))
    show _
    dsimp only
    rw [e0]
    clear x0 x1 x2 x3 xl hb9
    go_wp2_with (fail)
    first | exact HF.out | exact bodyPost_ret (v := .slice none 0 0) (by simp [results, Try.results131, go_sem]; try first | rfl | assumption | omega) rfl HF.out
  · have e0 : decide (0 ≤ hk0) = false := decide_eq_false h0
    have et : told true ⟨hk0, hn, hs⟩ kids = kids := by unfold told; rw [if_neg (by simpa using h0)]
    rw [et]
    obtain ⟨n, hn9⟩ : ∃ q, Hid (kids.len = q) := ⟨_, Lib.hid rfl⟩
    rw [hn9.out] at hlm HB x3 Hb HIT ⊢
    have HQ : Hid (∀ W, Below w.heap.size w W → ∃ A C, Ending.returned (.slice a n cap) = .returned (.slice A n C) ∧ TrS w0 (fun _ => True) A C kids ∧ Below w.heap.size w W) := Lib.hid (fun W h => ⟨a, cap, rfl, HK.out, h⟩)
    clear hB hb hk
    go_enter Try.func131, Try.ntmps131
    go_wp2_with (fail)
    refine (HIT.out _).mono ?_
    rintro e9 w9 ⟨rfl, hb9⟩
    have HB9 := HB.out.below hb9 HB.out.lt
    have y3 := HB9.cell 3
    have yl := HB9.lt
    simp only [List.getElem?_cons_zero, List.getElem?_cons_succ] at y3
    have HF := Lib.hid (HQ.out w9 (Hb.out.trans (hb9.mono Hb.out.size)))
    dsimp only
    rw [e0]
    clear x0 x1 x2 x3 xl hb9
    go_wp2_with (fail)
    first | exact HF.out | exact bodyPost_ret (v := .slice a n cap) (by simp [results, Try.results131, go_sem]; try first | rfl | assumption | omega) rfl HF.out
set_option maxRecDepth 100000 in
set_option maxHeartbeats 1000000 in
theorem all1_inD (w0 W : World) (Bs Bi : Nat) (h : TrH) (kids : TrF) (ka : Option Addr) (kcap : Nat) (hk : TrS w0 (fun _ => True) ka kcap kids) (hW0 : Below w0.heap.size w0 W)
    (hN : kids.size ≤ 1099511627776)
    (c0 : W.cell? ⟨Bs, 0, none⟩ = some (.int .i64 h.k)) (c1 : W.cell? ⟨Bs, 1, none⟩ = some (.int .i64 h.i)) (c2 : W.cell? ⟨Bs, 2, none⟩ = some (.int .i64 h.a)) (c3 : W.cell? ⟨Bs, 3, none⟩ = some (.slice ka kids.len kcap))
    (hi0 : W.heap[Bi]? = some (.cells #[inVT 131] 135 (0, 0)))
    (l : Nat) (J Jx : List NxT → World → Prop) (hJ : Bears W.heap.size itTT J) (hJx : Bears W.heap.size itTT Jx)
    (hY : ∀ pre x W1, J pre W1 → GoodT w0 (TrF.pre true 1 (.cons h kids .nil)) (pre ++ [x]) → YieldAt Fence.wide 0 Try.prog l (encsT x) W1 fun e W' =>
      (e = .returned (.bool true) ∧ J (pre ++ [x]) W' ∧ Spares w0.heap.size itTT W1 W') ∨ (e = .returned (.bool false) ∧ Jx (pre ++ [x]) W'))
    (h0 : J [] W) :
    CallsIn Fence.wide 0 Try.prog 143 #[.func (.yield l) #[] #[], .pointer (some ⟨Bs, 0, none⟩), .pointer (some ⟨Bi, 0, none⟩)] W fun e W' => (∃ v, e = .returned v) ∧ ((∃ xs, FullT (TrF.pre true 1 (.cons h kids .nil)) xs ∧ J xs W') ∨ (∃ pre, GoodT w0 (TrF.pre true 1 (.cons h kids .nil)) pre ∧ Jx pre W')) := by
  refine callsIn_of_wp Try.func143 rfl trivial ?_ rfl
  simp only [Try.ntmps143, List.size_toArray, List.length_cons, List.length_nil, Nat.reduceAdd, Nat.reduceSub, Array.replicate_succ, Array.replicate_zero, List.push_toArray, List.append_toArray, List.nil_append, List.cons_append]
  gi_wp2_with (fail)
  have hz := hW0.size
  have hBiW : Bi < W.heap.size := (Array.getElem?_eq_some_iff.1 hi0).1
  gi_loopg [4] (stepsT [.cons h kids .nil]) (fun k o wr => AllInvT 131 true Bi w0 W J (TrF.pre true 1 (.cons h kids .nil)) k o wr)
  case atStart =>
    have hR := Below.heap_alloc (W.alloc (.cells #[.int .i64 h.k, .int .i64 h.i, .int .i64 h.a, .slice ka kids.len kcap] 51)) (.cells #[.slice (some ⟨W.heap.size, 0, none⟩) 1 1] 49) W.heap.size (by simp)
    refine ⟨[.cons h kids .nil], [.slice (some ⟨W.heap.size, 0, none⟩) 1 1], _, 1, [], rfl, rfl, ?_, ⟨.inr ⟨h, kids, ka, kcap, rfl, rfl, ?_, hk⟩, trivial⟩, hJ.alloc _ (hJ.alloc _ h0), by simp [remT], by simp, ?_, ?_, fun x hx => absurd hx (by simp)⟩
    · have := World.ownsRow_lit (base := W.heap.size) (e := 49) (size := 1) (W.alloc (.cells #[.int .i64 h.k, .int .i64 h.i, .int .i64 h.a, .slice ka kids.len kcap] 51)) #[.slice (some ⟨W.heap.size, 0, none⟩) 1 1] 1 (by simp) (by unfold maxLen; omega) rfl
      simpa using this
    · rw [hR]; exact World.alloc_heap_new W _
    · exact hW0.trans ((((Below.refl _ W).alloc (Nat.le_refl _) _).alloc (by simp) _).mono hz)
    · exact (Below.heap_alloc _ _ _ (by simp; omega)).trans ((Below.heap_alloc _ _ _ hBiW).trans hi0)
  case round =>
    obtain ⟨fs, vs, a, cap, pre, rfl, rfl, hown, hst, hj, hall, hlen, hbl, hBi, hsp⟩ := hrel
    have HSp := Lib.hid hsp
    clear hsp
    cases fs with
    | nil =>
      gi_wp2
      go_end0
      exact ⟨⟨_, rfl⟩, .inl ⟨pre, by simpa [remT, FullT] using hall, hj⟩⟩
    | cons f fs =>
      cases vs with
      | nil => exact hst.elim
      | cons v vs =>
      simp only [List.length_cons] at hown hlen ⊢
      have hvl := hst.2.length
      obtain ⟨g, cap', e⟩ := ownsRow_succ hown
      simp only [Value.slice.injEq, true_and] at e
      obtain ⟨rfl, rfl⟩ := e
      have hrow := hown
      rw [List.reverse_cons] at hrow
      have hcell : wr.cell? ⟨g, fs.length, none⟩ = some v := by
        rw [hrow.cellAt fs.length (by omega), List.getElem?_append_right (by rw [List.length_reverse, hvl]; exact Nat.le_refl _)]
        simp [hvl]
      have hfro := hrow.frozenAt fs.length
      have hcapm : fs.length + 1 ≤ cap ∧ cap ≤ 9223372036854775807 := by
        rcases hrow.2 with ⟨e, _⟩ | ⟨g', cap', cur, e, _, _, h1, h2, _⟩
        · cases e
        · simp only [Value.slice.injEq, true_and] at e
          obtain ⟨-, rfl⟩ := e
          exact ⟨h1, by unfold maxLen at h2; omega⟩
      obtain ⟨hc1, hc2⟩ := hcapm
      cases f with
      | nil =>
        obtain ⟨a2, cap2, rfl⟩ : ∃ a2 cap2, v = .slice a2 0 cap2 := by
          rcases hst.1 with ⟨a2, cap2, e, _⟩ | ⟨_, _, _, _, e, _⟩
          · exact ⟨a2, cap2, e⟩
          · cases e
        have hpop := ownsRow_pop (n := fs.length) (by simp [hvl]) hrow
        have Hlen := Lib.hid hlen
        have Hvl := Lib.hid hvl
        have HBi := Lib.hid hBi
        clear hrow hown hvl hBi
        gi_wp2
        gi_roundg (stepsT fs)
        case measure => simp [stepsT]
        case rel => exact ⟨fs, vs, some ⟨g, 0, none⟩, cap, pre, rfl, by simp, hpop, hst.2, hj, by simpa [remT, TrF.pre_cons, TrF.pre_nil] using hall, by have := Hlen.out; omega, hbl, HBi.out, HSp.out⟩
      | cons h' kids' rest =>
        obtain ⟨b, off, cap2, ka', kcap', rfl, hle2, hmx2, hcells, hbg, hkk, hrr⟩ := EntT.first hbl rfl hst.1
        obtain ⟨q0, q1, q2, q3⟩ := hcells wr (.inl rfl)
        have HSp2 : Hid (∀ y ∈ pre ++ [(⟨⟨fs.length + 1, h', kids'⟩, ka', kcap'⟩ : NxT)], TrS w0 (fun _ => True) y.a y.cap y.nd.kids) := Lib.hid (by
          intro y hy
          rcases List.mem_append.1 hy with hy | hy
          · exact HSp.out y hy
          · rw [List.mem_singleton.1 hy]; exact hkk)
        have hgood : GoodT w0 (TrF.pre true 1 (.cons h kids .nil)) (pre ++ [⟨⟨fs.length + 1, h', kids'⟩, ka', kcap'⟩]) :=
          ⟨⟨(told true h' kids').pre true (fs.length + 1 + 1) ++ rest.pre true (fs.length + 1) ++ remT true fs, by rw [← hall]; simp [remT, TrF.pre_cons, TrF.pre_nil]⟩, HSp2.out⟩
        have hdeep : pre.length + 1 ≤ kids.size + 1 := by
          obtain ⟨⟨r, hr⟩, -⟩ := hgood
          have h8 := congrArg List.length hr
          have h9 := TrF.pre_le true (TrF.cons h kids .nil) 1
          rw [← h8, List.length_append, List.length_map, List.length_append] at h9
          simp only [List.length_singleton, TrF.size] at h9
          omega
        obtain ⟨fn, tmps, assign, body, hy, hR⟩ := hY pre _ wr hj hgood
        dsimp only [encsT, treV] at hy
        rw [show ((fs.length + 1 : Nat) : Int) = (fs.length : Int) + 1 from rfl] at hy
        have Hlen := Lib.hid hlen
        have Hvl := Lib.hid hvl
        have HBi := Lib.hid hBi
        have hg0 : W.heap.size ≤ g ∧ ∃ cur, wr.heap[g]? = some (.cells cur 49 (0, 0)) := by
          rcases hrow.2 with ⟨e, _⟩ | ⟨g', cap', cur, e, hb, h1, _⟩
          · cases e
          · cases e; exact ⟨hb, cur, h1⟩
        obtain ⟨hgb, cur, hgc⟩ := hg0
        have hbg' : ¬ b = g := hbg g cur hgc (by omega)
        have hgb' : ¬ g = b := fun e => hbg' e.symm
        have hvl' := hvl
        clear hvl hlen hbg hBi
        have hcase : ∃ A2, TrS w0 (fun _ => True) A2 (cap2 - 1) rest ∧ ((cap2 = 1 ∧ A2 = some ⟨b, off, none⟩) ∨ (¬ cap2 = 1 ∧ A2 = some ⟨b, off + 4, none⟩)) := by
          by_cases hc : cap2 = 1
          · rw [if_pos hc] at hrr; exact ⟨_, hrr, .inl ⟨hc, rfl⟩⟩
          · rw [if_neg hc] at hrr; exact ⟨_, hrr, .inr ⟨hc, rfl⟩⟩
        clear hrr
        gi_wp2_with (fail)
        refine ⟨rfl, hR.mono ?_⟩
        rintro e W3 (⟨rfl, hj3, hs3⟩ | ⟨rfl, hjx⟩)
        · have hown3 : W3.ownsRow W.heap.size 49 1 (.slice (some ⟨g, 0, none⟩) (fs.length + 1) cap) (fs.length + 1) (vs.reverse ++ [.slice (some ⟨b, off, none⟩) (rest.len + 1) cap2]) := by
            rcases hrow.2 with ⟨e, _⟩ | ⟨g', cap', cur, e, hb, h1, r⟩
            · cases e
            · cases e; exact ⟨hrow.1, .inr ⟨g, cap, cur, rfl, hb, hs3.same g cur _ _ h1 (by decide), r⟩⟩
          have hgc3 := hs3.same g cur _ _ hgc (by decide)
          have hBi3 := hs3.same Bi _ _ _ HBi.out (by decide)
          have hBig : ¬ Bi = g := by
            rintro rfl
            rw [hgc3] at hBi3
            simp at hBi3
          have hcell3 : W3.cell? ⟨g, fs.length, none⟩ = some (.slice (some ⟨b, off, none⟩) (rest.len + 1) cap2) := by
            have := Hvl.out
            rw [hown3.cellAt fs.length (by omega), List.getElem?_append_right (by rw [List.length_reverse, this]; exact Nat.le_refl _)]
            simp [this]
          have hfro3 := hown3.frozenAt fs.length
          obtain ⟨p0, p1, p2, p3⟩ := hcells W3 (.inr hs3)
          have hst2 := hst.2
          clear hown hrow hcell hfro q0 q1 q2 q3 hgc hy hR hcells hj hst h0
          have hN' := hN
          have hkeep : ∀ A2, ∃ w5, W3.setCell ⟨g, fs.length, none⟩ (.slice A2 rest.len (cap2 - 1)) = w5 ∧ w5.ownsRow W.heap.size 49 1 (.slice (some ⟨g, 0, none⟩) (fs.length + 1) cap) (fs.length + 1) (vs.reverse ++ [.slice A2 rest.len (cap2 - 1)]) ∧ W3.grownBy w5 (some g) ∧
              w5.cell? ⟨b, off, none⟩ = some (.int .i64 h'.k) ∧ w5.cell? ⟨b, off + 1, none⟩ = some (.int .i64 h'.i) ∧ w5.cell? ⟨b, off + 2, none⟩ = some (.int .i64 h'.a) ∧ w5.cell? ⟨b, off + 3, none⟩ = some (.slice ka' kids'.len kcap') ∧ w5.cell? ⟨Bi, 0, none⟩ = some (inVT 131) := by
            intro A2
            have hs := hown3.stored fs.length (.slice A2 rest.len (cap2 - 1))
            refine ⟨_, rfl, ?_, hs.2, ?_⟩
            · have := hs.1
              have hv := Hvl.out
              rw [List.set_append_right _ _ (by simp [hv])] at this
              simpa [hv] using this
            · have hc : ∀ (B o : Nat) (u : Value), ¬ B = g → W3.cell? ⟨B, o, none⟩ = some u → (W3.setCell ⟨g, fs.length, none⟩ (.slice A2 rest.len (cap2 - 1))).cell? ⟨B, o, none⟩ = some u :=
                fun B o u hB hu => by
                  have := hs.2.block B (World.block_lt_of_cell? W3 _ hu) (by simpa using hB)
                  simp only [World.cell?] at hu ⊢
                  rw [this]; exact hu
              exact ⟨hc _ _ _ hbg' p0, hc _ _ _ hbg' p1, hc _ _ _ hbg' p2, hc _ _ _ hbg' p3, hc _ _ _ hBig (by simp [World.cell?, hBi3])⟩
          rcases hcase with ⟨A2, hrr, hA⟩
          obtain ⟨w5, e5, hown5, hg5, x0, x1, x2, x3, xi⟩ := hkeep A2
          clear hkeep
          have hsz5 : W.heap.size ≤ w5.heap.size := by
            have h1 := (Array.getElem?_eq_some_iff.1 hgc3).1
            have h2 := hg5.size
            omega
          have hrun5 := fun (A : Option Addr) (c4 : Nat) (w4 : World) (h4 : Below w5.drew.heap.size w5.drew w4) =>
            run_pushT w4 189 (.slice A (told true h' kids').len c4) (by simp [Value.oneCell']) (World.ownsRow.kept hown5.drew (below_grownBy h4 none) (by simp [Value.ownBlock])) (by have := Hlen.out; omega) (by have := h4.size; simp only [World.size_drew] at this; omega)
          have HE := Lib.hid e5
          clear e5
          rcases hA with ⟨rfl, rfl⟩ | ⟨hcap, rfl⟩
          · obtain rfl : rest = .nil := by cases rest with
              | nil => rfl
              | cons _ _ _ => simp [TrF.len] at hle2
            simp only [TrF.len, Nat.zero_add] at hown3 hcell3 hle2 HE hown5 hrun5 ⊢
            gi_wp2_with (fail)
            rw [HE.out]
            refine wpIn_wide.2 ?_
            go_region_law (first | (refine step_append_run rfl (.tmp 40) (.tmp 46) 189 189 rfl _ _ _ _ rfl rfl Hr5.out ?_) | (go_simp; go_at_call 131; (with_reducible refine (toldD_any w0 h' kids' ka' kcap' hkk w5.drew).mono ?_); rintro e w4 ⟨A9, c9, rfl, hT9, hw4⟩; have HT9 := Lib.hid hT9; obtain ⟨a6, c6, w6, hrun6, hown6, hg6⟩ := hrun5 A9 c9 w4 hw4; have hg46 : w5.grownBy w6 (some g) := grownBy_trans (grownBy_trans (grownBy_drew w5 _) (below_grownBy hw4 (some g)) (fun i e => .inl e)) hg6 (fun i e => .inl e); have Hr5 := Lib.hid hrun6; have Hown6 := Lib.hid hown6; clear hrun6 hw4 hown6 hg6 hT9))
            all_goals
              have hg13 : W3.grownBy w6 (some g) := grownBy_trans hg5 hg46 (fun i e => .inl e)
              refine ‹∀ (a' : Act) (w' : World), Handed _ _ a' w' → _› _ _ ?_
              gi_roundg (stepsT (told true h' kids' :: .nil :: fs))
              case measure => have := told_size true h' kids'; simp [stepsT, TrF.size]; omega
              case rel => exact allInv_nextT (cap2 := 1) hvl' hall hst2 hbl hs3 hgc3 hgb hz hj3 hJ hg13 rfl HT9.out hrr rfl (by simp [TrF.len, hvl']) rfl Hown6.out Hlen.out HBi.out HSp2.out
          · gi_wp2_with (fail)
            rw [HE.out]
            refine wpIn_wide.2 ?_
            go_region_law (first | (refine step_append_run rfl (.tmp 40) (.tmp 46) 189 189 rfl _ _ _ _ rfl rfl Hr5.out ?_) | (go_simp; go_at_call 131; (with_reducible refine (toldD_any w0 h' kids' ka' kcap' hkk w5.drew).mono ?_); rintro e w4 ⟨A9, c9, rfl, hT9, hw4⟩; have HT9 := Lib.hid hT9; obtain ⟨a6, c6, w6, hrun6, hown6, hg6⟩ := hrun5 A9 c9 w4 hw4; have hg46 : w5.grownBy w6 (some g) := grownBy_trans (grownBy_trans (grownBy_drew w5 _) (below_grownBy hw4 (some g)) (fun i e => .inl e)) hg6 (fun i e => .inl e); have Hr5 := Lib.hid hrun6; have Hown6 := Lib.hid hown6; clear hrun6 hw4 hown6 hg6 hT9))
            all_goals
              have hg13 : W3.grownBy w6 (some g) := grownBy_trans hg5 hg46 (fun i e => .inl e)
              refine ‹∀ (a' : Act) (w' : World), Handed _ _ a' w' → _› _ _ ?_
              gi_roundg (stepsT (told true h' kids' :: rest :: fs))
              case measure => have := told_size true h' kids'; simp [stepsT, TrF.size]; omega
              case rel => exact allInv_nextT (cap2 := cap2) hvl' hall hst2 hbl hs3 hgc3 hgb hz hj3 hJ hg13 rfl HT9.out hrr rfl (by simp [hvl']) rfl Hown6.out Hlen.out HBi.out HSp2.out
        · gi_wp2
          refine bodyPost_ret (results_none rfl _ _ _) rfl ?_
          exact ⟨⟨_, rfl⟩, .inr ⟨_, hgood, hjx⟩⟩
end Go.Proofs.Ythogiakfbgehnaa

namespace Go.Proofs.Ythogiakfbgehnaa
open Go.RowKit Go.Shelf

attribute [local go_sem] Oper.semAt_some

theorem toldK_any (w0 : World) (h : TrH) (kids : TrF) (a : Option Addr) (cap : Nat) (hk : TrS w0 (fun _ => True) a cap kids) (w : World) :
    Calls Try.prog 105 #[treV h a kids.len cap] w fun e W => ∃ A C, e = .returned (.slice A (told false h kids).len C) ∧ TrS w0 (fun _ => True) A C (told false h kids) ∧ Below w.heap.size w W := by
  refine (kids_any h a kids.len cap w).mono ?_
  rintro e W ⟨rfl, rfl⟩
  exact ⟨a, cap, rfl, hk, (Below.refl _ _).alloc (Nat.le_refl _) _⟩
set_option maxRecDepth 100000 in
set_option maxHeartbeats 1000000 in
theorem all1_inK (w0 W : World) (Bs Bi : Nat) (h : TrH) (kids : TrF) (ka : Option Addr) (kcap : Nat) (hk : TrS w0 (fun _ => True) ka kcap kids) (hW0 : Below w0.heap.size w0 W)
    (hN : kids.size ≤ 1099511627776)
    (c0 : W.cell? ⟨Bs, 0, none⟩ = some (.int .i64 h.k)) (c1 : W.cell? ⟨Bs, 1, none⟩ = some (.int .i64 h.i)) (c2 : W.cell? ⟨Bs, 2, none⟩ = some (.int .i64 h.a)) (c3 : W.cell? ⟨Bs, 3, none⟩ = some (.slice ka kids.len kcap))
    (hi0 : W.heap[Bi]? = some (.cells #[inVT 105] 135 (0, 0)))
    (l : Nat) (J Jx : List NxT → World → Prop) (hJ : Bears W.heap.size itTT J) (hJx : Bears W.heap.size itTT Jx)
    (hY : ∀ pre x W1, J pre W1 → GoodT w0 (TrF.pre false 1 (.cons h kids .nil)) (pre ++ [x]) → YieldAt Fence.wide 0 Try.prog l (encsT x) W1 fun e W' =>
      (e = .returned (.bool true) ∧ J (pre ++ [x]) W' ∧ Spares w0.heap.size itTT W1 W') ∨ (e = .returned (.bool false) ∧ Jx (pre ++ [x]) W'))
    (h0 : J [] W) :
    CallsIn Fence.wide 0 Try.prog 143 #[.func (.yield l) #[] #[], .pointer (some ⟨Bs, 0, none⟩), .pointer (some ⟨Bi, 0, none⟩)] W fun e W' => (∃ v, e = .returned v) ∧ ((∃ xs, FullT (TrF.pre false 1 (.cons h kids .nil)) xs ∧ J xs W') ∨ (∃ pre, GoodT w0 (TrF.pre false 1 (.cons h kids .nil)) pre ∧ Jx pre W')) := by
  refine callsIn_of_wp Try.func143 rfl trivial ?_ rfl
  simp only [Try.ntmps143, List.size_toArray, List.length_cons, List.length_nil, Nat.reduceAdd, Nat.reduceSub, Array.replicate_succ, Array.replicate_zero, List.push_toArray, List.append_toArray, List.nil_append, List.cons_append]
  gi_wp2_with (fail)
  have hz := hW0.size
  have hBiW : Bi < W.heap.size := (Array.getElem?_eq_some_iff.1 hi0).1
  gi_loopg [4] (stepsT [.cons h kids .nil]) (fun k o wr => AllInvT 105 false Bi w0 W J (TrF.pre false 1 (.cons h kids .nil)) k o wr)
  case atStart =>
    have hR := Below.heap_alloc (W.alloc (.cells #[.int .i64 h.k, .int .i64 h.i, .int .i64 h.a, .slice ka kids.len kcap] 51)) (.cells #[.slice (some ⟨W.heap.size, 0, none⟩) 1 1] 49) W.heap.size (by simp)
    refine ⟨[.cons h kids .nil], [.slice (some ⟨W.heap.size, 0, none⟩) 1 1], _, 1, [], rfl, rfl, ?_, ⟨.inr ⟨h, kids, ka, kcap, rfl, rfl, ?_, hk⟩, trivial⟩, hJ.alloc _ (hJ.alloc _ h0), by simp [remT], by simp, ?_, ?_, fun x hx => absurd hx (by simp)⟩
    · have := World.ownsRow_lit (base := W.heap.size) (e := 49) (size := 1) (W.alloc (.cells #[.int .i64 h.k, .int .i64 h.i, .int .i64 h.a, .slice ka kids.len kcap] 51)) #[.slice (some ⟨W.heap.size, 0, none⟩) 1 1] 1 (by simp) (by unfold maxLen; omega) rfl
      simpa using this
    · rw [hR]; exact World.alloc_heap_new W _
    · exact hW0.trans ((((Below.refl _ W).alloc (Nat.le_refl _) _).alloc (by simp) _).mono hz)
    · exact (Below.heap_alloc _ _ _ (by simp; omega)).trans ((Below.heap_alloc _ _ _ hBiW).trans hi0)
  case round =>
    obtain ⟨fs, vs, a, cap, pre, rfl, rfl, hown, hst, hj, hall, hlen, hbl, hBi, hsp⟩ := hrel
    have HSp := Lib.hid hsp
    clear hsp
    cases fs with
    | nil =>
      gi_wp2
      go_end0
      exact ⟨⟨_, rfl⟩, .inl ⟨pre, by simpa [remT, FullT] using hall, hj⟩⟩
    | cons f fs =>
      cases vs with
      | nil => exact hst.elim
      | cons v vs =>
      simp only [List.length_cons] at hown hlen ⊢
      have hvl := hst.2.length
      obtain ⟨g, cap', e⟩ := ownsRow_succ hown
      simp only [Value.slice.injEq, true_and] at e
      obtain ⟨rfl, rfl⟩ := e
      have hrow := hown
      rw [List.reverse_cons] at hrow
      have hcell : wr.cell? ⟨g, fs.length, none⟩ = some v := by
        rw [hrow.cellAt fs.length (by omega), List.getElem?_append_right (by rw [List.length_reverse, hvl]; exact Nat.le_refl _)]
        simp [hvl]
      have hfro := hrow.frozenAt fs.length
      have hcapm : fs.length + 1 ≤ cap ∧ cap ≤ 9223372036854775807 := by
        rcases hrow.2 with ⟨e, _⟩ | ⟨g', cap', cur, e, _, _, h1, h2, _⟩
        · cases e
        · simp only [Value.slice.injEq, true_and] at e
          obtain ⟨-, rfl⟩ := e
          exact ⟨h1, by unfold maxLen at h2; omega⟩
      obtain ⟨hc1, hc2⟩ := hcapm
      cases f with
      | nil =>
        obtain ⟨a2, cap2, rfl⟩ : ∃ a2 cap2, v = .slice a2 0 cap2 := by
          rcases hst.1 with ⟨a2, cap2, e, _⟩ | ⟨_, _, _, _, e, _⟩
          · exact ⟨a2, cap2, e⟩
          · cases e
        have hpop := ownsRow_pop (n := fs.length) (by simp [hvl]) hrow
        have Hlen := Lib.hid hlen
        have Hvl := Lib.hid hvl
        have HBi := Lib.hid hBi
        clear hrow hown hvl hBi
        gi_wp2
        gi_roundg (stepsT fs)
        case measure => simp [stepsT]
        case rel => exact ⟨fs, vs, some ⟨g, 0, none⟩, cap, pre, rfl, by simp, hpop, hst.2, hj, by simpa [remT, TrF.pre_cons, TrF.pre_nil] using hall, by have := Hlen.out; omega, hbl, HBi.out, HSp.out⟩
      | cons h' kids' rest =>
        obtain ⟨b, off, cap2, ka', kcap', rfl, hle2, hmx2, hcells, hbg, hkk, hrr⟩ := EntT.first hbl rfl hst.1
        obtain ⟨q0, q1, q2, q3⟩ := hcells wr (.inl rfl)
        have HSp2 : Hid (∀ y ∈ pre ++ [(⟨⟨fs.length + 1, h', kids'⟩, ka', kcap'⟩ : NxT)], TrS w0 (fun _ => True) y.a y.cap y.nd.kids) := Lib.hid (by
          intro y hy
          rcases List.mem_append.1 hy with hy | hy
          · exact HSp.out y hy
          · rw [List.mem_singleton.1 hy]; exact hkk)
        have hgood : GoodT w0 (TrF.pre false 1 (.cons h kids .nil)) (pre ++ [⟨⟨fs.length + 1, h', kids'⟩, ka', kcap'⟩]) :=
          ⟨⟨(told false h' kids').pre false (fs.length + 1 + 1) ++ rest.pre false (fs.length + 1) ++ remT false fs, by rw [← hall]; simp [remT, TrF.pre_cons, TrF.pre_nil]⟩, HSp2.out⟩
        have hdeep : pre.length + 1 ≤ kids.size + 1 := by
          obtain ⟨⟨r, hr⟩, -⟩ := hgood
          have h8 := congrArg List.length hr
          have h9 := TrF.pre_le false (TrF.cons h kids .nil) 1
          rw [← h8, List.length_append, List.length_map, List.length_append] at h9
          simp only [List.length_singleton, TrF.size] at h9
          omega
        obtain ⟨fn, tmps, assign, body, hy, hR⟩ := hY pre _ wr hj hgood
        dsimp only [encsT, treV] at hy
        rw [show ((fs.length + 1 : Nat) : Int) = (fs.length : Int) + 1 from rfl] at hy
        have Hlen := Lib.hid hlen
        have Hvl := Lib.hid hvl
        have HBi := Lib.hid hBi
        have hg0 : W.heap.size ≤ g ∧ ∃ cur, wr.heap[g]? = some (.cells cur 49 (0, 0)) := by
          rcases hrow.2 with ⟨e, _⟩ | ⟨g', cap', cur, e, hb, h1, _⟩
          · cases e
          · cases e; exact ⟨hb, cur, h1⟩
        obtain ⟨hgb, cur, hgc⟩ := hg0
        have hbg' : ¬ b = g := hbg g cur hgc (by omega)
        have hgb' : ¬ g = b := fun e => hbg' e.symm
        have hvl' := hvl
        clear hvl hlen hbg hBi
        have hcase : ∃ A2, TrS w0 (fun _ => True) A2 (cap2 - 1) rest ∧ ((cap2 = 1 ∧ A2 = some ⟨b, off, none⟩) ∨ (¬ cap2 = 1 ∧ A2 = some ⟨b, off + 4, none⟩)) := by
          by_cases hc : cap2 = 1
          · rw [if_pos hc] at hrr; exact ⟨_, hrr, .inl ⟨hc, rfl⟩⟩
          · rw [if_neg hc] at hrr; exact ⟨_, hrr, .inr ⟨hc, rfl⟩⟩
        clear hrr
        gi_wp2_with (fail)
        refine ⟨rfl, hR.mono ?_⟩
        rintro e W3 (⟨rfl, hj3, hs3⟩ | ⟨rfl, hjx⟩)
        · have hown3 : W3.ownsRow W.heap.size 49 1 (.slice (some ⟨g, 0, none⟩) (fs.length + 1) cap) (fs.length + 1) (vs.reverse ++ [.slice (some ⟨b, off, none⟩) (rest.len + 1) cap2]) := by
            rcases hrow.2 with ⟨e, _⟩ | ⟨g', cap', cur, e, hb, h1, r⟩
            · cases e
            · cases e; exact ⟨hrow.1, .inr ⟨g, cap, cur, rfl, hb, hs3.same g cur _ _ h1 (by decide), r⟩⟩
          have hgc3 := hs3.same g cur _ _ hgc (by decide)
          have hBi3 := hs3.same Bi _ _ _ HBi.out (by decide)
          have hBig : ¬ Bi = g := by
            rintro rfl
            rw [hgc3] at hBi3
            simp at hBi3
          have hcell3 : W3.cell? ⟨g, fs.length, none⟩ = some (.slice (some ⟨b, off, none⟩) (rest.len + 1) cap2) := by
            have := Hvl.out
            rw [hown3.cellAt fs.length (by omega), List.getElem?_append_right (by rw [List.length_reverse, this]; exact Nat.le_refl _)]
            simp [this]
          have hfro3 := hown3.frozenAt fs.length
          obtain ⟨p0, p1, p2, p3⟩ := hcells W3 (.inr hs3)
          have hst2 := hst.2
          clear hown hrow hcell hfro q0 q1 q2 q3 hgc hy hR hcells hj hst h0
          have hN' := hN
          have hkeep : ∀ A2, ∃ w5, W3.setCell ⟨g, fs.length, none⟩ (.slice A2 rest.len (cap2 - 1)) = w5 ∧ w5.ownsRow W.heap.size 49 1 (.slice (some ⟨g, 0, none⟩) (fs.length + 1) cap) (fs.length + 1) (vs.reverse ++ [.slice A2 rest.len (cap2 - 1)]) ∧ W3.grownBy w5 (some g) ∧
              w5.cell? ⟨b, off, none⟩ = some (.int .i64 h'.k) ∧ w5.cell? ⟨b, off + 1, none⟩ = some (.int .i64 h'.i) ∧ w5.cell? ⟨b, off + 2, none⟩ = some (.int .i64 h'.a) ∧ w5.cell? ⟨b, off + 3, none⟩ = some (.slice ka' kids'.len kcap') ∧ w5.cell? ⟨Bi, 0, none⟩ = some (inVT 105) := by
            intro A2
            have hs := hown3.stored fs.length (.slice A2 rest.len (cap2 - 1))
            refine ⟨_, rfl, ?_, hs.2, ?_⟩
            · have := hs.1
              have hv := Hvl.out
              rw [List.set_append_right _ _ (by simp [hv])] at this
              simpa [hv] using this
            · have hc : ∀ (B o : Nat) (u : Value), ¬ B = g → W3.cell? ⟨B, o, none⟩ = some u → (W3.setCell ⟨g, fs.length, none⟩ (.slice A2 rest.len (cap2 - 1))).cell? ⟨B, o, none⟩ = some u :=
                fun B o u hB hu => by
                  have := hs.2.block B (World.block_lt_of_cell? W3 _ hu) (by simpa using hB)
                  simp only [World.cell?] at hu ⊢
                  rw [this]; exact hu
              exact ⟨hc _ _ _ hbg' p0, hc _ _ _ hbg' p1, hc _ _ _ hbg' p2, hc _ _ _ hbg' p3, hc _ _ _ hBig (by simp [World.cell?, hBi3])⟩
          rcases hcase with ⟨A2, hrr, hA⟩
          obtain ⟨w5, e5, hown5, hg5, x0, x1, x2, x3, xi⟩ := hkeep A2
          clear hkeep
          have hsz5 : W.heap.size ≤ w5.heap.size := by
            have h1 := (Array.getElem?_eq_some_iff.1 hgc3).1
            have h2 := hg5.size
            omega
          have hrun5 := fun (A : Option Addr) (c4 : Nat) (w4 : World) (h4 : Below w5.drew.heap.size w5.drew w4) =>
            run_pushT w4 189 (.slice A (told false h' kids').len c4) (by simp [Value.oneCell']) (World.ownsRow.kept hown5.drew (below_grownBy h4 none) (by simp [Value.ownBlock])) (by have := Hlen.out; omega) (by have := h4.size; simp only [World.size_drew] at this; omega)
          have HE := Lib.hid e5
          clear e5
          rcases hA with ⟨rfl, rfl⟩ | ⟨hcap, rfl⟩
          · obtain rfl : rest = .nil := by cases rest with
              | nil => rfl
              | cons _ _ _ => simp [TrF.len] at hle2
            simp only [TrF.len, Nat.zero_add] at hown3 hcell3 hle2 HE hown5 hrun5 ⊢
            gi_wp2_with (fail)
            rw [HE.out]
            refine wpIn_wide.2 ?_
            go_region_law (first | (refine step_append_run rfl (.tmp 40) (.tmp 46) 189 189 rfl _ _ _ _ rfl rfl Hr5.out ?_) | (go_simp; go_at_call 105; (with_reducible refine (toldK_any w0 h' kids' ka' kcap' hkk w5.drew).mono ?_); rintro e w4 ⟨A9, c9, rfl, hT9, hw4⟩; have HT9 := Lib.hid hT9; obtain ⟨a6, c6, w6, hrun6, hown6, hg6⟩ := hrun5 A9 c9 w4 hw4; have hg46 : w5.grownBy w6 (some g) := grownBy_trans (grownBy_trans (grownBy_drew w5 _) (below_grownBy hw4 (some g)) (fun i e => .inl e)) hg6 (fun i e => .inl e); have Hr5 := Lib.hid hrun6; have Hown6 := Lib.hid hown6; clear hrun6 hw4 hown6 hg6 hT9))
            all_goals
              have hg13 : W3.grownBy w6 (some g) := grownBy_trans hg5 hg46 (fun i e => .inl e)
              refine ‹∀ (a' : Act) (w' : World), Handed _ _ a' w' → _› _ _ ?_
              gi_roundg (stepsT (told false h' kids' :: .nil :: fs))
              case measure => have := told_size false h' kids'; simp [stepsT, TrF.size]; omega
              case rel => exact allInv_nextT (cap2 := 1) hvl' hall hst2 hbl hs3 hgc3 hgb hz hj3 hJ hg13 rfl HT9.out hrr rfl (by simp [TrF.len, hvl']) rfl Hown6.out Hlen.out HBi.out HSp2.out
          · gi_wp2_with (fail)
            rw [HE.out]
            refine wpIn_wide.2 ?_
            go_region_law (first | (refine step_append_run rfl (.tmp 40) (.tmp 46) 189 189 rfl _ _ _ _ rfl rfl Hr5.out ?_) | (go_simp; go_at_call 105; (with_reducible refine (toldK_any w0 h' kids' ka' kcap' hkk w5.drew).mono ?_); rintro e w4 ⟨A9, c9, rfl, hT9, hw4⟩; have HT9 := Lib.hid hT9; obtain ⟨a6, c6, w6, hrun6, hown6, hg6⟩ := hrun5 A9 c9 w4 hw4; have hg46 : w5.grownBy w6 (some g) := grownBy_trans (grownBy_trans (grownBy_drew w5 _) (below_grownBy hw4 (some g)) (fun i e => .inl e)) hg6 (fun i e => .inl e); have Hr5 := Lib.hid hrun6; have Hown6 := Lib.hid hown6; clear hrun6 hw4 hown6 hg6 hT9))
            all_goals
              have hg13 : W3.grownBy w6 (some g) := grownBy_trans hg5 hg46 (fun i e => .inl e)
              refine ‹∀ (a' : Act) (w' : World), Handed _ _ a' w' → _› _ _ ?_
              gi_roundg (stepsT (told false h' kids' :: rest :: fs))
              case measure => have := told_size false h' kids'; simp [stepsT, TrF.size]; omega
              case rel => exact allInv_nextT (cap2 := cap2) hvl' hall hst2 hbl hs3 hgc3 hgb hz hj3 hJ hg13 rfl HT9.out hrr rfl (by simp [hvl']) rfl Hown6.out Hlen.out HBi.out HSp2.out
        · gi_wp2
          refine bodyPost_ret (results_none rfl _ _ _) rfl ?_
          exact ⟨⟨_, rfl⟩, .inr ⟨_, hgood, hjx⟩⟩
end Go.Proofs.Ythogiakfbgehnaa

namespace Go.Proofs.Ythogiakfbgehnaa
open Go.RowKit Go.Shelf

attribute [local go_sem] Oper.semAt_some

set_option maxRecDepth 100000 in
set_option maxHeartbeats 400000 in
theorem all_anyT (fn : Nat) (v : Array Value) (hv : v.size = 4) (w : World) :
    Calls Try.prog 104 #[.agg v, inVT fn] w fun e w' => e = .returned (.func (.func 143) #[] #[.pointer (some ⟨w.heap.size, 0, none⟩), .pointer (some ⟨w.heap.size + 1, 0, none⟩)]) ∧ w' = (w.alloc (.cells v 51)).alloc (.cells #[inVT fn] 135) := by
  obtain ⟨l⟩ := v
  obtain ⟨x0, x1, x2, x3, rfl⟩ : ∃ x0 x1 x2 x3, l = [x0, x1, x2, x3] := by
    match l, hv with
    | [x0, x1, x2, x3], _ => exact ⟨_, _, _, _, rfl⟩
  go_enter Try.func104, Try.ntmps104
  go_wp2
  go_ret
  exact ⟨rfl, rfl⟩

theorem all_walksK (w0 w : World) (Bs Bi : Nat) (h : TrH) (kids : TrF) (ka : Option Addr) (kcap : Nat) (hk : TrS w0 (fun _ => True) ka kcap kids) (hW0 : Below w0.heap.size w0 w) (hN : kids.size ≤ 1099511627776)
    (c0 : w.cell? ⟨Bs, 0, none⟩ = some (.int .i64 h.k)) (c1 : w.cell? ⟨Bs, 1, none⟩ = some (.int .i64 h.i)) (c2 : w.cell? ⟨Bs, 2, none⟩ = some (.int .i64 h.a)) (c3 : w.cell? ⟨Bs, 3, none⟩ = some (.slice ka kids.len kcap))
    (hi0 : w.heap[Bi]? = some (.cells #[inVT 105] 135 (0, 0))) :
    Walks Try.prog 143 #[.pointer (some ⟨Bs, 0, none⟩), .pointer (some ⟨Bi, 0, none⟩)] encsT (GoodT w0 (TrF.pre false 1 (.cons h kids .nil))) (FullT (TrF.pre false 1 (.cons h kids .nil))) w0.heap.size itTT w := by
  intro l J Jx W hW hJ hJx hY h0
  have hB : Bs < w.heap.size := World.block_lt_of_cell? w _ c0
  have hc : ∀ o, W.cell? ⟨Bs, o, none⟩ = w.cell? ⟨Bs, o, none⟩ := fun o => hW.cell (p := ⟨Bs, o, none⟩) hB
  exact all1_inK w0 W Bs Bi h kids ka kcap hk (hW0.trans (hW.mono hW0.size)) hN ((hc 0).trans c0) ((hc 1).trans c1) ((hc 2).trans c2) ((hc 3).trans c3) ((hW.block Bi (Array.getElem?_eq_some_iff.1 hi0).1).trans hi0) l J Jx hJ hJx hY h0

theorem TrF.pre_size (f : TrF) : ∀ d, (f.pre false d).length = f.size := by
  induction f with
  | nil => intro d; rfl
  | cons h kids rest ihk ihr =>
    intro d
    show (_ :: ((if false && decide (0 ≤ h.k) then [] else kids.pre false (d + 1)) ++ rest.pre false d)).length = kids.size + rest.size + 1
    have h1 := ihk (d + 1)
    have h2 := ihr d
    rw [List.length_cons, List.length_append, if_neg (by simp)]
    omega
/-- Between two rounds: so many came. -/
def SizI (w : World) (pre : List NxT) (W : World) : Prop := Below w.heap.size w W ∧ (Boxed W (w.heap.size + 1) 3 (.int .i64 (pre.length : Int)) ∧ pre.length ≤ 1099511627777)
set_option maxRecDepth 100000 in
set_option maxHeartbeats 4000000 in
theorem tsize_any (h : TrH) (kids : TrF) (a : Option Addr) (cap : Nat) (w : World) (hk : TrS w (fun _ => True) a cap kids) (hN : kids.size ≤ 1099511627776) :
    Calls Try.prog 58 #[treV h a kids.len cap] w fun e w' => e = .returned (.int .i64 ((kids.size + 1 : Nat) : Int)) ∧ Below w.heap.size w w' := by
  refine (callsIn_wide (n := 0)).1 ?_
  refine callsIn_of_wp_marks Try.func58 rfl trivial ?_ rfl
  simp only [Try.ntmps58, List.size_toArray, List.length_cons, List.length_nil, Nat.reduceAdd, Nat.reduceSub, Array.replicate_succ, Array.replicate_zero, List.push_toArray, List.append_toArray, List.nil_append, List.cons_append]
  gi_wp2_with (fail)
  refine ⟨trivial, rfl, ((callsIn_wide (n := 0)).2 (all_anyT _ _ rfl _)).mono ?_⟩
  rintro e w' ⟨rfl, rfl⟩
  gi_wp2_with (fail)
  have hbel : Below w.heap.size w ((((w.alloc (.cells #[.int .i64 h.k, .int .i64 h.i, .int .i64 h.a, .slice a kids.len cap] 51)).alloc (.cells #[.int .i64 0] 3)).alloc (.cells #[.int .i64 h.k, .int .i64 h.i, .int .i64 h.a, .slice a kids.len cap] 51)).alloc (.cells #[inVT 105] 135)) := ((((Below.refl _ w).alloc (Nat.le_refl _) _).alloc (by simp) _).alloc (by simp; omega) _).alloc (by simp; omega) _
  have hB3 := (Blk.new ((w.alloc (.cells #[.int .i64 h.k, .int .i64 h.i, .int .i64 h.a, .slice a kids.len cap] 51)).alloc (.cells #[.int .i64 0] 3)) 51 #[.int .i64 h.k, .int .i64 h.i, .int .i64 h.a, .slice a kids.len cap]).alloc (.cells #[inVT 105] 135)
  have hBi := World.alloc_heap_new (((w.alloc (.cells #[.int .i64 h.k, .int .i64 h.i, .int .i64 h.a, .slice a kids.len cap] 51)).alloc (.cells #[.int .i64 0] 3)).alloc (.cells #[.int .i64 h.k, .int .i64 h.i, .int .i64 h.a, .slice a kids.len cap] 51)) (.cells #[inVT 105] 135)
  rw [World.size_alloc, World.size_alloc, World.size_alloc] at hBi
  have hb1 : Boxed ((((w.alloc (.cells #[.int .i64 h.k, .int .i64 h.i, .int .i64 h.a, .slice a kids.len cap] 51)).alloc (.cells #[.int .i64 0] 3)).alloc (.cells #[.int .i64 h.k, .int .i64 h.i, .int .i64 h.a, .slice a kids.len cap] 51)).alloc (.cells #[inVT 105] 135)) (w.heap.size + 1) 3 (.int .i64 0) := by
    have := (Boxed.new (w.alloc (.cells #[.int .i64 h.k, .int .i64 h.i, .int .i64 h.a, .slice a kids.len cap] 51)) 3 (.int .i64 0))
    rw [World.size_alloc] at this
    exact (this.alloc _).alloc _
  rw [World.size_alloc, World.size_alloc] at hB3
  have hws : (((((w.alloc (.cells #[.int .i64 h.k, .int .i64 h.i, .int .i64 h.a, .slice a kids.len cap] 51)).alloc (.cells #[.int .i64 0] 3)).alloc (.cells #[.int .i64 h.k, .int .i64 h.i, .int .i64 h.a, .slice a kids.len cap] 51)).alloc (.cells #[inVT 105] 135))).heap.size = w.heap.size + 1 + 1 + 1 + 1 := by simp
  generalize ((((w.alloc (.cells #[.int .i64 h.k, .int .i64 h.i, .int .i64 h.a, .slice a kids.len cap] 51)).alloc (.cells #[.int .i64 0] 3)).alloc (.cells #[.int .i64 h.k, .int .i64 h.i, .int .i64 h.a, .slice a kids.len cap] 51)).alloc (.cells #[inVT 105] 135)) = wl at hbel hB3 hBi hb1 hws ⊢
  have Hws := Lib.hid hws
  clear hws
  refine range_law (T := itTT) (n₀ := w.heap.size) (encs := encsT) (Good := GoodT w (TrF.pre false 1 (.cons h kids .nil))) (Full := FullT (TrF.pre false 1 (.cons h kids .nil))) (gf := 143) (lb := #[.pointer (some ⟨w.heap.size + 1 + 1, 0, none⟩), .pointer (some ⟨w.heap.size + 1 + 1 + 1, 0, none⟩)]) rfl (enters_of Try.func143 (by kernel_rfl) rfl)
    hbel.size (all_walksK w wl (w.heap.size + 1 + 1) (w.heap.size + 1 + 1 + 1) h kids a cap hk hbel hN (hB3.cell 0) (hB3.cell 1) (hB3.cell 2) (hB3.cell 3) hBi) (fun _ => rfl)
    (SizI w) (fun _ _ => False)
    ?bI ?bIx ?h0 ?round ?done ?stop
  case bI => exact (bears_below hbel.size (Nat.le_refl _)).and ((bears_boxed _ _ _ (by decide) _).and (bears_pure _ _ _))
  case bIx => exact bears_pure _ _ _
  case h0 => exact ⟨hbel, hb1, Nat.zero_le _⟩
  case round =>
    rintro l pre ⟨⟨d, hd, len⟩, xa, xcap⟩ W hl ⟨r, hr⟩ hI hgood
    obtain ⟨hB, h1, h2⟩ := hI
    have hle : pre.length + 1 ≤ 1099511627777 := by
      obtain ⟨⟨q, hq⟩, -⟩ := hgood
      have h8 := congrArg List.length hq
      rw [TrF.pre_size, List.length_append, List.length_map, List.length_append] at h8
      simp only [List.length_singleton, TrF.size] at h8
      omega
    dsimp only [encsT]
    have hws : w.heap.size + 3 ≤ wl.heap.size := by have := Hws.out; omega
    have hlW : l < W.heap.size := (Array.getElem?_eq_some_iff.1 hr).1
    gi_wp2_with (fail)
    refine ⟨KeepsFrom.of_grownBy (row := none) (show W.grownBy W none from ⟨rfl, rfl, rfl, Nat.le_refl _, fun _ _ _ => rfl⟩) (fun r e => by cases e), Spares.refl _ _ _, fun W2 hg2 => ?_⟩
    have hb2 := h1.kept hg2 (by simp; omega)
    have hB2 : Below w.heap.size w W2 := hB.grown hg2 hB.size (fun k e => by cases e; omega)
    have k1 := hb2.cell
    have f1 := hb2.frozen
    have hw1 : IntKind.i64.wrap ((pre.length : Int) + 1) = (pre.length : Int) + 1 := IntWalk.i64_in _ (by omega)
    have hg4 := grownBy_set W2 (w.heap.size + 1) 0 (.int .i64 ((pre.length : Int) + 1))
    have hc4 := hb2.set (.int .i64 ((pre.length : Int) + 1))
    have HF : KeepsFrom wl.heap.size W2 (W2.setCell ⟨w.heap.size + 1, 0, none⟩ (.int .i64 ((pre.length : Int) + 1))) ∧ Spares w.heap.size itTT W2 (W2.setCell ⟨w.heap.size + 1, 0, none⟩ (.int .i64 ((pre.length : Int) + 1))) ∧ SizI w (pre ++ [⟨⟨d, hd, len⟩, xa, xcap⟩]) (W2.setCell ⟨w.heap.size + 1, 0, none⟩ (.int .i64 ((pre.length : Int) + 1))) :=
      ⟨(KeepsOthers.setCell W2 _ _).from _, Spares.grown hg4 hB2.size (fun r e => by cases e; exact ⟨by omega, fun cs t fr hcs => by rw [show W2.heap[w.heap.size + 1]? = _ from hb2] at hcs; cases hcs; decide⟩), hB2.setCell (p := ⟨w.heap.size + 1, 0, none⟩) (by simp) _, by rw [List.length_append, List.length_singleton, show (((pre.length + 1 : Nat)) : Int) = (pre.length : Int) + 1 by omega]; exact hc4, by rw [List.length_append]; exact hle⟩
    have HF := Lib.hid HF
    clear hb2 h1 hg2 hr hB hlW hg4 hc4
    gi_wp2_with (fail)
    exact HF.out
  case done =>
    rintro D xs W hD hfull hI hK
    obtain ⟨hB, h1, h2⟩ := hI
    have hws : w.heap.size + 3 ≤ wl.heap.size := by have := Hws.out; omega
    have hlen : xs.length = kids.size + 1 := by
      have h8 := congrArg List.length (show xs.map (·.nd) = _ from hfull)
      rw [TrF.pre_size, List.length_map] at h8
      simp only [TrF.size] at h8
      omega
    rw [hlen] at h1
    have k1 := h1.cell
    have f1 := h1.frozen
    clear hfull
    gi_wp2
    refine ⟨by simp, .inl ⟨_, _, rfl, run_takeDeferred hK, ?_⟩⟩
    refine ⟨.int .i64 ((kids.size + 1 : Nat) : Int), ?_, rfl, ?_⟩
    · simp [results, Try.f58, go_sem]
    · exact hB.trans ((Below.refl w.heap.size _).grown (grownBy_putObj' _ D (.deferred none)) hB.size (fun k e => by cases e; omega))
  case stop =>
    rintro D pre W hD hgood hI hK
    exact hI.elim
end Go.Proofs.Ythogiakfbgehnaa

namespace Go.Proofs.Ythogiakfbgehnaa
open Go.RowKit Go.Shelf

attribute [local go_sem] Oper.semAt_some

theorem all_walksD (w0 w : World) (Bs Bi : Nat) (h : TrH) (kids : TrF) (ka : Option Addr) (kcap : Nat) (hk : TrS w0 (fun _ => True) ka kcap kids) (hW0 : Below w0.heap.size w0 w) (hN : kids.size ≤ 1099511627776)
    (c0 : w.cell? ⟨Bs, 0, none⟩ = some (.int .i64 h.k)) (c1 : w.cell? ⟨Bs, 1, none⟩ = some (.int .i64 h.i)) (c2 : w.cell? ⟨Bs, 2, none⟩ = some (.int .i64 h.a)) (c3 : w.cell? ⟨Bs, 3, none⟩ = some (.slice ka kids.len kcap))
    (hi0 : w.heap[Bi]? = some (.cells #[inVT 131] 135 (0, 0))) :
    Walks Try.prog 143 #[.pointer (some ⟨Bs, 0, none⟩), .pointer (some ⟨Bi, 0, none⟩)] encsT (GoodT w0 (TrF.pre true 1 (.cons h kids .nil))) (FullT (TrF.pre true 1 (.cons h kids .nil))) w0.heap.size itTT w := by
  intro l J Jx W hW hJ hJx hY h0
  have hB : Bs < w.heap.size := World.block_lt_of_cell? w _ c0
  have hc : ∀ o, W.cell? ⟨Bs, o, none⟩ = w.cell? ⟨Bs, o, none⟩ := fun o => hW.cell (p := ⟨Bs, o, none⟩) hB
  exact all1_inD w0 W Bs Bi h kids ka kcap hk (hW0.trans (hW.mono hW0.size)) hN ((hc 0).trans c0) ((hc 1).trans c1) ((hc 2).trans c2) ((hc 3).trans c3) ((hW.block Bi (Array.getElem?_eq_some_iff.1 hi0).1).trans hi0) l J Jx hJ hJx hY h0

/-- What derived returns. -/
abbrev derV (w : World) : Value := .func (.func 143) #[] #[.pointer (some ⟨w.heap.size + 1, 0, none⟩), .pointer (some ⟨w.heap.size + 1 + 1, 0, none⟩)]
/-- And where it leaves the world. -/
def derW (w : World) (h : TrH) (a : Option Addr) (n cap : Nat) : World := (((w.alloc (.cells #[.int .i64 h.k, .int .i64 h.i, .int .i64 h.a, .slice a n cap] 51)).alloc (.cells #[.int .i64 h.k, .int .i64 h.i, .int .i64 h.a, .slice a n cap] 51)).alloc (.cells #[inVT 131] 135))
set_option maxRecDepth 100000 in
set_option maxHeartbeats 1000000 in
theorem derived_any (h : TrH) (a : Option Addr) (n cap : Nat) (w : World) :
    Calls Try.prog 95 #[treV h a n cap] w fun e w' => e = .returned (derV w) ∧ w' = derW w h a n cap := by
  obtain ⟨hk, hi, ha⟩ := h
  have HA := Lib.hid (fun (l : List Value) (hl : l.length = 4) V => all_anyT 131 ⟨l⟩ hl V)
  go_enter Try.func95, Try.ntmps95
  go_wp2_with (fail)
  refine (HA.out _ rfl _).mono ?_
  rintro e9 w9 ⟨rfl, rfl⟩
  go_wp2_with (fail)
  go_ret
  exact ⟨by simp [derV], rfl⟩
/-- A token of a node. -/
def ndY (x : NdT) : Option Int := if 0 ≤ x.h.k then some x.h.k else none
/-- A step of a node. -/
def ndS (x : NdT) : Option Int := if 0 ≤ x.h.k then none else some x.h.i
theorem pre_yt (f : TrF) : ∀ d, (f.pre true d).filterMap ndY = f.yt := by
  induction f with
  | nil => intro d; rfl
  | cons h kids rest ihk ihr =>
    intro d
    show List.filterMap ndY (⟨d, h, kids⟩ :: ((if true && decide (0 ≤ h.k) then [] else kids.pre true (d + 1)) ++ rest.pre true d)) = _
    by_cases h0 : 0 ≤ h.k
    · simp [ndY, h0, TrF.yt, ihr, List.filterMap_cons]
    · simp [ndY, h0, TrF.yt, List.filterMap_cons, List.filterMap_append]
      exact congr (congrArg _ (ihk (d + 1))) (ihr d)
theorem pre_st (f : TrF) : ∀ d, (f.pre true d).filterMap ndS = f.st := by
  induction f with
  | nil => intro d; rfl
  | cons h kids rest ihk ihr =>
    intro d
    show List.filterMap ndS (⟨d, h, kids⟩ :: ((if true && decide (0 ≤ h.k) then [] else kids.pre true (d + 1)) ++ rest.pre true d)) = _
    by_cases h0 : 0 ≤ h.k
    · simp [ndS, h0, TrF.st, ihr, List.filterMap_cons]
    · simp [ndS, h0, TrF.st, List.filterMap_cons, List.filterMap_append]
      exact congr (congrArg _ (ihk (d + 1))) (ihr d)
end Go.Proofs.Ythogiakfbgehnaa

namespace Go.Proofs.Ythogiakfbgehnaa
open Go.RowKit Go.Shelf

attribute [local go_sem] Oper.semAt_some

/-- The symbols of trees in a row. -/
def TrF.ks : TrF → List Int
  | .nil => []
  | .cons h _ rest => h.k :: rest.ks
theorem TrF.ks_len (f : TrF) : f.ks.length = f.len := by
  induction f with
  | nil => rfl
  | cons h kids rest _ ih => show rest.ks.length + 1 = rest.len + 1; rw [ih]
set_option maxRecDepth 100000 in
set_option maxHeartbeats 1000000 in
theorem symIs_any (h : TrH) (a : Option Addr) (n c : Nat) (x : Int) (w : World) :
    Calls Try.prog 134 #[treV h a n c, .int .i64 x] w fun e W => e = .returned (.bool (decide (h.k = x))) ∧ Below w.heap.size w W := by
  obtain ⟨hk, hn, hs⟩ := h
  have hB := Blk.new w 51 #[.int .i64 hk, .int .i64 hn, .int .i64 hs, .slice a n c]
  have hb : Below w.heap.size w (w.alloc (.cells #[.int .i64 hk, .int .i64 hn, .int .i64 hs, .slice a n c] 51)) := (Below.refl _ _).alloc (Nat.le_refl _) _
  have x0 := hB.cell 0
  have xl := hB.lt
  simp only [List.getElem?_cons_zero] at x0
  have HF := Lib.hid hb
  clear hB hb
  show Calls Try.prog 134 _ w (fun e W => e = .returned (.bool (decide (hk = x))) ∧ _)
  by_cases h0 : hk = x
  · have e0 : decide (hk = x) = true := decide_eq_true h0
    rw [e0]
    subst h0
    clear e0
    go_enter Try.func134, Try.ntmps134
    go_wp2_with (fail)
    first | exact ⟨rfl, HF.out⟩ | exact bodyPost_ret (v := .bool true) (by simp [results, Try.results134, go_sem]; try first | rfl | assumption | omega) rfl ⟨rfl, HF.out⟩
  · have e0 : decide (hk = x) = false := decide_eq_false h0
    rw [e0]
    have hne : (hk == x) = false := by rw [beq_eq_false_iff_ne]; exact h0
    clear e0
    go_enter Try.func134, Try.ntmps134
    go_wp2_with (fail)
    first | exact ⟨rfl, HF.out⟩ | exact bodyPost_ret (v := .bool false) (by simp [results, Try.results134, go_sem]; try first | rfl | assumption | omega) rfl ⟨rfl, HF.out⟩
set_option maxRecDepth 100000 in
set_option maxHeartbeats 4000000 in
theorem eqKids_any (kids : TrF) (a : Option Addr) (cap : Nat) (l : List Int) (b : Option Addr) (bc : Nat) (w : World) (hk : TrS w (fun _ => True) a cap kids) (hl : Ints w b bc l) :
    Calls Try.prog 133 #[.slice a kids.len cap, .slice b l.length bc, inVT 134] w fun e w' => e = .returned (.bool (decide (kids.ks = l))) ∧ Below w.heap.size w w' := by
  have hlm : kids.len ≤ cap ∧ cap ≤ 9223372036854775807 := ⟨hk.le, hk.max⟩
  have hlm2 : l.length ≤ bc ∧ bc ≤ 9223372036854775807 := ⟨by have := hl.le; rwa [List.length_map] at this, hl.max⟩
  have hkl := TrF.ks_len kids
  obtain ⟨L, HL⟩ : ∃ L, Hid (kids.len = L) := ⟨_, Lib.hid rfl⟩
  obtain ⟨M, HM⟩ : ∃ L, Hid (l.length = L) := ⟨_, Lib.hid rfl⟩
  rw [HL.out] at hlm hkl ⊢
  rw [HM.out] at hlm2 ⊢
  have Hkl := Lib.hid hkl
  clear hkl
  obtain ⟨R, hR⟩ : ∃ R, Hid (decide (kids.ks = l) = R) := ⟨_, Lib.hid rfl⟩
  rw [hR.out]
  have Hk := Lib.hid hk
  have Hl := Lib.hid hl
  clear hk hl
  by_cases hLM : L = M
  · subst hLM
    go_enter Try.func133, Try.ntmps133
    go_wp2_with (fail)
    go_loopw [17] (fun i wr => ∃ (k : Nat), k ≤ L ∧ i = .int .i64 (k : Int) ∧ Hid (kids.ks = l ↔ (kids.drop k).ks = l.drop k) ∧ Below w.heap.size w wr) (fun i _ => L - (intOf i).toNat)
    case atStart => exact ⟨0, by omega, rfl, Lib.hid Iff.rfl, Below.refl _ w⟩
    case round =>
      obtain ⟨k, hk, rfl, HR, hbr⟩ := hrel
      by_cases hlt : k < L
      · have hkm : k < l.length := by rw [HM.out]; exact hlt
        have hkI : (k : Int) < (L : Int) := by omega
        have hkI0 : (0 : Int) ≤ (k : Int) := by omega
        obtain ⟨b1, off, hd, ks, xa, xcap, rfl, hat⟩ := (Hk.out.grown hbr).at (k := k) (by rw [HL.out]; exact hlt)
        have hlW := Hl.out.grown hbr
        obtain ⟨b2, o2, rfl⟩ := hlW.at_ k (by rw [List.length_map]; exact hkm)
        have d0 := hlW.cell b2 o2 rfl k (by rw [List.length_map]; exact hkm)
        rw [List.getElem_map] at d0
        obtain ⟨x, HX⟩ : ∃ x, Hid (l[k] = x) := ⟨_, Lib.hid rfl⟩
        rw [HX.out] at d0
        obtain ⟨x0, x1, x2, x3, hIk, hc1⟩ := hat
        have hst : Hid ((kids.drop k).ks = l.drop k ↔ hd.k = x ∧ (kids.drop (k + 1)).ks = l.drop (k + 1)) := Lib.hid (by
          rw [hc1, List.drop_eq_getElem_cons hkm, HX.out]
          show hd.k :: (kids.drop (k + 1)).ks = x :: l.drop (k + 1) ↔ _
          rw [List.cons.injEq]
          )
        clear hc1 hlW
        have hbl := World.block_lt_of_cell? _ _ x0
        have hbl2 := World.block_lt_of_cell? _ _ d0
        have HC := Lib.hid (fun V => symIs_any hd xa ks.len xcap x V)
        have hmx := hIk.le
        have hmx2 := hIk.max
        clear hIk
        obtain ⟨KL, HKL⟩ : ∃ q, Hid (ks.len = q) := ⟨_, Lib.hid rfl⟩
        rw [HKL.out] at x3 HC hmx
        obtain ⟨hhk, hhi, hha⟩ := hd
        dsimp only at x0 x1 x2 hst
        have HS := Lib.hid (show decide (hhk = x) = decide (hhk = x) from rfl)
        have Hbr := Lib.hid hbr
        clear hbr
        go_wp2_with (fail)
        refine (HC.out _).mono ?_
        rintro r w3 ⟨rfl, hb3⟩
        dsimp only
        have hba : Below w.heap.size w (wr.alloc (.cells #[.int .i64 hhk, .int .i64 hhi, .int .i64 hha, .slice xa KL xcap] 51)) := Hbr.out.alloc Hbr.out.size _
        have hb4 := hba.trans (hb3.mono hba.size)
        clear hba hb3
        by_cases h0 : hhk = x
        · have e0 : decide (hhk = x) = true := decide_eq_true h0
          have HR2 : Hid (kids.ks = l ↔ (kids.drop (k + 1)).ks = l.drop (k + 1)) := Lib.hid (HR.out.trans (hst.out.trans ⟨fun h => h.2, fun h => ⟨h0, h⟩⟩))
          rw [e0]
          clear e0 h0
          go_wp2_with (fail)
          exact ⟨⟨k + 1, by omega, by simp, HR2, hb4⟩, by simp [intOf]; omega⟩
        · have e0 : decide (hhk = x) = false := decide_eq_false h0
          have hF : Hid (R = false) := Lib.hid (by
            rw [← hR.out]
            exact decide_eq_false (fun e => h0 (hst.out.1 (HR.out.1 e)).1))
          rw [e0]
          clear e0 h0
          go_wp2_with (fail)
          exact bodyPost_ret (v := .bool false) (by simp [results, Try.results133, go_sem]; try first | rfl | assumption | omega) rfl ⟨by rw [hF.out], hb4⟩
      · obtain rfl : k = L := by omega
        have hT : Hid (R = true) := Lib.hid (by
          rw [← hR.out]
          refine decide_eq_true (HR.out.2 ?_)
          rw [TrF.drop_all (by rw [HL.out]; exact Nat.le_refl _), List.drop_of_length_le (by rw [HM.out]; exact Nat.le_refl _)]
          rfl)
        go_wp2_with (fail)
        exact bodyPost_ret (v := .bool true) (by simp [results, Try.results133, go_sem]; try first | rfl | assumption | omega) rfl ⟨by rw [hT.out], hbr⟩
  · have hF : Hid (R = false) := Lib.hid (by
      rw [← hR.out]
      exact decide_eq_false (fun e => hLM (by have := congrArg List.length e; rw [Hkl.out, HM.out] at this; exact this)))
    have hne : ((L : Int) == (M : Int)) = false := by rw [beq_eq_false_iff_ne]; omega
    go_enter Try.func133, Try.ntmps133
    go_wp2_with (fail)
    all_goals first
      | exact bodyPost_ret (v := .bool false) (by simp [results, Try.results133, go_sem]; try first | rfl | assumption | omega) rfl ⟨by rw [hF.out], Below.refl _ w⟩
      | (exfalso; omega)
end Go.Proofs.Ythogiakfbgehnaa

