/- Texts of layer 2 joined: Hj. -/
import Derived.Test.YtpbceejjkdmclaaJH8
set_option linter.unusedVariables false
set_option linter.unusedSimpArgs false
/- Layer 3: Run. -/
namespace Go.Proofs.Ytpbceejjkdmclaa
open Go.RowKit Go.Shelf Go.Maps

attribute [local go_sem] Oper.semAt_some

theorem dlenN (s : ByteArray) : s.data.toList.length = s.size := by rw [Array.length_toList]; rfl
/-- Where a text leads from closed states. -/
def RcS (x : Nf) : List UInt8 → (Nat → Prop) → Nat → Prop
  | [], S => S
  | c :: r, S => RcS x r (Rn x (fun b => ∃ a, S a ∧ bstep x c.toNat a b))
/-- Where a text leads from Start. -/
def Rc (x : Nf) (s : List UInt8) : Nat → Prop := RcS x s (Rn x (fun a => (a : Int) = x.s))
theorem RcS.congr {x : Nf} : ∀ (r : List UInt8) {S T : Nat → Prop}, (∀ a, S a ↔ T a) → ∀ a, RcS x r S a ↔ RcS x r T a
  | [], _, _, h => h
  | c :: r, S, T, h => RcS.congr r (Rn.congr (fun b => ⟨fun ⟨a, h1, h2⟩ => ⟨a, (h a).1 h1, h2⟩, fun ⟨a, h1, h2⟩ => ⟨a, (h a).2 h1, h2⟩⟩))
theorem Rn.none {x : Nf} {S : Nat → Prop} (h : ∀ a, ¬ S a) : ∀ a, ¬ Rn x S a := fun a ha => by
  have : ∀ {a}, Rn x S a → False := fun {a} h' => by
    induction h' with
    | base h1 => exact h _ h1
    | step _ _ ih => exact ih
  exact this ha
theorem RcS.none {x : Nf} : ∀ (r : List UInt8) {S : Nat → Prop}, (∀ a, ¬ S a) → ∀ a, ¬ RcS x r S a
  | [], _, h => h
  | c :: r, S, h => RcS.none r (Rn.none (fun b ⟨a, h1, _⟩ => h a h1))
open Classical in
/-- Which ends a text leads to. -/
noncomputable def runP (x : Nf) (s : List UInt8) : List Nat := (List.range x.ends.length).filter (fun i => decide (∃ a : Nat, Rc x s a ∧ x.ends[i]? = some (a : Int)))
open Classical in
theorem filter_snoc (p : Nat → Prop) (k : Nat) : (List.range (k + 1)).filter (fun i => decide (p i)) = (List.range k).filter (fun i => decide (p i)) ++ (if p k then [k] else []) := by
  rw [List.range_succ, List.filter_append]
  congr 1
  by_cases h : p k <;> simp [h]
theorem link_ends2 {x : Nf} (h : linkB x = true) {i : Nat} (hi : i < x.ends.length) : ∃ a : Nat, x.ends[i] = (a : Int) ∧ a < x.n.toNat := by
  unfold linkB at h
  simp only [Bool.and_eq_true, List.all_eq_true] at h
  have := h.1.2 _ (List.getElem_mem hi)
  unfold stB at this
  simp only [Bool.and_eq_true, decide_eq_true_eq] at this
  exact ⟨x.ends[i].toNat, by omega, by omega⟩
theorem link_start {x : Nf} (h : linkB x = true) : ∃ a : Nat, x.s = (a : Int) ∧ a < x.n.toNat := by
  unfold linkB stB at h
  simp only [Bool.and_eq_true, decide_eq_true_eq] at h
  exact ⟨x.s.toNat, by omega, by omega⟩

open Classical in
set_option maxRecDepth 100000 in
set_option maxHeartbeats 4000000 in
theorem run_any (x : Nf) (p : NfL) (s : ByteArray) (w : World) (hx : NfAt w x p) (hl : linkB x = true) (hM : x.es.length ≤ 500000) (hE : x.ends.length ≤ 1000000000) (hs : s.size ≤ 900000000) :
    Calls Try.prog 23 #[.agg #[.int .i64 x.n, .int .i64 x.s, .slice p.ea x.ends.length p.ec, .slice p.ga x.es.length p.gc], .string s] w fun e w' => ∃ oa oc, e = .returned (.slice oa (runP x s.data.toList).length oc) ∧ IntsN w' oa oc (runP x s.data.toList) ∧ Below w.heap.size w w' := by
  obtain ⟨ea, ec, ga, gc⟩ := p
  obtain ⟨st0, hs0, hs0l⟩ := link_start hl
  have hlm : x.ends.length ≤ ec ∧ ec ≤ 9223372036854775807 := ⟨hx.ends.le, hx.ends.max⟩
  have hlm2 : x.es.length ≤ gc ∧ gc ≤ 9223372036854775807 := ⟨hx.es.le, hx.es.max⟩
  dsimp only at *
  have hA0 := Blk.new w 25 #[.int .i64 x.n, .int .i64 x.s, .slice ea x.ends.length ec, .slice ga x.es.length gc]
  have hb0 : Below w.heap.size w (w.alloc (.cells #[.int .i64 x.n, .int .i64 x.s, .slice ea x.ends.length ec, .slice ga x.es.length gc] 25)) := (Below.refl _ w).alloc (Nat.le_refl _) _
  have HX := Lib.hid hl
  have Hx := Lib.hid hx
  have Hs0 := Lib.hid hs0
  have HS0 : Hid (∀ a, RcS x s.data.toList (Rn x (fun a => (a : Int) = x.s)) a ↔ RcS x s.data.toList (Rn x (· ∈ [st0])) a) := Lib.hid (RcS.congr _ (Rn.congr (fun a => by rw [List.mem_singleton, hs0]; omega)))
  clear hs0
  obtain ⟨R, hR⟩ : ∃ R, Hid (runP x s.data.toList = R) := ⟨_, Lib.hid rfl⟩
  rw [hR.out]
  have Hlk := Lib.hid (linked_any x ⟨ea, ec, ga, gc⟩ _ (hx.grown hb0))
  rw [hl] at Hlk
  clear hx hl
  dsimp only at Hlk
  obtain ⟨E, hEE⟩ : ∃ E, Hid (x.ends.length = E) := ⟨_, Lib.hid rfl⟩
  obtain ⟨M, hMM⟩ : ∃ E, Hid (x.es.length = E) := ⟨_, Lib.hid rfl⟩
  have HM0 := Lib.hid hM
  rw [hEE.out] at hlm hA0 hb0 Hlk ⊢
  rw [hMM.out] at hlm2 hA0 hb0 Hlk hM ⊢
  rw [hEE.out] at hE
  obtain ⟨W0, hW0⟩ : ∃ W, Hid (w.alloc (.cells #[.int .i64 x.n, .int .i64 x.s, .slice ea E ec, .slice ga M gc] 25) = W) := ⟨_, Lib.hid rfl⟩
  rw [hW0.out] at hA0 hb0 Hlk
  have x0 := hA0.cell 0
  have x1 := hA0.cell 1
  have x2 := hA0.cell 2
  have x3 := hA0.cell 3
  have xl := hA0.lt
  simp only [List.getElem?_cons_zero, List.getElem?_cons_succ] at x0 x1 x2 x3
  go_enter Try.func23, Try.ntmps23
  go_wp2_with (fail)
  rw [hW0.out]
  refine Hlk.out.mono ?_
  rintro e w1 ⟨rfl, hb1⟩
  have hA1 := hA0.below hb1 hA0.lt
  have hb01 := hb0.trans (hb1.mono hb0.size)
  have hx1 := Hx.out.grown hb01
  have HB1 := Lib.hid hb01
  have Hc := Lib.hid (newWalker_any x ⟨ea, ec, ga, gc⟩ w1 hx1 HX.out (by rw [hMM.out]; omega))
  dsimp only at Hc
  rw [hEE.out, hMM.out] at Hc
  clear x0 x1 x2 x3 xl hA0 hb0 hb1 hx1
  have x0 := hA1.cell 0
  have x1 := hA1.cell 1
  have x2 := hA1.cell 2
  have x3 := hA1.cell 3
  have xl := hA1.lt
  simp only [List.getElem?_cons_zero, List.getElem?_cons_succ] at x0 x1 x2 x3
  go_wp2_with (fail)
  refine Hc.out.mono ?_
  rintro e w2 ⟨wb, rfl, L, hW2⟩
  have HBel := Lib.hid (hb01.trans (hW2.bel.mono hb01.size))
  have hA2 := hA1.below hW2.bel hA1.lt
  have hbA : ¬ w.heap.size = wb := by have := hW2.own.1; omega
  have hwA : w.heap.size < w1.heap.size := hA1.lt
  clear x0 x1 x2 x3 xl hA1 hb01
  have x0 := hA2.cell 0
  have x1 := hA2.cell 1
  have x2 := hA2.cell 2
  have x3 := hA2.cell 3
  have xl := hA2.lt
  simp only [List.getElem?_cons_zero, List.getElem?_cons_succ] at x0 x1 x2 x3
  have hI0 : IntsN (w2.alloc (.cells #[.int .i64 x.s] 3)) (some ⟨w2.heap.size, 0, none⟩) 1 [st0] := by
    refine ⟨by simp, by omega, fun e => (by cases e), fun i hi => ⟨_, _, rfl⟩, fun b off e i hi => ?_⟩
    cases e
    obtain rfl : i = 0 := by simp at hi; omega
    have := (Blk.new w2 3 #[.int .i64 x.s]).cell 0
    rw [Hs0.out] at this ⊢
    exact this
  have hWn := hW2.keptK (kps_alloc w2 (.cells #[.int .i64 x.s] 3)) (fun _ h => h.elim) id id id id
  have hwl := hW2.box.lt
  have Hc2 := Lib.hid (closed_any w1 _ wb x ⟨ea, ec, ga, gc⟩ L 0 0 (fun _ => 0) (some ⟨w2.heap.size, 0, none⟩) 1 [st0] hWn HX.out (by rw [hMM.out]; omega) hI0 (fun b off e _ => by cases e; omega) (fun a ha => by rw [List.mem_singleton.1 ha]; exact hs0l) (fun a => Int.le_refl _) (by omega) (by omega))
  have HA2 := Lib.hid (hA2.alloc (.cells #[.int .i64 x.s] 3))
  have hz2 := hW2.bel.size
  clear hI0 hWn hW2 hA2
  go_wp2_with (fail)
  refine Hc2.out.mono ?_
  rintro e w3 ⟨oa0, oc0, out0, rfl, ho0, mn0, m0, hW3, hT3, hi3, hk3⟩
  have HA3 : Hid (Blk w3 w.heap.size 25 [.int .i64 x.n, .int .i64 x.s, .slice ea E ec, .slice ga M gc]) := Lib.hid (hk3.blk HA2.out (fun e => by
    rcases e with e | e
    · exact hbA e
    · have := hW3.own; omega))
  have HW3 := Lib.hid hW3
  have HT3 := Lib.hid hT3
  have Hi3 : Hid (∀ a, RcS x s.data.toList (· ∈ out0) a ↔ Rc x s.data.toList a) := Lib.hid (fun a => ((RcS.congr _ hi3 a).trans (HS0.out a).symm))
  have HO3 := Lib.hid (ho0.weak (base' := w1.heap.size) (by simp; omega))
  clear ho0 hW3 hT3 hi3 hk3 HA2 x0 x1 x2 x3 xl HBel
  go_wp2_with (fail)
  go_loopw [6, 7] (fun sv iv wr => ∃ (k : Nat) (oa : Option Addr) (oc : Nat) (out : List Nat) (R mn : Nat) (m : Nat → Int), k ≤ s.size ∧ iv = .int .i64 (k : Int) ∧ sv = .slice oa out.length oc ∧ OwnI wr w1.heap.size oa out.length oc out ∧ WkAt w1 wr wb x ⟨ea, ec, ga, gc⟩ L (R : Int) mn m ∧ ((∀ a, m a = (R : Int) ↔ a ∈ out) ∧ (∀ a, m a ≤ (R : Int)) ∧ R = k + 1 ∧ mn ≤ 2000 * R) ∧ (out.Nodup ∧ ∀ a ∈ out, a < x.n.toNat) ∧ (∀ a, RcS x (s.data.toList.drop k) (· ∈ out) a ↔ Rc x s.data.toList a) ∧ Blk wr w.heap.size 25 [.int .i64 x.n, .int .i64 x.s, .slice ea E ec, .slice ga M gc]) (fun _ iv _ => s.size - (intOf iv).toNat)
  case atStart => exact ⟨0, oa0, oc0, out0, 1, mn0, m0, Nat.zero_le _, rfl, rfl, HO3.out, HW3.out, ⟨HT3.out.iff, HT3.out.le, rfl, by have := HT3.out.mn; have := (HT3.out.len HX.out).2; omega⟩, ⟨HT3.out.nd, HT3.out.lt⟩, Hi3.out, HA3.out⟩
  case round =>
    obtain ⟨k, oa, oc, out, R1, mn, m, hk, rfl, rfl, ho, hW, ⟨hmi, hml, rfl, hmn⟩, ⟨hnd, hlt0⟩, hrc, hA⟩ := hrel
    have HO := Lib.hid ho
    have HW := Lib.hid hW
    have Hmi := Lib.hid hmi
    have Hml := Lib.hid hml
    have Hnd := Lib.hid hnd
    have Hlt := Lib.hid hlt0
    have Hrc := Lib.hid hrc
    have HA := Lib.hid hA
    have hol := nodup_len _ _ hnd hlt0
    have hN2 := (link_n HX.out).2.1
    clear ho hW hmi hml hnd hlt0 hrc hA HO3 HW3 HT3 Hi3 HA3
    by_cases hcont : k < s.size ∧ 0 < out.length
    · obtain ⟨hlt, hpos⟩ := hcont
      have hkI : (k : Int) < (s.size : Int) := by omega
      have hpI : (0 : Int) < (out.length : Int) := by omega
      obtain ⟨c, hc⟩ : ∃ c, Hid (s[k] = c) := ⟨_, Lib.hid rfl⟩
      have hdr : Hid (s.data.toList.drop k = c :: s.data.toList.drop (k + 1)) := Lib.hid (by
        rw [List.drop_eq_getElem_cons (by rw [dlenN]; exact hlt), ← hc.out]; rfl)
      have Hst := Lib.hid (nstep_any w1 wr wb x ⟨ea, ec, ga, gc⟩ L (k + 1) mn m oa oc out c.toNat HW.out HX.out (by rw [hMM.out]; omega) (by rw [hMM.out]; exact Nat.le_trans (Nat.mul_le_mul (Nat.le_trans hol hN2) hM) (by omega)) HO.out.ints Hlt.out Hml.out (by omega) hmn c.toNat_lt)
      go_wp2_with (go_at_call 45; rw [hc.out]; (with_reducible refine Hst.out.mono ?_); rintro e w9 ⟨oa9, oc9, out9, rfl, ho9, hi9, hnd9, hlt9, mn9, m9, hW9, hmi9, hml9, hmn9, hk9⟩; have Ho9 := Lib.hid ho9; have Hi9 := Lib.hid hi9; have Hnd9 := Lib.hid hnd9; have Hlt9 := Lib.hid hlt9; have HW9 := Lib.hid hW9; have Hmi9 := Lib.hid hmi9; have Hml9 := Lib.hid hml9; have Hk9 := Lib.hid hk9; clear ho9 hi9 hnd9 hlt9 hW9 hmi9 hml9 hk9)
      refine ⟨⟨k + 1, oa9, oc9, out9, k + 1 + 1, mn9, m9, by omega, by simp, rfl, Ho9.out.weak (HW.out.bel.size), HW9.out, ⟨Hmi9.out, Hml9.out, rfl, by omega⟩, ⟨Hnd9.out, Hlt9.out⟩, fun a => ?_, Hk9.out.blk HA.out (fun e => by
        rcases e with e | e
        · exact hbA e
        · have := HW9.out.own; omega)⟩, by simp [intOf]; omega⟩
      rw [← Hrc.out a, hdr.out]
      exact RcS.congr _ Hi9.out a
    · have HFin : Hid (∀ a, a ∈ out ↔ Rc x s.data.toList a) := Lib.hid (fun a => by
        by_cases hks : k < s.size
        · have h0 : out = [] := List.length_eq_zero_iff.1 (by omega)
          subst h0
          rw [← Hrc.out a]
          exact ⟨fun h => absurd h (by simp), fun h => absurd h (RcS.none _ (by simp) a)⟩
        · have hd : s.data.toList.drop k = [] := List.drop_eq_nil_of_le (by rw [dlenN]; omega)
          have := Hrc.out a
          rw [hd] at this
          exact this)
      by_cases hks : k < s.size
      · have hkI : (k : Int) < (s.size : Int) := by omega
        have hpI : ¬ (0 : Int) < (out.length : Int) := by omega
        have HFin2 : Hid (∀ i (hi : i < x.ends.length) (a : Nat), x.ends[i] = (a : Int) → ((∃ b : Nat, Rc x s.data.toList b ∧ x.ends[i]? = some (b : Int)) ↔ a ∈ out)) := Lib.hid (fun i hi a ha => by
          rw [List.getElem?_eq_getElem hi, ha]
          constructor
          · rintro ⟨b, h1, h2⟩
            obtain rfl : a = b := by injection h2 with h2; omega
            exact (HFin.out a).2 h1
          · exact fun h => ⟨a, (HFin.out a).1 h, rfl⟩)
        have z2 := HA.out.cell 2
        have zl := HA.out.lt
        simp only [List.getElem?_cons_zero, List.getElem?_cons_succ] at z2
        have hsz : w1.heap.size ≤ wr.heap.size := HW.out.bel.size
        go_wp2_with (fail)
        obtain ⟨V, hV⟩ : ∃ V, Hid (wr = V) := ⟨_, Lib.hid rfl⟩
        rw [hV.out] at HO HW HA z2 zl hsz ⊢
        go_loopw [8, 9, 10, 41] (fun ov _ _ iv wr => ∃ (i : Nat) (oa : Option Addr) (oc : Nat) (l : List Nat), i ≤ E ∧ iv = .int .i64 (i : Int) ∧ ov = .slice oa l.length oc ∧ OwnI wr V.heap.size oa l.length oc l ∧ l.length ≤ i ∧ l = (List.range i).filter (fun i => decide (∃ a : Nat, Rc x s.data.toList a ∧ x.ends[i]? = some (a : Int))) ∧ Kps (fun _ => False) V wr) (fun _ _ _ iv _ => E - (intOf iv).toNat)
        case atStart => exact ⟨0, none, 0, [], Nat.zero_le _, rfl, rfl, World.ownsRow_nil _ _ _ _, Nat.le_refl _, rfl, Kps.refl _ _⟩
        case round =>
          obtain ⟨i, oa5, oc5, l, hi, rfl, rfl, ho5, hll, hlq, hk5⟩ := hrel
          have HO5 := Lib.hid ho5
          have Hlq := Lib.hid hlq
          have HK5 := Lib.hid hk5
          have HW5 := Lib.hid (HW.out.keptK hk5 (fun _ h => h.elim) id id id id)
          have HE5 := Lib.hid ((Hx.out.ends.grown HB1.out).grown (HW5.out.bel))
          clear ho5 hlq hk5 z2 zl
          by_cases hilt : i < E
          · have hiI : (i : Int) < (E : Int) := by omega
            have hiI0 : (0 : Int) ≤ (i : Int) := by omega
            have hil : i < x.ends.length := by rw [hEE.out]; exact hilt
            obtain ⟨b, off, rfl⟩ := HE5.out.at_ i hil
            have c0 := HE5.out.cell b off rfl i hil
            obtain ⟨st, hst, hstN⟩ := link_ends2 HX.out hil
            have HF3 := Lib.hid (HFin2.out i hil st hst)
            rw [hst] at c0
            have hbl := World.block_lt_of_cell? _ _ c0
            have hwfs : (Lit.int .i64 (st : Int)).wf = true := WalkArith.wf_i64 (by omega)
            obtain ⟨Vv, hVv⟩ : ∃ Vv, Hid (m st = Vv) := ⟨_, Lib.hid rfl⟩
            have hWd := HW5.out.keptK (kps_below (Below.refl _ wr).drew) (fun _ h => h.elim) id id id id
            obtain ⟨fb, nb, mb⟩ := L
            have HS13 : Hid ((wr.drew.cell? ⟨wb, 4, none⟩ = some (.map (some mb)) ∧ wr.drew.cell? ⟨wb, 3, none⟩ = some (.int .i64 ((k + 1 : Nat) : Int)) ∧ (Instr.lookup 72 (.map (some mb)) (.int .i64 (st : Int)) false).run Try.prog wr.drew = .ok (.int .i64 Vv) wr.drew)) := Lib.hid ⟨by simpa using hWd.box.cell 4, by simpa using hWd.box.cell 3, by have := (hWd.mp.look st hwfs).1; rw [hVv.out] at this; exact this⟩
            clear hWd hst
            go_wp2_with (fail)
            by_cases heq : Vv = ((k + 1 : Nat) : Int)
            · have heqb : decide (Vv = ((k + 1 : Nat) : Int)) = true := decide_eq_true heq
              have hin : st ∈ out := (Hmi.out st).1 (by rw [hVv.out]; exact heq)
              subst heq
              refine wp_region_held_drew (S := fun w' => (w'.cell? ⟨wb, 4, none⟩ = some (.map (some mb)) ∧ w'.cell? ⟨wb, 3, none⟩ = some (.int .i64 ((k + 1 : Nat) : Int)) ∧ (Instr.lookup 72 (.map (some mb)) (.int .i64 (st : Int)) false).run Try.prog w' = .ok (.int .i64 ((k + 1 : Nat) : Int)) w')) (by kernel_rfl) ?_ (fun hHeld => ?_)
              · exact HS13.out
              refine wpAnyH_take (i := 0) (v := ?_) (gatL gatZ) (by kernel_rfl) (by kernel_rfl) (by kernel_rfl) (fun _ _ _ h => h) (Or.inl ⟨by rfl, ?_⟩) (by assumption) ?_
              rotate_left
              · intro w hSw
                try dsimp only at hSw
                go_simp
                all_goals with_reducible rfl
              try simp only [Act.put, List.setIfInBounds_toArray, List.set_cons_zero, List.set_cons_succ]
              refine wpAnyH_take (i := 1) (v := ?_) (gatL (gatS gatZ)) (by kernel_rfl) (by kernel_rfl) (by kernel_rfl) (fun _ _ _ h => h) (Or.inl ⟨by rfl, ?_⟩) (by assumption) ?_
              rotate_left
              · intro w hSw
                try dsimp only at hSw
                go_simp
                all_goals with_reducible rfl
              try simp only [Act.put, List.setIfInBounds_toArray, List.set_cons_zero, List.set_cons_succ]
              refine wpAnyH_take (i := 2) (v := ?_) (gatL (gatS (gatS gatZ))) (by kernel_rfl) (by kernel_rfl) (by kernel_rfl) (fun _ _ _ h => h) (Or.inl ⟨by rfl, ?_⟩) (by assumption) ?_
              rotate_left
              · intro w hSw
                try dsimp only at hSw
                go_simp
                all_goals with_reducible rfl
              try simp only [Act.put, List.setIfInBounds_toArray, List.set_cons_zero, List.set_cons_succ]
              refine wpAnyH_take (i := 3) (v := ?_) (gatL (gatS (gatS (gatS gatZ)))) (by kernel_rfl) (by kernel_rfl) (by kernel_rfl) (fun _ _ _ h => h) (Or.inl ⟨by rfl, ?_⟩) (by assumption) ?_
              rotate_left
              · intro w hSw
                try dsimp only at hSw
                go_simp
                all_goals with_reducible rfl
              try simp only [Act.put, List.setIfInBounds_toArray, List.set_cons_zero, List.set_cons_succ]
              refine wpAnyH_take (i := 4) (v := ?_) (gatL (gatS (gatS (gatS (gatS gatZ))))) (by kernel_rfl) (by kernel_rfl) (by kernel_rfl) (fun _ _ _ h => h) (Or.inl ⟨by rfl, ?_⟩) (by assumption) ?_
              rotate_left
              · intro w hSw
                try dsimp only at hSw
                go_simp
                all_goals with_reducible rfl
              try simp only [Act.put, List.setIfInBounds_toArray, List.set_cons_zero, List.set_cons_succ]
              refine wpAnyH_take (i := 5) (v := ?_) (gatL (gatS (gatS (gatS (gatS (gatS gatZ)))))) (by kernel_rfl) (by kernel_rfl) (by kernel_rfl) (fun _ _ _ h => h) (Or.inl ⟨by rfl, ?_⟩) (by assumption) ?_
              rotate_left
              · intro w hSw
                try dsimp only at hSw
                go_simp
                all_goals with_reducible rfl
              try simp only [Act.put, List.setIfInBounds_toArray, List.set_cons_zero, List.set_cons_succ]
              refine wpAnyH_take (i := 6) (v := ?_) (gatL (gatS (gatS (gatS (gatS (gatS (gatS gatZ))))))) (by kernel_rfl) (by kernel_rfl) (by kernel_rfl) (fun _ _ _ h => h) (Or.inl ⟨by rfl, ?_⟩) (by assumption) ?_
              rotate_left
              · intro w hSw
                try dsimp only at hSw
                go_simp
                all_goals with_reducible rfl
              try simp only [Act.put, List.setIfInBounds_toArray, List.set_cons_zero, List.set_cons_succ]
              refine wpAnyH_take (i := 7) (v := ?_) (gatL (gatS (gatS (gatS (gatS (gatS (gatS (gatS gatZ)))))))) (by kernel_rfl) (by kernel_rfl) (by kernel_rfl) (fun _ _ _ h => h) (Or.inl ⟨by rfl, ?_⟩) (by assumption) ?_
              rotate_left
              · intro w hSw
                try dsimp only at hSw
                go_simp
                all_goals with_reducible rfl
              try simp only [Act.put, List.setIfInBounds_toArray, List.set_cons_zero, List.set_cons_succ]
              refine wpAnyH_take (i := 8) (v := ?_) (gatL (gatS (gatS (gatS (gatS (gatS (gatS (gatS (gatS gatZ))))))))) (by kernel_rfl) (by kernel_rfl) (by kernel_rfl) (fun _ _ _ h => h) (Or.inl ⟨by rfl, ?_⟩) (by assumption) ?_
              rotate_left
              · intro w hSw
                try dsimp only at hSw
                go_simp
                all_goals with_reducible rfl
              try simp only [Act.put, List.setIfInBounds_toArray, List.set_cons_zero, List.set_cons_succ]
              refine wpAnyH_take (i := 9) (v := ?_) (gatL (gatS (gatS (gatS (gatS (gatS (gatS (gatS (gatS (gatS gatZ)))))))))) (by kernel_rfl) (by kernel_rfl) (by kernel_rfl) (fun _ _ _ h => h) (Or.inl ⟨by rfl, ?_⟩) (by assumption) ?_
              rotate_left
              · intro w hSw
                try dsimp only at hSw
                go_simp
                all_goals with_reducible rfl
              try simp only [Act.put, List.setIfInBounds_toArray, List.set_cons_zero, List.set_cons_succ]
              refine wpAnyH_take (i := 10) (v := ?_) (gatL (gatS (gatS (gatS (gatS (gatS (gatS (gatS (gatS (gatS (gatS gatZ))))))))))) (by kernel_rfl) (by kernel_rfl) (by kernel_rfl) (fun _ _ _ h => h) (Or.inl ⟨by rfl, ?_⟩) (by assumption) ?_
              rotate_left
              · intro w hSw
                try dsimp only at hSw
                go_simp
                all_goals with_reducible rfl
              try simp only [Act.put, List.setIfInBounds_toArray, List.set_cons_zero, List.set_cons_succ]
              refine wpAnyH_done (by kernel_rfl) ?_ _
              obtain ⟨a6, c6, w6, hrun, ho6, hg6, _⟩ := run_pushI wr.drew 22 i (iv i) rfl (HO5.out.kept (grownBy_drew wr none) (by cases obk oa5 <;> simp)) (by omega) HK5.out.size
              have hr6 := Lib.hid hrun
              have HO6 := Lib.hid ho6
              have HK6 : Hid (Kps (fun _ => False) V w6) := Lib.hid ((HK5.out.trans (kps_below (Below.refl _ wr).drew) (fun _ h => h) (fun _ h _ => h)).trans (kps_grown hg6) (fun _ h => h) (fun j e hj => by
                rw [ownBlock_obk] at e
                have := (HO5.out.obk_typ e).1
                omega))
              have Hlq6 : Hid (l ++ [i] = (List.range (i + 1)).filter (fun i => decide (∃ a : Nat, Rc x s.data.toList a ∧ x.ends[i]? = some (a : Int)))) := Lib.hid (by rw [filter_snoc (fun i => ∃ a : Nat, Rc x s.data.toList a ∧ x.ends[i]? = some (a : Int)), ← Hlq.out, if_pos (HF3.out.2 hin)])
              clear hrun ho6 hg6
              go_wp2_with (at_builtin; refine wpList_append_run rfl _ _ 22 22 rfl _ _ _ _ rfl rfl hr6.out ?_)
              exact ⟨⟨i + 1, a6, c6, l ++ [i], by omega, by simp, by rw [List.length_append]; rfl, by rw [List.length_append]; exact HO6.out, by rw [List.length_append, List.length_singleton]; omega, Hlq6.out, HK6.out⟩, by simp [intOf]; omega⟩
            · have heqb : decide (Vv = ((k + 1 : Nat) : Int)) = false := decide_eq_false heq
              have hin : ¬ st ∈ out := fun h => heq (by rw [← hVv.out]; exact (Hmi.out st).2 h)
              refine wp_region_held_drew (S := fun w' => (w'.cell? ⟨wb, 4, none⟩ = some (.map (some mb)) ∧ w'.cell? ⟨wb, 3, none⟩ = some (.int .i64 ((k + 1 : Nat) : Int)) ∧ (Instr.lookup 72 (.map (some mb)) (.int .i64 (st : Int)) false).run Try.prog w' = .ok (.int .i64 Vv) w')) (by kernel_rfl) ?_ (fun hHeld => ?_)
              · exact HS13.out
              refine wpAnyH_take (i := 0) (v := ?_) (gatL gatZ) (by kernel_rfl) (by kernel_rfl) (by kernel_rfl) (fun _ _ _ h => h) (Or.inl ⟨by rfl, ?_⟩) (by assumption) ?_
              rotate_left
              · intro w hSw
                try dsimp only at hSw
                go_simp
                all_goals with_reducible rfl
              try simp only [Act.put, List.setIfInBounds_toArray, List.set_cons_zero, List.set_cons_succ]
              refine wpAnyH_take (i := 1) (v := ?_) (gatL (gatS gatZ)) (by kernel_rfl) (by kernel_rfl) (by kernel_rfl) (fun _ _ _ h => h) (Or.inl ⟨by rfl, ?_⟩) (by assumption) ?_
              rotate_left
              · intro w hSw
                try dsimp only at hSw
                go_simp
                all_goals with_reducible rfl
              try simp only [Act.put, List.setIfInBounds_toArray, List.set_cons_zero, List.set_cons_succ]
              refine wpAnyH_take (i := 2) (v := ?_) (gatL (gatS (gatS gatZ))) (by kernel_rfl) (by kernel_rfl) (by kernel_rfl) (fun _ _ _ h => h) (Or.inl ⟨by rfl, ?_⟩) (by assumption) ?_
              rotate_left
              · intro w hSw
                try dsimp only at hSw
                go_simp
                all_goals with_reducible rfl
              try simp only [Act.put, List.setIfInBounds_toArray, List.set_cons_zero, List.set_cons_succ]
              refine wpAnyH_take (i := 3) (v := ?_) (gatL (gatS (gatS (gatS gatZ)))) (by kernel_rfl) (by kernel_rfl) (by kernel_rfl) (fun _ _ _ h => h) (Or.inl ⟨by rfl, ?_⟩) (by assumption) ?_
              rotate_left
              · intro w hSw
                try dsimp only at hSw
                go_simp
                all_goals with_reducible rfl
              try simp only [Act.put, List.setIfInBounds_toArray, List.set_cons_zero, List.set_cons_succ]
              refine wpAnyH_take (i := 4) (v := ?_) (gatL (gatS (gatS (gatS (gatS gatZ))))) (by kernel_rfl) (by kernel_rfl) (by kernel_rfl) (fun _ _ _ h => h) (Or.inl ⟨by rfl, ?_⟩) (by assumption) ?_
              rotate_left
              · intro w hSw
                try dsimp only at hSw
                go_simp
                all_goals with_reducible rfl
              try simp only [Act.put, List.setIfInBounds_toArray, List.set_cons_zero, List.set_cons_succ]
              refine wpAnyH_take (i := 5) (v := ?_) (gatL (gatS (gatS (gatS (gatS (gatS gatZ)))))) (by kernel_rfl) (by kernel_rfl) (by kernel_rfl) (fun _ _ _ h => h) (Or.inl ⟨by rfl, ?_⟩) (by assumption) ?_
              rotate_left
              · intro w hSw
                try dsimp only at hSw
                go_simp
                all_goals with_reducible rfl
              try simp only [Act.put, List.setIfInBounds_toArray, List.set_cons_zero, List.set_cons_succ]
              refine wpAnyH_take (i := 6) (v := ?_) (gatL (gatS (gatS (gatS (gatS (gatS (gatS gatZ))))))) (by kernel_rfl) (by kernel_rfl) (by kernel_rfl) (fun _ _ _ h => h) (Or.inl ⟨by rfl, ?_⟩) (by assumption) ?_
              rotate_left
              · intro w hSw
                try dsimp only at hSw
                go_simp
                all_goals with_reducible rfl
              try simp only [Act.put, List.setIfInBounds_toArray, List.set_cons_zero, List.set_cons_succ]
              refine wpAnyH_take (i := 7) (v := ?_) (gatL (gatS (gatS (gatS (gatS (gatS (gatS (gatS gatZ)))))))) (by kernel_rfl) (by kernel_rfl) (by kernel_rfl) (fun _ _ _ h => h) (Or.inl ⟨by rfl, ?_⟩) (by assumption) ?_
              rotate_left
              · intro w hSw
                try dsimp only at hSw
                go_simp
                all_goals with_reducible rfl
              try simp only [Act.put, List.setIfInBounds_toArray, List.set_cons_zero, List.set_cons_succ]
              refine wpAnyH_take (i := 8) (v := ?_) (gatL (gatS (gatS (gatS (gatS (gatS (gatS (gatS (gatS gatZ))))))))) (by kernel_rfl) (by kernel_rfl) (by kernel_rfl) (fun _ _ _ h => h) (Or.inl ⟨by rfl, ?_⟩) (by assumption) ?_
              rotate_left
              · intro w hSw
                try dsimp only at hSw
                go_simp
                all_goals with_reducible rfl
              try simp only [Act.put, List.setIfInBounds_toArray, List.set_cons_zero, List.set_cons_succ]
              refine wpAnyH_take (i := 9) (v := ?_) (gatL (gatS (gatS (gatS (gatS (gatS (gatS (gatS (gatS (gatS gatZ)))))))))) (by kernel_rfl) (by kernel_rfl) (by kernel_rfl) (fun _ _ _ h => h) (Or.inl ⟨by rfl, ?_⟩) (by assumption) ?_
              rotate_left
              · intro w hSw
                try dsimp only at hSw
                go_simp
                all_goals with_reducible rfl
              try simp only [Act.put, List.setIfInBounds_toArray, List.set_cons_zero, List.set_cons_succ]
              refine wpAnyH_take (i := 10) (v := ?_) (gatL (gatS (gatS (gatS (gatS (gatS (gatS (gatS (gatS (gatS (gatS gatZ))))))))))) (by kernel_rfl) (by kernel_rfl) (by kernel_rfl) (fun _ _ _ h => h) (Or.inl ⟨by rfl, ?_⟩) (by assumption) ?_
              rotate_left
              · intro w hSw
                try dsimp only at hSw
                go_simp
                all_goals with_reducible rfl
              try simp only [Act.put, List.setIfInBounds_toArray, List.set_cons_zero, List.set_cons_succ]
              refine wpAnyH_done (by kernel_rfl) ?_ _
              have Hlq6 : Hid (l = (List.range (i + 1)).filter (fun i => decide (∃ a : Nat, Rc x s.data.toList a ∧ x.ends[i]? = some (a : Int)))) := Lib.hid (by rw [filter_snoc (fun i => ∃ a : Nat, Rc x s.data.toList a ∧ x.ends[i]? = some (a : Int)), ← Hlq.out, if_neg (fun h => hin (HF3.out.1 h)), List.append_nil])
              have HO6 := Lib.hid (HO5.out.kept (grownBy_drew wr none) (by cases obk oa5 <;> simp))
              have HK6 : Hid (Kps (fun _ => False) V wr.drew) := Lib.hid (HK5.out.trans (kps_below (Below.refl _ wr).drew) (fun _ h => h) (fun _ h _ => h))
              go_wp2_with (fail)
              exact ⟨⟨i + 1, oa5, oc5, l, by omega, by simp, rfl, HO6.out, by omega, Hlq6.out, HK6.out⟩, by simp [intOf]; omega⟩
          · obtain rfl : i = E := by omega
            have hiI : ¬ (i : Int) < (i : Int) := by omega
            have HRR : Hid (R = l) := Lib.hid (by rw [← hR.out, Hlq.out, runP, hEE.out])
            have HQ : Hid (IntsN wr oa5 oc5 l ∧ Below w.heap.size w wr) := Lib.hid ⟨HO5.out.ints, HB1.out.trans (HW5.out.bel.mono (HB1.out.size))⟩
            go_wp2_with (fail)
            exact bodyPost_ret (v := .slice oa5 l.length oc5) (by simp [results, Try.results23, go_sem]; try first | rfl | assumption | omega) rfl ⟨oa5, oc5, by rw [HRR.out], by rw [HRR.out]; exact HQ.out.1, HQ.out.2⟩
      · have hkI : ¬ (k : Int) < (s.size : Int) := by omega
        have HFin2 : Hid (∀ i (hi : i < x.ends.length) (a : Nat), x.ends[i] = (a : Int) → ((∃ b : Nat, Rc x s.data.toList b ∧ x.ends[i]? = some (b : Int)) ↔ a ∈ out)) := Lib.hid (fun i hi a ha => by
          rw [List.getElem?_eq_getElem hi, ha]
          constructor
          · rintro ⟨b, h1, h2⟩
            obtain rfl : a = b := by injection h2 with h2; omega
            exact (HFin.out a).2 h1
          · exact fun h => ⟨a, (HFin.out a).1 h, rfl⟩)
        have z2 := HA.out.cell 2
        have zl := HA.out.lt
        simp only [List.getElem?_cons_zero, List.getElem?_cons_succ] at z2
        have hsz : w1.heap.size ≤ wr.heap.size := HW.out.bel.size
        go_wp2_with (fail)
        obtain ⟨V, hV⟩ : ∃ V, Hid (wr = V) := ⟨_, Lib.hid rfl⟩
        rw [hV.out] at HO HW HA z2 zl hsz ⊢
        go_loopw [8, 9, 10, 41] (fun ov _ _ iv wr => ∃ (i : Nat) (oa : Option Addr) (oc : Nat) (l : List Nat), i ≤ E ∧ iv = .int .i64 (i : Int) ∧ ov = .slice oa l.length oc ∧ OwnI wr V.heap.size oa l.length oc l ∧ l.length ≤ i ∧ l = (List.range i).filter (fun i => decide (∃ a : Nat, Rc x s.data.toList a ∧ x.ends[i]? = some (a : Int))) ∧ Kps (fun _ => False) V wr) (fun _ _ _ iv _ => E - (intOf iv).toNat)
        case atStart => exact ⟨0, none, 0, [], Nat.zero_le _, rfl, rfl, World.ownsRow_nil _ _ _ _, Nat.le_refl _, rfl, Kps.refl _ _⟩
        case round =>
          obtain ⟨i, oa5, oc5, l, hi, rfl, rfl, ho5, hll, hlq, hk5⟩ := hrel
          have HO5 := Lib.hid ho5
          have Hlq := Lib.hid hlq
          have HK5 := Lib.hid hk5
          have HW5 := Lib.hid (HW.out.keptK hk5 (fun _ h => h.elim) id id id id)
          have HE5 := Lib.hid ((Hx.out.ends.grown HB1.out).grown (HW5.out.bel))
          clear ho5 hlq hk5 z2 zl
          by_cases hilt : i < E
          · have hiI : (i : Int) < (E : Int) := by omega
            have hiI0 : (0 : Int) ≤ (i : Int) := by omega
            have hil : i < x.ends.length := by rw [hEE.out]; exact hilt
            obtain ⟨b, off, rfl⟩ := HE5.out.at_ i hil
            have c0 := HE5.out.cell b off rfl i hil
            obtain ⟨st, hst, hstN⟩ := link_ends2 HX.out hil
            have HF3 := Lib.hid (HFin2.out i hil st hst)
            rw [hst] at c0
            have hbl := World.block_lt_of_cell? _ _ c0
            have hwfs : (Lit.int .i64 (st : Int)).wf = true := WalkArith.wf_i64 (by omega)
            obtain ⟨Vv, hVv⟩ : ∃ Vv, Hid (m st = Vv) := ⟨_, Lib.hid rfl⟩
            have hWd := HW5.out.keptK (kps_below (Below.refl _ wr).drew) (fun _ h => h.elim) id id id id
            obtain ⟨fb, nb, mb⟩ := L
            have HS13 : Hid ((wr.drew.cell? ⟨wb, 4, none⟩ = some (.map (some mb)) ∧ wr.drew.cell? ⟨wb, 3, none⟩ = some (.int .i64 ((k + 1 : Nat) : Int)) ∧ (Instr.lookup 72 (.map (some mb)) (.int .i64 (st : Int)) false).run Try.prog wr.drew = .ok (.int .i64 Vv) wr.drew)) := Lib.hid ⟨by simpa using hWd.box.cell 4, by simpa using hWd.box.cell 3, by have := (hWd.mp.look st hwfs).1; rw [hVv.out] at this; exact this⟩
            clear hWd hst
            go_wp2_with (fail)
            by_cases heq : Vv = ((k + 1 : Nat) : Int)
            · have heqb : decide (Vv = ((k + 1 : Nat) : Int)) = true := decide_eq_true heq
              have hin : st ∈ out := (Hmi.out st).1 (by rw [hVv.out]; exact heq)
              subst heq
              refine wp_region_held_drew (S := fun w' => (w'.cell? ⟨wb, 4, none⟩ = some (.map (some mb)) ∧ w'.cell? ⟨wb, 3, none⟩ = some (.int .i64 ((k + 1 : Nat) : Int)) ∧ (Instr.lookup 72 (.map (some mb)) (.int .i64 (st : Int)) false).run Try.prog w' = .ok (.int .i64 ((k + 1 : Nat) : Int)) w')) (by kernel_rfl) ?_ (fun hHeld => ?_)
              · exact HS13.out
              refine wpAnyH_take (i := 0) (v := ?_) (gatL gatZ) (by kernel_rfl) (by kernel_rfl) (by kernel_rfl) (fun _ _ _ h => h) (Or.inl ⟨by rfl, ?_⟩) (by assumption) ?_
              rotate_left
              · intro w hSw
                try dsimp only at hSw
                go_simp
                all_goals with_reducible rfl
              try simp only [Act.put, List.setIfInBounds_toArray, List.set_cons_zero, List.set_cons_succ]
              refine wpAnyH_take (i := 1) (v := ?_) (gatL (gatS gatZ)) (by kernel_rfl) (by kernel_rfl) (by kernel_rfl) (fun _ _ _ h => h) (Or.inl ⟨by rfl, ?_⟩) (by assumption) ?_
              rotate_left
              · intro w hSw
                try dsimp only at hSw
                go_simp
                all_goals with_reducible rfl
              try simp only [Act.put, List.setIfInBounds_toArray, List.set_cons_zero, List.set_cons_succ]
              refine wpAnyH_take (i := 2) (v := ?_) (gatL (gatS (gatS gatZ))) (by kernel_rfl) (by kernel_rfl) (by kernel_rfl) (fun _ _ _ h => h) (Or.inl ⟨by rfl, ?_⟩) (by assumption) ?_
              rotate_left
              · intro w hSw
                try dsimp only at hSw
                go_simp
                all_goals with_reducible rfl
              try simp only [Act.put, List.setIfInBounds_toArray, List.set_cons_zero, List.set_cons_succ]
              refine wpAnyH_take (i := 3) (v := ?_) (gatL (gatS (gatS (gatS gatZ)))) (by kernel_rfl) (by kernel_rfl) (by kernel_rfl) (fun _ _ _ h => h) (Or.inl ⟨by rfl, ?_⟩) (by assumption) ?_
              rotate_left
              · intro w hSw
                try dsimp only at hSw
                go_simp
                all_goals with_reducible rfl
              try simp only [Act.put, List.setIfInBounds_toArray, List.set_cons_zero, List.set_cons_succ]
              refine wpAnyH_take (i := 4) (v := ?_) (gatL (gatS (gatS (gatS (gatS gatZ))))) (by kernel_rfl) (by kernel_rfl) (by kernel_rfl) (fun _ _ _ h => h) (Or.inl ⟨by rfl, ?_⟩) (by assumption) ?_
              rotate_left
              · intro w hSw
                try dsimp only at hSw
                go_simp
                all_goals with_reducible rfl
              try simp only [Act.put, List.setIfInBounds_toArray, List.set_cons_zero, List.set_cons_succ]
              refine wpAnyH_take (i := 5) (v := ?_) (gatL (gatS (gatS (gatS (gatS (gatS gatZ)))))) (by kernel_rfl) (by kernel_rfl) (by kernel_rfl) (fun _ _ _ h => h) (Or.inl ⟨by rfl, ?_⟩) (by assumption) ?_
              rotate_left
              · intro w hSw
                try dsimp only at hSw
                go_simp
                all_goals with_reducible rfl
              try simp only [Act.put, List.setIfInBounds_toArray, List.set_cons_zero, List.set_cons_succ]
              refine wpAnyH_take (i := 6) (v := ?_) (gatL (gatS (gatS (gatS (gatS (gatS (gatS gatZ))))))) (by kernel_rfl) (by kernel_rfl) (by kernel_rfl) (fun _ _ _ h => h) (Or.inl ⟨by rfl, ?_⟩) (by assumption) ?_
              rotate_left
              · intro w hSw
                try dsimp only at hSw
                go_simp
                all_goals with_reducible rfl
              try simp only [Act.put, List.setIfInBounds_toArray, List.set_cons_zero, List.set_cons_succ]
              refine wpAnyH_take (i := 7) (v := ?_) (gatL (gatS (gatS (gatS (gatS (gatS (gatS (gatS gatZ)))))))) (by kernel_rfl) (by kernel_rfl) (by kernel_rfl) (fun _ _ _ h => h) (Or.inl ⟨by rfl, ?_⟩) (by assumption) ?_
              rotate_left
              · intro w hSw
                try dsimp only at hSw
                go_simp
                all_goals with_reducible rfl
              try simp only [Act.put, List.setIfInBounds_toArray, List.set_cons_zero, List.set_cons_succ]
              refine wpAnyH_take (i := 8) (v := ?_) (gatL (gatS (gatS (gatS (gatS (gatS (gatS (gatS (gatS gatZ))))))))) (by kernel_rfl) (by kernel_rfl) (by kernel_rfl) (fun _ _ _ h => h) (Or.inl ⟨by rfl, ?_⟩) (by assumption) ?_
              rotate_left
              · intro w hSw
                try dsimp only at hSw
                go_simp
                all_goals with_reducible rfl
              try simp only [Act.put, List.setIfInBounds_toArray, List.set_cons_zero, List.set_cons_succ]
              refine wpAnyH_take (i := 9) (v := ?_) (gatL (gatS (gatS (gatS (gatS (gatS (gatS (gatS (gatS (gatS gatZ)))))))))) (by kernel_rfl) (by kernel_rfl) (by kernel_rfl) (fun _ _ _ h => h) (Or.inl ⟨by rfl, ?_⟩) (by assumption) ?_
              rotate_left
              · intro w hSw
                try dsimp only at hSw
                go_simp
                all_goals with_reducible rfl
              try simp only [Act.put, List.setIfInBounds_toArray, List.set_cons_zero, List.set_cons_succ]
              refine wpAnyH_take (i := 10) (v := ?_) (gatL (gatS (gatS (gatS (gatS (gatS (gatS (gatS (gatS (gatS (gatS gatZ))))))))))) (by kernel_rfl) (by kernel_rfl) (by kernel_rfl) (fun _ _ _ h => h) (Or.inl ⟨by rfl, ?_⟩) (by assumption) ?_
              rotate_left
              · intro w hSw
                try dsimp only at hSw
                go_simp
                all_goals with_reducible rfl
              try simp only [Act.put, List.setIfInBounds_toArray, List.set_cons_zero, List.set_cons_succ]
              refine wpAnyH_done (by kernel_rfl) ?_ _
              obtain ⟨a6, c6, w6, hrun, ho6, hg6, _⟩ := run_pushI wr.drew 22 i (iv i) rfl (HO5.out.kept (grownBy_drew wr none) (by cases obk oa5 <;> simp)) (by omega) HK5.out.size
              have hr6 := Lib.hid hrun
              have HO6 := Lib.hid ho6
              have HK6 : Hid (Kps (fun _ => False) V w6) := Lib.hid ((HK5.out.trans (kps_below (Below.refl _ wr).drew) (fun _ h => h) (fun _ h _ => h)).trans (kps_grown hg6) (fun _ h => h) (fun j e hj => by
                rw [ownBlock_obk] at e
                have := (HO5.out.obk_typ e).1
                omega))
              have Hlq6 : Hid (l ++ [i] = (List.range (i + 1)).filter (fun i => decide (∃ a : Nat, Rc x s.data.toList a ∧ x.ends[i]? = some (a : Int)))) := Lib.hid (by rw [filter_snoc (fun i => ∃ a : Nat, Rc x s.data.toList a ∧ x.ends[i]? = some (a : Int)), ← Hlq.out, if_pos (HF3.out.2 hin)])
              clear hrun ho6 hg6
              go_wp2_with (at_builtin; refine wpList_append_run rfl _ _ 22 22 rfl _ _ _ _ rfl rfl hr6.out ?_)
              exact ⟨⟨i + 1, a6, c6, l ++ [i], by omega, by simp, by rw [List.length_append]; rfl, by rw [List.length_append]; exact HO6.out, by rw [List.length_append, List.length_singleton]; omega, Hlq6.out, HK6.out⟩, by simp [intOf]; omega⟩
            · have heqb : decide (Vv = ((k + 1 : Nat) : Int)) = false := decide_eq_false heq
              have hin : ¬ st ∈ out := fun h => heq (by rw [← hVv.out]; exact (Hmi.out st).2 h)
              refine wp_region_held_drew (S := fun w' => (w'.cell? ⟨wb, 4, none⟩ = some (.map (some mb)) ∧ w'.cell? ⟨wb, 3, none⟩ = some (.int .i64 ((k + 1 : Nat) : Int)) ∧ (Instr.lookup 72 (.map (some mb)) (.int .i64 (st : Int)) false).run Try.prog w' = .ok (.int .i64 Vv) w')) (by kernel_rfl) ?_ (fun hHeld => ?_)
              · exact HS13.out
              refine wpAnyH_take (i := 0) (v := ?_) (gatL gatZ) (by kernel_rfl) (by kernel_rfl) (by kernel_rfl) (fun _ _ _ h => h) (Or.inl ⟨by rfl, ?_⟩) (by assumption) ?_
              rotate_left
              · intro w hSw
                try dsimp only at hSw
                go_simp
                all_goals with_reducible rfl
              try simp only [Act.put, List.setIfInBounds_toArray, List.set_cons_zero, List.set_cons_succ]
              refine wpAnyH_take (i := 1) (v := ?_) (gatL (gatS gatZ)) (by kernel_rfl) (by kernel_rfl) (by kernel_rfl) (fun _ _ _ h => h) (Or.inl ⟨by rfl, ?_⟩) (by assumption) ?_
              rotate_left
              · intro w hSw
                try dsimp only at hSw
                go_simp
                all_goals with_reducible rfl
              try simp only [Act.put, List.setIfInBounds_toArray, List.set_cons_zero, List.set_cons_succ]
              refine wpAnyH_take (i := 2) (v := ?_) (gatL (gatS (gatS gatZ))) (by kernel_rfl) (by kernel_rfl) (by kernel_rfl) (fun _ _ _ h => h) (Or.inl ⟨by rfl, ?_⟩) (by assumption) ?_
              rotate_left
              · intro w hSw
                try dsimp only at hSw
                go_simp
                all_goals with_reducible rfl
              try simp only [Act.put, List.setIfInBounds_toArray, List.set_cons_zero, List.set_cons_succ]
              refine wpAnyH_take (i := 3) (v := ?_) (gatL (gatS (gatS (gatS gatZ)))) (by kernel_rfl) (by kernel_rfl) (by kernel_rfl) (fun _ _ _ h => h) (Or.inl ⟨by rfl, ?_⟩) (by assumption) ?_
              rotate_left
              · intro w hSw
                try dsimp only at hSw
                go_simp
                all_goals with_reducible rfl
              try simp only [Act.put, List.setIfInBounds_toArray, List.set_cons_zero, List.set_cons_succ]
              refine wpAnyH_take (i := 4) (v := ?_) (gatL (gatS (gatS (gatS (gatS gatZ))))) (by kernel_rfl) (by kernel_rfl) (by kernel_rfl) (fun _ _ _ h => h) (Or.inl ⟨by rfl, ?_⟩) (by assumption) ?_
              rotate_left
              · intro w hSw
                try dsimp only at hSw
                go_simp
                all_goals with_reducible rfl
              try simp only [Act.put, List.setIfInBounds_toArray, List.set_cons_zero, List.set_cons_succ]
              refine wpAnyH_take (i := 5) (v := ?_) (gatL (gatS (gatS (gatS (gatS (gatS gatZ)))))) (by kernel_rfl) (by kernel_rfl) (by kernel_rfl) (fun _ _ _ h => h) (Or.inl ⟨by rfl, ?_⟩) (by assumption) ?_
              rotate_left
              · intro w hSw
                try dsimp only at hSw
                go_simp
                all_goals with_reducible rfl
              try simp only [Act.put, List.setIfInBounds_toArray, List.set_cons_zero, List.set_cons_succ]
              refine wpAnyH_take (i := 6) (v := ?_) (gatL (gatS (gatS (gatS (gatS (gatS (gatS gatZ))))))) (by kernel_rfl) (by kernel_rfl) (by kernel_rfl) (fun _ _ _ h => h) (Or.inl ⟨by rfl, ?_⟩) (by assumption) ?_
              rotate_left
              · intro w hSw
                try dsimp only at hSw
                go_simp
                all_goals with_reducible rfl
              try simp only [Act.put, List.setIfInBounds_toArray, List.set_cons_zero, List.set_cons_succ]
              refine wpAnyH_take (i := 7) (v := ?_) (gatL (gatS (gatS (gatS (gatS (gatS (gatS (gatS gatZ)))))))) (by kernel_rfl) (by kernel_rfl) (by kernel_rfl) (fun _ _ _ h => h) (Or.inl ⟨by rfl, ?_⟩) (by assumption) ?_
              rotate_left
              · intro w hSw
                try dsimp only at hSw
                go_simp
                all_goals with_reducible rfl
              try simp only [Act.put, List.setIfInBounds_toArray, List.set_cons_zero, List.set_cons_succ]
              refine wpAnyH_take (i := 8) (v := ?_) (gatL (gatS (gatS (gatS (gatS (gatS (gatS (gatS (gatS gatZ))))))))) (by kernel_rfl) (by kernel_rfl) (by kernel_rfl) (fun _ _ _ h => h) (Or.inl ⟨by rfl, ?_⟩) (by assumption) ?_
              rotate_left
              · intro w hSw
                try dsimp only at hSw
                go_simp
                all_goals with_reducible rfl
              try simp only [Act.put, List.setIfInBounds_toArray, List.set_cons_zero, List.set_cons_succ]
              refine wpAnyH_take (i := 9) (v := ?_) (gatL (gatS (gatS (gatS (gatS (gatS (gatS (gatS (gatS (gatS gatZ)))))))))) (by kernel_rfl) (by kernel_rfl) (by kernel_rfl) (fun _ _ _ h => h) (Or.inl ⟨by rfl, ?_⟩) (by assumption) ?_
              rotate_left
              · intro w hSw
                try dsimp only at hSw
                go_simp
                all_goals with_reducible rfl
              try simp only [Act.put, List.setIfInBounds_toArray, List.set_cons_zero, List.set_cons_succ]
              refine wpAnyH_take (i := 10) (v := ?_) (gatL (gatS (gatS (gatS (gatS (gatS (gatS (gatS (gatS (gatS (gatS gatZ))))))))))) (by kernel_rfl) (by kernel_rfl) (by kernel_rfl) (fun _ _ _ h => h) (Or.inl ⟨by rfl, ?_⟩) (by assumption) ?_
              rotate_left
              · intro w hSw
                try dsimp only at hSw
                go_simp
                all_goals with_reducible rfl
              try simp only [Act.put, List.setIfInBounds_toArray, List.set_cons_zero, List.set_cons_succ]
              refine wpAnyH_done (by kernel_rfl) ?_ _
              have Hlq6 : Hid (l = (List.range (i + 1)).filter (fun i => decide (∃ a : Nat, Rc x s.data.toList a ∧ x.ends[i]? = some (a : Int)))) := Lib.hid (by rw [filter_snoc (fun i => ∃ a : Nat, Rc x s.data.toList a ∧ x.ends[i]? = some (a : Int)), ← Hlq.out, if_neg (fun h => hin (HF3.out.1 h)), List.append_nil])
              have HO6 := Lib.hid (HO5.out.kept (grownBy_drew wr none) (by cases obk oa5 <;> simp))
              have HK6 : Hid (Kps (fun _ => False) V wr.drew) := Lib.hid (HK5.out.trans (kps_below (Below.refl _ wr).drew) (fun _ h => h) (fun _ h _ => h))
              go_wp2_with (fail)
              exact ⟨⟨i + 1, oa5, oc5, l, by omega, by simp, rfl, HO6.out, by omega, Hlq6.out, HK6.out⟩, by simp [intOf]; omega⟩
          · obtain rfl : i = E := by omega
            have hiI : ¬ (i : Int) < (i : Int) := by omega
            have HRR : Hid (R = l) := Lib.hid (by rw [← hR.out, Hlq.out, runP, hEE.out])
            have HQ : Hid (IntsN wr oa5 oc5 l ∧ Below w.heap.size w wr) := Lib.hid ⟨HO5.out.ints, HB1.out.trans (HW5.out.bel.mono (HB1.out.size))⟩
            go_wp2_with (fail)
            exact bodyPost_ret (v := .slice oa5 l.length oc5) (by simp [results, Try.results23, go_sem]; try first | rfl | assumption | omega) rfl ⟨oa5, oc5, by rw [HRR.out], by rw [HRR.out]; exact HQ.out.1, HQ.out.2⟩
end Go.Proofs.Ytpbceejjkdmclaa
