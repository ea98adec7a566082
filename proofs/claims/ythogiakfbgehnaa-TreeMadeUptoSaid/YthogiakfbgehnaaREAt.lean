/- Texts joined: Tuc Tud Tue Ttj. -/
import Derived.Test.YthogiakfbgehnaaREAs
import Derived.Test.YthogiakfbgehnaaREAe
import Derived.Test.YthogiakfbgehnaaREAo
set_option linter.unusedVariables false
set_option linter.unusedSimpArgs false
namespace Go.Proofs.Ythogiakfbgehnaa
open Go.RowKit Go.Maps

attribute [local go_sem] Oper.semAt_some

/-- What the next row says behind so many places of this one. -/
def NxP (f fn : Nat → Bool) (V : Nat → Nat → Nat → Bool) (R : Nat) (toks : List Int) (x : Int) (i TL : Nat) : Prop := ∀ j, j ≤ TL → (fn j = true ↔ ∃ i', i' < i ∧ f i' = true ∧ StpS V R toks x i' j)
theorem nx_zero {f : Nat → Bool} {V : Nat → Nat → Nat → Bool} {R : Nat} {toks : List Int} {x : Int} {TL : Nat} : NxP f (fun _ => false) V R toks x 0 TL := fun j _ => ⟨fun h => (by cases h), fun ⟨i', h, _⟩ => (by omega)⟩
theorem nx_skip {f fn : Nat → Bool} {V : Nat → Nat → Nat → Bool} {R : Nat} {toks : List Int} {x : Int} {i TL : Nat} (h : NxP f fn V R toks x i TL) (hn : f i = false ∨ ∀ j, ¬ StpS V R toks x i j) : NxP f fn V R toks x (i + 1) TL := by
  intro j hj
  rw [h j hj]
  constructor
  · rintro ⟨i', h1, h2, h3⟩; exact ⟨i', by omega, h2, h3⟩
  · rintro ⟨i', h1, h2, h3⟩
    by_cases hi : i' < i
    · exact ⟨i', hi, h2, h3⟩
    · have : i' = i := by omega
      subst this
      rcases hn with hn | hn
      · rw [hn] at h2; cases h2
      · exact absurd h3 (hn j)
theorem nx_tok {f fn : Nat → Bool} {V : Nat → Nat → Nat → Bool} {R : Nat} {toks : List Int} {x : Int} {i TL : Nat} (h : NxP f fn V R toks x i TL) (h0 : 0 ≤ x) (ht : toks[i]? = some x) (hf : f i = true) : NxP f (fun z => if z = i + 1 then true else fn z) V R toks x (i + 1) TL := by
  intro j hj
  show (if j = i + 1 then true else fn j) = true ↔ _
  by_cases he : j = i + 1
  · rw [if_pos he]; exact ⟨fun _ => ⟨i, by omega, hf, .inl ⟨h0, ht, he⟩⟩, fun _ => rfl⟩
  · rw [if_neg he, h j hj]
    constructor
    · rintro ⟨i', h1, h2, h3⟩; exact ⟨i', by omega, h2, h3⟩
    · rintro ⟨i', h1, h2, h3⟩
      by_cases hi : i' < i
      · exact ⟨i', hi, h2, h3⟩
      · have e : i' = i := by omega
        subst e
        rcases h3 with ⟨_, _, h4⟩ | ⟨h4, _⟩
        · exact absurd h4 he
        · omega
theorem no_tok {V : Nat → Nat → Nat → Bool} {R : Nat} {toks : List Int} {x : Int} {i : Nat} (h0 : 0 ≤ x) (ht : toks[i]? ≠ some x) (j : Nat) : ¬ StpS V R toks x i j := by
  rintro (⟨_, h, _⟩ | ⟨h, _⟩)
  · exact ht h
  · omega
/-- What the row says behind so many ends of a rule's sentence. -/
def RuP (V : Nat → Nat → Nat → Bool) (R kn i TL j : Nat) (fn fu : Nat → Bool) : Prop := ∀ z, z ≤ TL → (fu z = true ↔ fn z = true ∨ (i ≤ z ∧ z < j ∧ kn < R ∧ V kn i z = true))
theorem ru_zero {V : Nat → Nat → Nat → Bool} {R kn i TL : Nat} {fn : Nat → Bool} : RuP V R kn i TL i fn fn := by
  intro z _
  constructor
  · exact .inl
  · rintro (h | ⟨h1, h2, _⟩)
    · exact h
    · omega
theorem ru_step {V : Nat → Nat → Nat → Bool} {R kn i TL j : Nat} {fn fu : Nat → Bool} {v : Bool} (h : RuP V R kn i TL j fn fu) (hij : i ≤ j) (hjT : j ≤ TL) (hk : kn < R) (hv : v = (fu j || V kn i j)) : RuP V R kn i TL (j + 1) fn (fun z => if z = j then v else fu z) := by
  intro z hz
  show (if z = j then v else fu z) = true ↔ _
  by_cases he : z = j
  · subst he
    rw [if_pos rfl, hv, Bool.or_eq_true, h z hz]
    constructor
    · rintro ((h1 | ⟨_, h1, _⟩) | h1)
      · exact .inl h1
      · omega
      · exact .inr ⟨hij, by omega, hk, h1⟩
    · rintro (h1 | ⟨_, _, _, h1⟩)
      · exact .inl (.inl h1)
      · exact .inr h1
  · rw [if_neg he, h z hz]
    constructor
    · rintro (h1 | ⟨h1, h2, h3⟩)
      · exact .inl h1
      · exact .inr ⟨h1, by omega, h3⟩
    · rintro (h1 | ⟨h1, h2, h3⟩)
      · exact .inl h1
      · exact .inr ⟨h1, by omega, h3⟩
theorem nx_rul {f fn fu : Nat → Bool} {V : Nat → Nat → Nat → Bool} {R : Nat} {toks : List Int} {x : Int} {i TL j : Nat} (h : NxP f fn V R toks x i TL) (hx : x < 0) (hf : f i = true) (hT : toks.length = TL) (hr : RuP V R (ruL x) i TL j fn fu) (he : TL < j ∨ R ≤ ruL x) : NxP f fu V R toks x (i + 1) TL := by
  intro z hz
  rw [hr z hz, h z hz]
  constructor
  · rintro (⟨i', h1, h2, h3⟩ | ⟨h1, h2, h3, h4⟩)
    · exact ⟨i', by omega, h2, h3⟩
    · exact ⟨i, by omega, hf, .inr ⟨hx, h3, h1, by omega, h4⟩⟩
  · rintro ⟨i', h1, h2, h3⟩
    by_cases hi : i' < i
    · exact .inl ⟨i', hi, h2, h3⟩
    · have e : i' = i := by omega
      subst e
      rcases h3 with ⟨h4, _⟩ | ⟨_, h4, h5, _, h6⟩
      · omega
      · exact .inr ⟨h5, by omega, h4, h6⟩
theorem nx_end {f fn : Nat → Bool} {V : Nat → Nat → Nat → Bool} {R : Nat} {toks seq : List Int} {x : Int} {m TL k fr : Nat} (h : NxP f fn V R toks x m TL) (hm : TL + 1 = m) (hT : toks.length = TL) (hf : ∀ j, j ≤ TL → (f j = true ↔ EndS V R toks (seq.take k) fr j)) (hx : seq[k]? = some x) : ∀ j, j ≤ TL → (fn j = true ↔ EndS V R toks (seq.take (k + 1)) fr j) := by
  intro j hj
  rw [h j hj, List.take_add_one, hx, Option.toList_some, end_snoc]
  constructor
  · rintro ⟨i', h1, h2, h3⟩; exact ⟨i', (hf i' (by omega)).1 h2, h3⟩
  · rintro ⟨h', h1, h2⟩
    have : h' ≤ TL := by rcases h2 with ⟨_, _, h4⟩ | ⟨_, _, h4, _⟩ <;> omega
    exact ⟨h', by omega, (hf h' this).2 h1, h2⟩
/-- What ends comes to. -/
def EndsQ (w : World) (m TL : Nat) (P : Nat → Prop) (e : Ending) (W : World) : Prop := ∃ (g : Nat) (f : Nat → Bool), e = .returned (.slice (some ⟨g, 0, none⟩) m m) ∧ Blk W g 4 (bls f m) ∧ (∀ j, j ≤ TL → (f j = true ↔ P j)) ∧ w.heap.size ≤ g ∧ Below w.heap.size w W
set_option maxRecDepth 100000 in
set_option maxHeartbeats 16000000 in
theorem ends_any (xta xna xaa : Option Addr) (T xtc N xnc L xac b R m : Nat) (V : Nat → Nat → Nat → Bool) (qa : Option Addr) (qc : Nat) (seq : List Int) (ka : Option Addr) (kc : Nat) (toks : List Int) (fr : Nat) (w : World) (hm : toks.length + 1 = m) (hS : SpR w b R m V) (hq : Ints w qa qc seq) (hk : Ints w ka kc toks) (hlo : ∀ k ∈ seq, -9223372036854775808 ≤ k) (hfr : fr ≤ toks.length) (hn : toks.length ≤ 1000) (hR : R ≤ 1000) :
    Calls Try.prog 103 #[.slice (some ⟨b, 0, none⟩) R R, .agg #[.slice xta T xtc, .slice xna N xnc, .slice xaa L xac], .slice qa seq.length qc, .slice ka toks.length kc, .int .i64 (fr : Int)] w (EndsQ w m toks.length (EndS V R toks seq fr)) := by
  have hkm : toks.length ≤ kc ∧ kc ≤ 9223372036854775807 := ⟨by have := hk.le; rwa [List.length_map] at this, hk.max⟩
  have hqm : seq.length ≤ qc ∧ qc ≤ 9223372036854775807 := ⟨by have := hq.le; rwa [List.length_map] at this, hq.max⟩
  have Hk := Lib.hid hk
  have Hq := Lib.hid hq
  have HSp := Lib.hid hS
  have Hlo := Lib.hid hlo
  obtain ⟨TL, hTL⟩ : ∃ q, Hid (toks.length = q) := ⟨_, Lib.hid rfl⟩
  obtain ⟨QL, hQL⟩ : ∃ q, Hid (seq.length = q) := ⟨_, Lib.hid rfl⟩
  rw [hTL.out] at hkm hm hfr hn ⊢
  rw [hQL.out] at hqm ⊢
  have Hm := Lib.hid hm
  have hmI : Hid (((TL : Int) + 1) = (m : Int)) := Lib.hid (by omega)
  have hm2 : m ≤ 1001 := by omega
  have hfr2 : fr < m := by omega
  clear hm
  have hfrI : (fr : Int) < (m : Int) := by omega
  have hfrI0 : (0 : Int) ≤ (fr : Int) := by omega
  have hwn : IntKind.i64.wrap ((TL : Int) + 1) = (TL : Int) + 1 := IntWalk.i64_in _ (by omega)
  have hb1 : Below w.heap.size w (w.alloc (.cells #[.slice xta T xtc, .slice xna N xnc, .slice xaa L xac] 25)) := (Below.refl _ w).alloc (Nat.le_refl _) _
  obtain ⟨w2, hrun2, hB2, hb2, hz2⟩ := mk13_0 (w.alloc (.cells #[.slice xta T xtc, .slice xna N xnc, .slice xaa L xac] 25)) m ((TL : Int) + 1) hmI.out (by omega)
  have z0 := hB2.cell fr
  rw [bls_at hfr2] at z0
  have zf := hB2.frozen fr
  have zl := hB2.lt
  have hB3 := blk_setT (j := fr) (v := .bool true) hB2 (bls_upd hfr2)
  have hb12 := hb1.trans (hb2.mono hb1.size)
  have hb3 : Below w.heap.size w (w2.setCell ⟨(w.alloc (.cells #[.slice xta T xtc, .slice xna N xnc, .slice xaa L xac] 25)).heap.size, fr, none⟩ (.bool true)) := hb12.trans (belowAt (grownBy_set _ _ _ _) (B := w.heap.size) (fun i e => by injection e with e; have := hb1.size; omega) hb12.size)
  obtain ⟨g0, hg0⟩ : ∃ q, Hid ((w.alloc (.cells #[.slice xta T xtc, .slice xna N xnc, .slice xaa L xac] 25)).heap.size = q) := ⟨_, Lib.hid rfl⟩
  have hg1 : Hid (w.heap.size ≤ g0) := Lib.hid (by rw [← hg0.out]; exact hb1.size)
  rw [hg0.out] at hrun2 z0 zf zl hB3 hb3
  have HB3 := Lib.hid hB3
  have Hb3 := Lib.hid hb3
  have HN0 : Hid (∀ j, j ≤ TL → ((if j = fr then true else false) = true ↔ EndS V R toks (seq.take 0) fr j)) := Lib.hid (fun j _ => by
    rw [List.take_zero]
    show _ ↔ fr = j
    by_cases h : j = fr
    · subst h; simp
    · rw [if_neg h]; exact ⟨fun h => (by cases h), fun h2 => absurd h2.symm h⟩)
  clear hk hq hS hlo hb1 hB2 hb2 hz2 hB3 hb3 hb12
  go_enter Try.func103, Try.ntmps103
  go_upto_region 3 with fail
  generalize hV : World.setCell w2 _ _ = X3 at HB3 Hb3 ⊢
  clear hV z0 zf zl hrun2
  go_wp2_with (fail)
  go_loopw [11, 26] (fun nv iv wr => ∃ (k g : Nat) (f : Nat → Bool), k ≤ QL ∧ iv = .int .i64 (k : Int) ∧ nv = .slice (some ⟨g, 0, none⟩) m m ∧ Hid (w.heap.size ≤ g) ∧ Hid (Blk wr g 4 (bls f m)) ∧ Hid (∀ j, j ≤ TL → (f j = true ↔ EndS V R toks (seq.take k) fr j)) ∧ Hid (Below w.heap.size w wr)) (fun _ iv _ => QL - (RowKit.intOf iv).toNat)
  case atStart => exact ⟨0, g0, _, Nat.zero_le _, rfl, rfl, hg1, HB3, HN0, Hb3⟩
  case round =>
    clear HB3 HN0 Hb3 hg1
    obtain ⟨k, g, f, hk, rfl, rfl, HG, HB, HE, Hb⟩ := hrel
    by_cases hlt : k < QL
    · have hkI : (k : Int) < (QL : Int) := by omega
      have hkI0 : (0 : Int) ≤ (k : Int) := by omega
      have hkl : k < seq.length := by rw [hQL.out]; exact hlt
      obtain ⟨p, po, hqa⟩ := Hq.out.at_ k (by rw [List.length_map]; exact hkl)
      have c0 := (Hq.out.grown Hb.out).cell p po hqa k (by rw [List.length_map]; exact hkl)
      rw [List.getElem_map] at c0
      have hxq : seq[k]? = some seq[k] := List.getElem?_eq_getElem hkl
      have hxlo := Hlo.out seq[k] (List.getElem_mem hkl)
      obtain ⟨x, hx⟩ : ∃ v, Hid (seq[k] = v) := ⟨_, Lib.hid rfl⟩
      rw [hx.out] at c0 hxlo hxq
      have Hxq := Lib.hid hxq
      have hcl := World.block_lt_of_cell? _ _ c0
      obtain ⟨w4, hrun4, hB4, hb4, hz4⟩ := mk13_0 wr m ((TL : Int) + 1) hmI.out (by omega)
      have HG4 := Lib.hid (HB.out.below hb4 HB.out.lt)
      have Hb4 := Lib.hid (Hb.out.trans (hb4.mono Hb.out.size))
      obtain ⟨h, hh⟩ : ∃ q, Hid (wr.heap.size = q) := ⟨_, Lib.hid rfl⟩
      have hgh : Hid (g ≠ h ∧ w.heap.size ≤ h) := Lib.hid (by rw [← hh.out]; exact ⟨Nat.ne_of_lt HB.out.lt, Hb.out.size⟩)
      rw [hh.out] at hrun4 hB4
      have HB4 := Lib.hid hB4
      subst hqa
      clear hB4 hb4 hz4 hxq
      go_wp2_with (fail)
      clear c0 hrun4 hcl
      go_loopw [36] (fun iv wv => ∃ (i : Nat) (fn : Nat → Bool), i ≤ m ∧ iv = .int .i64 (i : Int) ∧ Hid (Blk wv g 4 (bls f m)) ∧ Hid (Blk wv h 4 (bls fn m)) ∧ Hid (NxP f fn V R toks x i TL) ∧ Hid (Below w.heap.size w wv)) (fun iv _ => m - (RowKit.intOf iv).toNat)
      case atStart => exact ⟨0, _, Nat.zero_le _, rfl, HG4, HB4, Lib.hid nx_zero, Hb4⟩
      case round =>
        clear HG4 HB4 Hb4 HB Hb
        obtain ⟨i, fn, hi, rfl, HG2, HN2, HX, Hbv⟩ := hrel
        by_cases hli : i < m
        · have hiI : (i : Int) < (m : Int) := by omega
          have hiI0 : (0 : Int) ≤ (i : Int) := by omega
          have x0 := HG2.out.cell i
          rw [bls_at hli] at x0
          have xl := HG2.out.lt
          cases hfi : f i with
          | false =>
            rw [hfi] at x0
            have HX2 := Lib.hid (nx_skip HX.out (.inl hfi))
            clear hfi HX
            go_wp2_with (fail)
            exact ⟨⟨i + 1, fn, by omega, by go_num, HG2, HN2, HX2, Hbv⟩, by simp [RowKit.intOf]; omega⟩
          | true =>
            rw [hfi] at x0
            have Hfi := Lib.hid hfi
            clear hfi
            by_cases hx0 : 0 ≤ x
            · by_cases hiT : i < TL
              · have hiTI : (i : Int) < (TL : Int) := by omega
                have hitl : i < toks.length := by rw [hTL.out]; exact hiT
                obtain ⟨r, ro, hka⟩ := Hk.out.at_ i (by rw [List.length_map]; exact hitl)
                have d0 := (Hk.out.grown Hbv.out).cell r ro hka i (by rw [List.length_map]; exact hitl)
                rw [List.getElem_map] at d0
                have hyq : toks[i]? = some toks[i] := List.getElem?_eq_getElem hitl
                obtain ⟨y, hy⟩ : ∃ v, Hid (toks[i] = v) := ⟨_, Lib.hid rfl⟩
                rw [hy.out] at d0 hyq
                have Hyq := Lib.hid hyq
                have hdl := World.block_lt_of_cell? _ _ d0
                subst hka
                clear hyq
                by_cases hyx : y = x
                · subst hyx
                  have hi1 : i + 1 < m := by have := Hm.out; omega
                  have hi1I : (i : Int) + 1 < (m : Int) := by omega
                  have hi1I0 : (0 : Int) ≤ (i : Int) + 1 := by omega
                  have hi1N : ((i : Int) + 1).toNat = i + 1 := by omega
                  have hwi : IntKind.i64.wrap ((i : Int) + 1) = (i : Int) + 1 := IntWalk.i64_in _ (by omega)
                  have z0 := HN2.out.cell (i + 1)
                  rw [bls_at hi1] at z0
                  have zf := HN2.out.frozen (i + 1)
                  have zl := HN2.out.lt
                  have HN3 := Lib.hid (blk_setT (j := i + 1) (v := .bool true) HN2.out (bls_upd hi1))
                  have HG3 := Lib.hid (blk_otherT (g' := h) (j := i + 1) (v := .bool true) HG2.out (fun e => hgh.out.1 e.symm))
                  have Hb3 := Lib.hid (Hbv.out.trans (belowAt (grownBy_set _ h (i + 1) (.bool true)) (B := w.heap.size) (fun i e => by injection e with e; have := hgh.out.2; omega) Hbv.out.size))
                  have HX2 := Lib.hid (nx_tok HX.out hx0 Hyq.out Hfi.out)
                  clear HX HN2 HG2 Hbv
                  go_wp2_with (fail)
                  exact ⟨⟨i + 1, _, by omega, by go_num, HG3, HN3, HX2, Hb3⟩, by simp [RowKit.intOf]; omega⟩
                · have HX2 := Lib.hid (nx_skip HX.out (.inr (no_tok hx0 (fun e => hyx (Option.some.inj (Hyq.out.symm.trans e))))))
                  clear HX
                  go_wp2_with (fail)
                  exact ⟨⟨i + 1, fn, by omega, by go_num, HG2, HN2, HX2, Hbv⟩, by simp [RowKit.intOf]; omega⟩
              · have hiTI : ¬ (i : Int) < (TL : Int) := by omega
                have HX2 := Lib.hid (nx_skip HX.out (.inr (no_tok hx0 (fun e => by
                  have h9 := (List.getElem?_eq_some_iff.1 e).1
                  rw [hTL.out] at h9
                  exact hiT h9))))
                clear HX
                go_wp2_with (fail)
                exact ⟨⟨i + 1, fn, by omega, by go_num, HG2, HN2, HX2, Hbv⟩, by simp [RowKit.intOf]; omega⟩
            · obtain ⟨kn, hkn⟩ : ∃ q, Hid (ruL x = q) := ⟨_, Lib.hid rfl⟩
              have hwk : IntKind.i64.wrap (-1 - x) = (kn : Int) := by
                have h9 := of_ruL (x := x) (by omega)
                rw [hkn.out] at h9
                rw [IntWalk.i64_in _ (by omega)]
                omega
              go_wp2_with (fail)
              clear x0 xl
              go_loopw [16] (fun jv wu => ∃ (j : Nat) (fu : Nat → Bool), i ≤ j ∧ j ≤ m ∧ jv = .int .i64 (j : Int) ∧ Hid (Blk wu g 4 (bls f m)) ∧ Hid (Blk wu h 4 (bls fu m)) ∧ Hid (RuP V R kn i TL j fn fu) ∧ Hid (Below w.heap.size w wu)) (fun jv _ => m - (RowKit.intOf jv).toNat)
              case atStart => exact ⟨i, fn, Nat.le_refl _, hi, rfl, HG2, HN2, Lib.hid ru_zero, Hbv⟩
              case round =>
                clear HG2 HN2 Hbv
                obtain ⟨j, fu, hij, hj, rfl, HG3, HN3, HRu, Hb3⟩ := hrel
                by_cases hkR : kn < R
                · have hkRI : (kn : Int) < (R : Int) := by omega
                  have hkRI0 : (0 : Int) ≤ (kn : Int) := by omega
                  by_cases hlj : j < m
                  · have hjI : (j : Int) < (m : Int) := by omega
                    have hjI0 : (0 : Int) ≤ (j : Int) := by omega
                    have hjT : j ≤ TL := by have := Hm.out; omega
                    have hsp := HSp.out.grown Hb3.out
                    have s0 := hsp.topAt hkR
                    have s1 := hsp.rowAt hkR hli
                    have s2 := hsp.celAt hkR hli hlj
                    obtain ⟨rb, hrb⟩ : ∃ q, Hid (spB b m kn = q) := ⟨_, Lib.hid rfl⟩
                    obtain ⟨cb, hcb⟩ : ∃ q, Hid (spB b m kn + 1 + i = q) := ⟨_, Lib.hid rfl⟩
                    rw [hcb.out] at s1 s2
                    rw [hrb.out] at s0 s1
                    have z0 := HN3.out.cell j
                    rw [bls_at hlj] at z0
                    have zf := HN3.out.frozen j
                    have zl := HN3.out.lt
                    have HRu2 := Lib.hid (ru_step HRu.out hij hjT hkR rfl)
                    have HN4 := Lib.hid (blk_setT (j := j) (v := .bool (fu j || V kn i j)) HN3.out (bls_upd hlj))
                    have HG4 := Lib.hid (blk_otherT (g' := h) (j := j) (v := .bool (fu j || V kn i j)) HG3.out (fun e => hgh.out.1 e.symm))
                    have Hb4 := Lib.hid (Hb3.out.trans (belowAt (grownBy_set _ h j (.bool (fu j || V kn i j))) (B := w.heap.size) (fun i e => by injection e with e; have := hgh.out.2; omega) Hb3.out.size))
                    clear HRu HN3 HG3 Hb3 hsp hrb hcb
                    obtain ⟨vv, hvv⟩ : ∃ q, Hid (V kn i j = q) := ⟨_, Lib.hid rfl⟩
                    rw [hvv.out] at s2 HRu2 HN4 HG4 Hb4
                    cases hfj : fu j with
                    | true =>
                      rw [hfj, Bool.true_or] at HN4 HG4 Hb4 HRu2
                      rw [hfj] at z0
                      clear hfj
                      go_wp2_with (fail)
                      exact ⟨⟨j + 1, _, by omega, by omega, by go_num, HG4, HN4, HRu2, Hb4⟩, by simp [RowKit.intOf]; omega⟩
                    | false =>
                      rw [hfj, Bool.false_or] at HN4 HG4 Hb4 HRu2
                      rw [hfj] at z0
                      clear hfj
                      go_wp2_with (fail)
                      exact ⟨⟨j + 1, _, by omega, by omega, by go_num, HG4, HN4, HRu2, Hb4⟩, by simp [RowKit.intOf]; omega⟩
                  · have hjI : ¬ (j : Int) < (m : Int) := by omega
                    have HX2 := Lib.hid (nx_rul HX.out (by omega) Hfi.out hTL.out (by rw [hkn.out]; exact HRu.out) (.inl (by have := Hm.out; omega)))
                    go_wp2_with (fail)
                    exact ⟨⟨i + 1, fu, by omega, by go_num, HG3, HN3, HX2, Hb3⟩, by simp [RowKit.intOf]; omega⟩
                · have hkRI : ¬ (kn : Int) < (R : Int) := by omega
                  have HX2 := Lib.hid (nx_rul HX.out (by omega) Hfi.out hTL.out (by rw [hkn.out]; exact HRu.out) (.inr (by rw [hkn.out]; omega)))
                  go_wp2_with (fail)
                  exact ⟨⟨i + 1, fu, by omega, by go_num, HG3, HN3, HX2, Hb3⟩, by simp [RowKit.intOf]; omega⟩
        · obtain rfl : i = m := by omega
          have hiI : ¬ (i : Int) < (i : Int) := by omega
          have HE2 := Lib.hid (nx_end HX.out Hm.out hTL.out HE.out Hxq.out)
          have HG5 : Hid (w.heap.size ≤ h) := Lib.hid hgh.out.2
          clear HX HE
          go_wp2_with (fail)
          exact ⟨⟨k + 1, h, fn, by omega, by go_num, rfl, HG5, HN2, HE2, Hbv⟩, by simp [RowKit.intOf]; omega⟩
    · obtain rfl : k = QL := by omega
      have hkI : ¬ (k : Int) < (k : Int) := by omega
      have HE2 : Hid (∀ j, j ≤ TL → (f j = true ↔ EndS V R toks seq fr j)) := Lib.hid (by
        have h9 := HE.out
        rw [← hQL.out, List.take_length] at h9
        exact h9)
      clear HE
      go_wp2_with (fail)
      exact bodyPost_ret (v := .slice (some ⟨g, 0, none⟩) m m) (by simp [results, Try.results103, go_sem]; try first | rfl | assumption | omega) rfl ⟨g, f, rfl, HB.out, HE2.out, HG.out, Hb.out⟩
end Go.Proofs.Ythogiakfbgehnaa

namespace Go.Proofs.Ythogiakfbgehnaa
open Go.RowKit Go.Maps

attribute [local go_sem] Oper.semAt_some

theorem upd_snd2 {al : List (List (List Int))} {toks : List Int} {V : Nat → Nat → Nat → Bool} (hs : SndS al toks V) {r i j : Nat} {a : List Int} (hr : r < al.length) (ha : a ∈ al.getD r []) (h : SpL al toks a i j) : SndS al toks (updS V r i j) := by
  intro r' i' j' hv
  unfold updS at hv
  split at hv
  · next e =>
    obtain ⟨rfl, rfl, rfl⟩ := e
    exact ⟨hr, a, ha, h⟩
  · exact hs _ _ _ hv
/-- Between two steps of known. -/
structure KnI (w W : World) (cs : List Value) (cb b L m : Nat) (al : List (List (List Int))) (toks : List Int) (V : Nat → Nat → Nat → Bool) : Prop where
  spr : SpR W b L m V
  box : Blk W cb 25 cs
  bel : Below w.heap.size w W
  snd : SndS al toks V
theorem KnI.grown {w W W' : World} {cs : List Value} {cb b L m : Nat} {al : List (List (List Int))} {toks : List Int} {V : Nat → Nat → Nat → Bool} (h : KnI w W cs cb b L m al toks V) (hb : Below W.heap.size W W') : KnI w W' cs cb b L m al toks V :=
  ⟨h.spr.grown hb, h.box.below hb h.box.lt, h.bel.trans (hb.mono h.bel.size), h.snd⟩
theorem KnI.put {w W : World} {cs : List Value} {cb b L m : Nat} {al : List (List (List Int))} {toks : List Int} {V : Nat → Nat → Nat → Bool} (h : KnI w W cs cb b L m al toks V) {r i j : Nat} {a : List Int} (hr : r < L) (hi : i < m) (hj : j < m) (hcb : cb < b) (hwb : w.heap.size ≤ b) (hal : al.length = L) (ha : a ∈ al.getD r []) (hs : SpL al toks a i j) : KnI w (W.setCell ⟨spB b m r + 1 + i, j, none⟩ (.bool true)) cs cb b L m al toks (updS V r i j) :=
  ⟨h.spr.upd hr hi hj, blk_otherT h.box (by have := spB_pos b m r; omega), h.bel.trans (belowAt (grownBy_set _ _ _ _) (B := w.heap.size) (fun i e => by injection e with e; have := spB_pos b m r; omega) h.bel.size), upd_snd2 h.snd (by omega) ha hs⟩
/-- What is not known, read off the memory. -/
def VW (W : World) (b m r i j : Nat) : Bool := match W.cell? ⟨spB b m r + 1 + i, j, none⟩ with | some (.bool x) => x | _ => false
theorem unkT_congr {R m : Nat} {V V' : Nat → Nat → Nat → Bool} (h : ∀ r i j, r < R → i < m → j < m → V r i j = V' r i j) : unkT R m V = unkT R m V' := by
  unfold unkT
  apply List.countP_congr
  intro x hx
  simp only [List.mem_flatMap, List.mem_range, List.mem_map] at hx
  obtain ⟨r, hr, i, hi, j, hj, rfl⟩ := hx
  dsimp only
  rw [h r i j hr hi hj]
theorem unk_VW {W : World} {b R m : Nat} {V : Nat → Nat → Nat → Bool} (h : SpR W b R m V) : unkT R m (VW W b m) = unkT R m V := unkT_congr (fun r i j hr hi hj => by unfold VW; rw [h.celAt hr hi hj])
def agN : Value → Nat | .bool true => 1 | _ => 0
/-- What one round of known has found: nothing, and then so much is closed; or something. -/
def PgK (L m : Nat) (V0 V : Nat → Nat → Nat → Bool) (bb : Bool) (D : Prop) : Prop := (bb = false → V = V0 ∧ D) ∧ (bb = true → unkT L m V < unkT L m V0)
theorem pg_keep {L m : Nat} {V0 V : Nat → Nat → Nat → Bool} {bb : Bool} {D D2 : Prop} (h : PgK L m V0 V bb D) (f : bb = false → V = V0 → D → D2) : PgK L m V0 V bb D2 := ⟨fun e => ⟨(h.1 e).1, f e (h.1 e).1 (h.1 e).2⟩, h.2⟩
theorem pg_mono {L m : Nat} {V0 V : Nat → Nat → Nat → Bool} {bb : Bool} {D D2 : Prop} (h : PgK L m V0 V bb D) (f : D → D2) : PgK L m V0 V bb D2 := pg_keep h (fun _ _ => f)
theorem pg_put {L m : Nat} {V0 V : Nat → Nat → Nat → Bool} {bb : Bool} {D D2 : Prop} {r i j : Nat} (h : PgK L m V0 V bb D) (hr : r < L) (hi : i < m) (hj : j < m) (hv : V r i j = false) : PgK L m V0 (updS V r i j) true D2 := by
  refine ⟨fun e => (by cases e), fun _ => ?_⟩
  have h1 := unkT_upd hr hi hj hv
  cases bb with
  | false => rw [(h.1 rfl).1] at h1 ⊢; exact h1
  | true => have := h.2 rfl; omega
theorem pg_lt {L m : Nat} {V0 V : Nat → Nat → Nat → Bool} {bb : Bool} {D : Prop} (h : PgK L m V0 V bb D) : 2 * unkT L m V + agN (.bool bb) < 2 * unkT L m V0 + agN (.bool true) := by
  cases bb with
  | false => rw [(h.1 rfl).1]; show _ + 0 < _ + 1; omega
  | true => have := h.2 rfl; show _ + 1 < _ + 1; omega
def CloK (al : List (List (List Int))) (toks : List Int) (V0 : Nat → Nat → Nat → Bool) (a : List Int) (r i j : Nat) : Prop := EndS V0 al.length toks a i j → V0 r i j = true
def DR (al : List (List (List Int))) (toks : List Int) (V0 : Nat → Nat → Nat → Bool) (r : Nat) : Prop := ∀ r', r' < r → ∀ a ∈ al.getD r' [], ∀ i, i ≤ toks.length → ∀ j, j ≤ toks.length → CloK al toks V0 a r' i j
def DQ (al : List (List (List Int))) (toks : List Int) (V0 : Nat → Nat → Nat → Bool) (r q : Nat) : Prop := DR al toks V0 r ∧ ∀ q', q' < q → ∀ a, (al.getD r [])[q']? = some a → ∀ i, i ≤ toks.length → ∀ j, j ≤ toks.length → CloK al toks V0 a r i j
def DI (al : List (List (List Int))) (toks : List Int) (V0 : Nat → Nat → Nat → Bool) (r q : Nat) (a : List Int) (i : Nat) : Prop := DQ al toks V0 r q ∧ ∀ i', i' < i → ∀ j, j ≤ toks.length → CloK al toks V0 a r i' j
def DJ (al : List (List (List Int))) (toks : List Int) (V0 : Nat → Nat → Nat → Bool) (r q : Nat) (a : List Int) (i j : Nat) : Prop := DI al toks V0 r q a i ∧ ∀ j', j' < j → CloK al toks V0 a r i j'
theorem dj_next {al : List (List (List Int))} {toks : List Int} {V0 : Nat → Nat → Nat → Bool} {r q : Nat} {a : List Int} {i j : Nat} (h : DJ al toks V0 r q a i j) (hc : CloK al toks V0 a r i j) : DJ al toks V0 r q a i (j + 1) := ⟨h.1, fun j' hj => by
  by_cases e : j' < j
  · exact h.2 j' e
  · have : j' = j := by omega
    subst this
    exact hc⟩
theorem dj_end {al : List (List (List Int))} {toks : List Int} {V0 : Nat → Nat → Nat → Bool} {r q : Nat} {a : List Int} {i m : Nat} (hm : toks.length + 1 = m) (h : DJ al toks V0 r q a i m) : DI al toks V0 r q a (i + 1) := ⟨h.1.1, fun i' hi j hj => by
  by_cases e : i' < i
  · exact h.1.2 i' e j hj
  · have : i' = i := by omega
    subst this
    exact h.2 j (by omega)⟩
theorem di_end {al : List (List (List Int))} {toks : List Int} {V0 : Nat → Nat → Nat → Bool} {r q : Nat} {a : List Int} {m : Nat} (hm : toks.length + 1 = m) (ha : (al.getD r [])[q]? = some a) (h : DI al toks V0 r q a m) : DQ al toks V0 r (q + 1) := ⟨h.1.1, fun q' hq a' ha' i hi j hj => by
  by_cases e : q' < q
  · exact h.1.2 q' e a' ha' i hi j hj
  · have : q' = q := by omega
    subst this
    rw [ha] at ha'
    injection ha' with ha'
    subst ha'
    exact h.2 i (by omega) j hj⟩
theorem dq_end {al : List (List (List Int))} {toks : List Int} {V0 : Nat → Nat → Nat → Bool} {r M : Nat} (hM : (al.getD r []).length = M) (h : DQ al toks V0 r M) : DR al toks V0 (r + 1) := fun r' hr a ha i hi j hj => by
  by_cases e : r' < r
  · exact h.1 r' e a ha i hi j hj
  · have : r' = r := by omega
    subst this
    obtain ⟨q', hq, he⟩ := List.mem_iff_getElem.1 ha
    exact h.2 q' (by omega) a (by rw [List.getElem?_eq_getElem hq, he]) i hi j hj
theorem dr_end {al : List (List (List Int))} {toks : List Int} {V0 : Nat → Nat → Nat → Bool} {L : Nat} (hL : al.length = L) (h : DR al toks V0 L) : ClsS al toks V0 := fun r hr a ha i hi j hj he => h r (by omega) a ha i hi j hj he
/-- What known comes to. -/
def KnQ (w : World) (L m : Nat) (al : List (List (List Int))) (toks : List Int) (e : Ending) (W : World) : Prop := ∃ (b : Nat) (V : Nat → Nat → Nat → Bool), e = .returned (.slice (some ⟨b, 0, none⟩) L L) ∧ SpR W b L m V ∧ SndS al toks V ∧ ClsS al toks V ∧ Below w.heap.size w W
set_option maxRecDepth 100000 in
set_option maxHeartbeats 16000000 in
theorem known_any (d : CfD) (ka : Option Addr) (kc : Nat) (toks : List Int) (w : World) (hd : CfAt w d) (hk : Ints w ka kc toks) (hlo : ∀ r ∈ d.alts, ∀ a ∈ r.ds, ∀ x ∈ a.l, -9223372036854775808 ≤ x) (hL : d.alts.length ≤ 1000) (hn : toks.length ≤ 1000) :
    Calls Try.prog 102 #[d.v, .slice ka toks.length kc] w (KnQ w d.alts.length (toks.length + 1) (d.alts.map IrD.p) toks) := by
  have hkm : toks.length ≤ kc ∧ kc ≤ 9223372036854775807 := ⟨by have := hk.le; rwa [List.length_map] at this, hk.max⟩
  have ham : d.alts.length ≤ d.ac ∧ d.ac ≤ 9223372036854775807 := ⟨by have := hd.alts.le; rwa [List.length_map] at this, hd.alts.max⟩
  have Hk := Lib.hid hk
  have Hru := Lib.hid hd.rules
  have Hlo := Lib.hid hlo
  obtain ⟨xta, hxta⟩ : ∃ q, Hid (d.ta = q) := ⟨_, Lib.hid rfl⟩
  obtain ⟨xna, hxna⟩ : ∃ q, Hid (d.na = q) := ⟨_, Lib.hid rfl⟩
  obtain ⟨xaa, hxaa⟩ : ∃ q, Hid (d.aa = q) := ⟨_, Lib.hid rfl⟩
  obtain ⟨xtc, hxtc⟩ : ∃ q, Hid (d.tc = q) := ⟨_, Lib.hid rfl⟩
  obtain ⟨xnc, hxnc⟩ : ∃ q, Hid (d.nc = q) := ⟨_, Lib.hid rfl⟩
  obtain ⟨xac, hxac⟩ : ∃ q, Hid (d.ac = q) := ⟨_, Lib.hid rfl⟩
  obtain ⟨T, HT⟩ : ∃ q, Hid (d.toks.length = q) := ⟨_, Lib.hid rfl⟩
  obtain ⟨N, HN⟩ : ∃ q, Hid (d.names.length = q) := ⟨_, Lib.hid rfl⟩
  obtain ⟨L, HL⟩ : ∃ q, Hid (d.alts.length = q) := ⟨_, Lib.hid rfl⟩
  have hdv : d.v = .agg #[.slice xta T xtc, .slice xna N xnc, .slice xaa L xac] := by unfold CfD.v; rw [hxta.out, hxna.out, hxaa.out, hxtc.out, hxnc.out, hxac.out, HT.out, HN.out, HL.out]
  have Hal : Hid (Vs w xaa xac (d.alts.map IrD.v)) := Lib.hid (by rw [← hxaa.out, ← hxac.out]; exact hd.alts)
  rw [hdv]
  rw [HL.out] at hL ham ⊢
  rw [hxac.out] at ham
  obtain ⟨TL, hTL⟩ : ∃ q, Hid (toks.length = q) := ⟨_, Lib.hid rfl⟩
  rw [hTL.out] at hkm hn ⊢
  obtain ⟨m, hm⟩ : ∃ q, Hid (TL + 1 = q) := ⟨_, Lib.hid rfl⟩
  rw [hm.out]
  have Hm2 : Hid (toks.length + 1 = m) := Lib.hid (by rw [hTL.out]; exact hm.out)
  have hmI : Hid (((TL : Int) + 1) = (m : Int)) := Lib.hid (by have := hm.out; omega)
  have hm2 : m ≤ 1001 := by have := hm.out; omega
  have hwn : IntKind.i64.wrap ((TL : Int) + 1) = (TL : Int) + 1 := IntWalk.i64_in _ (by omega)
  obtain ⟨al, hal⟩ : ∃ q, Hid (d.alts.map IrD.p = q) := ⟨_, Lib.hid rfl⟩
  rw [hal.out]
  have HaL : Hid (al.length = L) := Lib.hid (by rw [← hal.out, List.length_map, HL.out])
  have hb1 : Below w.heap.size w (w.alloc (.cells #[.slice xta T xtc, .slice xna N xnc, .slice xaa L xac] 25)) := (Below.refl _ w).alloc (Nat.le_refl _) _
  have hF := fresh_any L TL (w.alloc (.cells #[.slice xta T xtc, .slice xna N xnc, .slice xaa L xac] 25)) (by omega) (by omega)
  rw [hm.out] at hF
  have hA1 := Blk.new w 25 #[.slice xta T xtc, .slice xna N xnc, .slice xaa L xac]
  obtain ⟨b, hb⟩ : ∃ q, Hid ((w.alloc (.cells #[.slice xta T xtc, .slice xna N xnc, .slice xaa L xac] 25)).heap.size = q) := ⟨_, Lib.hid rfl⟩
  have hcb0 : w.heap.size < b := by rw [← hb.out]; exact hA1.lt
  obtain ⟨cb, hcb⟩ : ∃ q, Hid (w.heap.size = q) := ⟨_, Lib.hid rfl⟩
  have hcbb : Hid (cb < b ∧ w.heap.size ≤ b) := Lib.hid (by rw [← hcb.out]; omega)
  rw [hcb.out] at hA1
  rw [hb.out] at hF
  have HA1 : Hid (Blk (w.alloc (.cells #[.slice xta T xtc, .slice xna N xnc, .slice xaa L xac] 25)) cb 25 [.slice xta T xtc, .slice xna N xnc, .slice xaa L xac]) := Lib.hid hA1
  have Hb1 := Lib.hid hb1
  have HF := Lib.hid hF
  have hcbo := hcb.out
  clear hd hk hlo hdv hb1 hF hA1 hcb0 hxta hxna hxaa hxtc hxnc hxac
  go_enter Try.func102, Try.ntmps102
  go_upto_region 1 with fail
  clear hcbo
  generalize hV : World.alloc w _ = w1 at HA1 Hb1 HF hb ⊢
  clear hV
  have x2 := HA1.out.cell 2
  have xl := HA1.out.lt
  simp only [List.getElem?_cons_zero, List.getElem?_cons_succ] at x2
  go_wp2_with (fail)
  refine HF.out.mono ?_
  rintro e w2 ⟨rfl, hsp, hbF⟩
  rw [← hb.out] at hbF
  have HI0 : Hid (KnI w w2 [.slice xta T xtc, .slice xna N xnc, .slice xaa L xac] cb b L m al toks (fun _ _ _ => false)) := Lib.hid ⟨hsp, HA1.out.below hbF HA1.out.lt, Hb1.out.trans (hbF.mono Hb1.out.size), fun r i j h => by cases h⟩
  clear hsp hbF x2 xl HF HA1 Hb1 hb
  go_wp2_with (fail)
  go_loopw [6] (fun ag wr => ∃ (V : Nat → Nat → Nat → Bool) (bb : Bool), ag = .bool bb ∧ Hid (KnI w wr [.slice xta T xtc, .slice xna N xnc, .slice xaa L xac] cb b L m al toks V) ∧ Hid (bb = false → ClsS al toks V)) (fun ag wr => 2 * unkT L m (VW wr b m) + agN ag)
  case atStart => exact ⟨_, true, rfl, HI0, Lib.hid (fun h => by cases h)⟩
  case round =>
    clear HI0
    obtain ⟨V0, bb, rfl, HI, HC⟩ := hrel
    cases bb with
    | false =>
      have HC2 := Lib.hid (HC.out rfl)
      clear HC
      go_wp2_with (fail)
      exact bodyPost_ret (v := .slice (some ⟨b, 0, none⟩) L L) (by simp [results, Try.results102, go_sem]; try first | rfl | assumption | omega) rfl ⟨b, V0, rfl, HI.out.spr, HI.out.snd, HC2.out, HI.out.bel⟩
    | true =>
      obtain ⟨U, rfl⟩ : ∃ U, U = wr := ⟨_, rfl⟩
      have Hms := Lib.hid (unk_VW HI.out.spr)
      have x0 := HI.out.box.cell 0
      have x1 := HI.out.box.cell 1
      have x2 := HI.out.box.cell 2
      have xl := HI.out.box.lt
      simp only [List.getElem?_cons_zero, List.getElem?_cons_succ] at x0 x1 x2
      go_wp2_with (fail)
      clear x0 x1 x2 xl HC
      go_loopw [6, 24] (fun ag iv wv => ∃ (r : Nat) (V : Nat → Nat → Nat → Bool) (bb : Bool), r ≤ L ∧ ag = .bool bb ∧ iv = .int .i64 (r : Int) ∧ Hid (KnI w wv [.slice xta T xtc, .slice xna N xnc, .slice xaa L xac] cb b L m al toks V) ∧ Hid (PgK L m V0 V bb (DR al toks V0 r))) (fun _ iv _ => L - (RowKit.intOf iv).toNat)
      case atStart => exact ⟨0, V0, false, Nat.zero_le _, rfl, rfl, HI, Lib.hid ⟨fun _ => ⟨rfl, fun r' h => absurd h (by omega)⟩, fun h => by cases h⟩⟩
      case round =>
        clear HI
        obtain ⟨r, V, bb, hr, rfl, rfl, HI, HP⟩ := hrel
        by_cases hltr : r < L
        · have hrI : (r : Int) < (L : Int) := by omega
          have hrI0 : (0 : Int) ≤ (r : Int) := by omega
          have hrl : r < d.alts.length := by rw [HL.out]; exact hltr
          have hrow := Hal.out.grown HI.out.bel
          obtain ⟨p, po, hp⟩ := hrow.at_ r (by rw [List.length_map]; exact hrl)
          have c0 := hrow.cell p po hp r (by rw [List.length_map]; exact hrl)
          rw [List.getElem_map] at c0
          have hmem : d.alts[r] ∈ d.alts := List.getElem_mem hrl
          have hge : al.getD r [] = (d.alts[r]).p := by rw [← hal.out, List.getD_eq_getElem?_getD, List.getElem?_map, List.getElem?_eq_getElem hrl]; rfl
          have hAl := Hru.out _ hmem
          have hLo := Hlo.out _ hmem
          obtain ⟨e, he⟩ : ∃ v, Hid (d.alts[r] = v) := ⟨_, Lib.hid rfl⟩
          rw [he.out] at c0 hge hAl hLo
          obtain ⟨ed, ea, ec⟩ := e
          change _ = some (Value.slice ea ed.length ec) at c0
          dsimp only at hAl hLo
          have Hge : Hid (al.getD r [] = ed.map (fun d => d.l)) := Lib.hid hge
          have hem : ed.length ≤ ec ∧ ec ≤ 9223372036854775807 := ⟨by have := hAl.row.le; rwa [List.length_map] at this, hAl.row.max⟩
          have HAl := Lib.hid hAl
          have HLo := Lib.hid hLo
          have hcl := World.block_lt_of_cell? _ _ c0
          obtain ⟨M, hM⟩ : ∃ q, Hid (ed.length = q) := ⟨_, Lib.hid rfl⟩
          rw [hM.out] at c0 hem
          have HgM : Hid ((al.getD r []).length = M) := Lib.hid (by rw [Hge.out, List.length_map, hM.out])
          subst hp
          clear hrow hmem hge hAl hLo he
          go_wp2_with (fail)
          clear c0 hcl
          go_loopw [6, 31] (fun ag iv wv => ∃ (q : Nat) (V : Nat → Nat → Nat → Bool) (bb : Bool), q ≤ M ∧ ag = .bool bb ∧ iv = .int .i64 (q : Int) ∧ Hid (KnI w wv [.slice xta T xtc, .slice xna N xnc, .slice (some ⟨p, po, none⟩) L xac] cb b L m al toks V) ∧ Hid (PgK L m V0 V bb (DQ al toks V0 r q))) (fun _ iv _ => M - (RowKit.intOf iv).toNat)
          case atStart => exact ⟨0, V, bb, Nat.zero_le _, rfl, rfl, HI, Lib.hid (pg_mono HP.out (fun h => ⟨h, fun q' hq => absurd hq (by omega)⟩))⟩
          case round =>
            clear HI HP
            obtain ⟨q, V, bb, hq, rfl, rfl, HI, HP⟩ := hrel
            by_cases hltq : q < M
            · have hqI : (q : Int) < (M : Int) := by omega
              have hqI0 : (0 : Int) ≤ (q : Int) := by omega
              have hql : q < ed.length := by rw [hM.out]; exact hltq
              have hrow := HAl.out.row.grown HI.out.bel
              obtain ⟨p2, po2, hp2⟩ := hrow.at_ q (by rw [List.length_map]; exact hql)
              have c0 := hrow.cell p2 po2 hp2 q (by rw [List.length_map]; exact hql)
              rw [List.getElem_map] at c0
              have hmem : ed[q] ∈ ed := List.getElem_mem hql
              have hge : (al.getD r [])[q]? = some (ed[q]).l := by rw [Hge.out, List.getElem?_map, List.getElem?_eq_getElem hql]; rfl
              have hIn := HAl.out.nms _ hmem
              have hLo := HLo.out _ hmem
              obtain ⟨e, he⟩ : ∃ v, Hid (ed[q] = v) := ⟨_, Lib.hid rfl⟩
              rw [he.out] at c0 hge hIn hLo
              obtain ⟨el, ela, elc⟩ := e
              change _ = some (Value.slice ela el.length elc) at c0
              dsimp only at hIn hLo hge
              have Hgq := Lib.hid hge
              have HIn := Lib.hid hIn
              have HLq := Lib.hid hLo
              have hlm : el.length ≤ elc ∧ elc ≤ 9223372036854775807 := ⟨by have := hIn.le; rwa [List.length_map] at this, hIn.max⟩
              have hcl := World.block_lt_of_cell? _ _ c0
              obtain ⟨EL, hEL⟩ : ∃ q, Hid (el.length = q) := ⟨_, Lib.hid rfl⟩
              rw [hEL.out] at c0 hlm
              subst hp2
              clear hrow hmem hge hIn hLo he
              go_wp2_with (fail)
              clear c0 hcl
              go_loopw [6, 38] (fun ag iv wv => ∃ (i : Nat) (V : Nat → Nat → Nat → Bool) (bb : Bool), i ≤ m ∧ ag = .bool bb ∧ iv = .int .i64 (i : Int) ∧ Hid (KnI w wv [.slice xta T xtc, .slice xna N xnc, .slice (some ⟨p, po, none⟩) L xac] cb b L m al toks V) ∧ Hid (PgK L m V0 V bb (DI al toks V0 r q el i))) (fun _ iv _ => m - (RowKit.intOf iv).toNat)
              case atStart => exact ⟨0, V, bb, Nat.zero_le _, rfl, rfl, HI, Lib.hid (pg_mono HP.out (fun h => ⟨h, fun q' hq => absurd hq (by omega)⟩))⟩
              case round =>
                clear HI HP
                obtain ⟨i, V4, bb4, hi, rfl, rfl, HI, HP⟩ := hrel
                by_cases hlti : i < m
                · have hiI : (i : Int) < (TL : Int) + 1 := by have := hmI.out; omega
                  have hiI0 : (0 : Int) ≤ (i : Int) := by omega
                  have x0 := HI.out.box.cell 0
                  have x1 := HI.out.box.cell 1
                  have x2 := HI.out.box.cell 2
                  have xl := HI.out.box.lt
                  simp only [List.getElem?_cons_zero, List.getElem?_cons_succ] at x0 x1 x2
                  have hE := ends_any xta xna (some ⟨p, po, none⟩) T xtc N xnc L xac b L m V4 ela elc el ka kc toks i wr Hm2.out HI.out.spr (HIn.out.grown HI.out.bel) (Hk.out.grown HI.out.bel) HLq.out (by have := hTL.out; have := hm.out; omega) (by rw [hTL.out]; exact hn) hL
                  rw [hEL.out, hTL.out] at hE
                  have HE := Lib.hid hE
                  have Hcel : Hid (spB b m r + 1 + i < wr.heap.size) := Lib.hid (HI.out.spr.cel r i hltr hlti).lt
                  clear hE
                  go_wp2_with (fail)
                  refine HE.out.mono ?_
                  rintro e w4 ⟨g, f, rfl, hB, hf, hg, hbE⟩
                  have HI5 := Lib.hid (HI.out.grown hbE)
                  have HB5 := Lib.hid hB
                  have Hgn : Hid (spB b m r + 1 + i ≠ g) := Lib.hid (by have := Hcel.out; omega)
                  have HSL : Hid (∀ j, j ≤ TL → f j = true → SpL al toks el i j) := Lib.hid (fun j hj h => end_true HI.out.snd (by rw [HaL.out]; exact (hf j hj).1 h))
                  have HCl : Hid (bb4 = false → ∀ j, j ≤ TL → EndS V0 al.length toks el i j → f j = true) := Lib.hid (fun h j hj h2 => (hf j hj).2 (by rw [(HP.out.1 h).1, ← HaL.out]; exact h2))
                  clear hB hf hg hbE x0 x1 x2 xl HE Hcel HI
                  go_wp2_with (fail)
                  go_loopw [6, 48] (fun ag jv wu => ∃ (j : Nat) (V : Nat → Nat → Nat → Bool) (bb : Bool), j ≤ m ∧ ag = .bool bb ∧ jv = .int .i64 (j : Int) ∧ Hid (KnI w wu [.slice xta T xtc, .slice xna N xnc, .slice (some ⟨p, po, none⟩) L xac] cb b L m al toks V) ∧ Hid (Blk wu g 4 (bls f m)) ∧ Hid (PgK L m V0 V bb (DJ al toks V0 r q el i j)) ∧ Hid (bb = false → bb4 = false)) (fun _ jv _ => m - (RowKit.intOf jv).toNat)
                  case atStart => exact ⟨0, V4, bb4, Nat.zero_le _, rfl, rfl, HI5, HB5, Lib.hid (pg_mono HP.out (fun h => ⟨h, fun q' hq => absurd hq (by omega)⟩)), Lib.hid id⟩
                  case round =>
                    clear HI5 HB5 HP
                    obtain ⟨j, V, bb, hj, rfl, rfl, HI, HB, HP, Hbb⟩ := hrel
                    by_cases hltj : j < m
                    · have hjI : (j : Int) < (m : Int) := by omega
                      have hjI0 : (0 : Int) ≤ (j : Int) := by omega
                      have hjT : j ≤ TL := by have := hm.out; omega
                      have hii : (i : Int) < (m : Int) := by omega
                      have x0 := HB.out.cell j
                      rw [bls_at hltj] at x0
                      have xl := HB.out.lt
                      cases hfj : f j with
                      | false =>
                        rw [hfj] at x0
                        have HP2 := Lib.hid (pg_keep HP.out (fun e _ h => dj_next h (fun h2 => by
                          have h3 := HCl.out (Hbb.out e) j hjT h2
                          rw [hfj] at h3
                          cases h3)))
                        clear hfj HP
                        go_wp2_with (fail)
                        exact ⟨⟨j + 1, V, bb, by omega, rfl, by go_num, HI, HB, HP2, Hbb⟩, by simp [RowKit.intOf]; omega⟩
                      | true =>
                        rw [hfj] at x0
                        have Hfj := Lib.hid hfj
                        have s0 := HI.out.spr.topAt hltr
                        have s1 := HI.out.spr.rowAt hltr hlti
                        have s2 := HI.out.spr.celAt hltr hlti hltj
                        have sf := (HI.out.spr.cel r i hltr hlti).frozen j
                        have sl := (HI.out.spr.cel r i hltr hlti).lt
                        have ha : el ∈ al.getD r [] := List.mem_of_getElem? Hgq.out
                        have hI2 := HI.out.put hltr hlti hltj hcbb.out.1 hcbb.out.2 HaL.out ha (HSL.out j hjT Hfj.out)
                        have hB2 := blk_otherT (g' := spB b m r + 1 + i) (j := j) (v := .bool true) HB.out Hgn.out
                        obtain ⟨rb, hrb⟩ : ∃ q, Hid (spB b m r = q) := ⟨_, Lib.hid rfl⟩
                        obtain ⟨ceb, hceb⟩ : ∃ q, Hid (spB b m r + 1 + i = q) := ⟨_, Lib.hid rfl⟩
                        rw [hceb.out] at s1 s2 sf sl hI2 hB2
                        rw [hrb.out] at s0 s1
                        cases hv : V r i j with
                        | true =>
                          rw [hv] at s2
                          have HP2 := Lib.hid (pg_keep HP.out (fun _ e h => dj_next h (fun _ => by rw [← e]; exact hv)))
                          clear hv hfj HP hI2 hB2 ha hrb hceb
                          go_wp2_with (fail)
                          exact ⟨⟨j + 1, V, bb, by omega, rfl, by go_num, HI, HB, HP2, Hbb⟩, by simp [RowKit.intOf]; omega⟩
                        | false =>
                          rw [hv] at s2
                          have HP2 := Lib.hid (pg_put (D2 := DJ al toks V0 r q el i (j + 1)) HP.out hltr hlti hltj hv)
                          have HI2 := Lib.hid hI2
                          have HB2 := Lib.hid hB2
                          clear hv hfj HP hI2 hB2 ha hrb hceb
                          go_wp2_with (fail)
                          exact ⟨⟨j + 1, _, true, by omega, rfl, by go_num, HI2, HB2, HP2, Lib.hid (fun h => by cases h)⟩, by simp [RowKit.intOf]; omega⟩
                    · obtain rfl : j = m := by omega
                      have hjI : ¬ (j : Int) < (j : Int) := by omega
                      have HP2 := Lib.hid (pg_mono HP.out (dj_end Hm2.out))
                      clear HP
                      go_wp2_with (fail)
                      exact ⟨⟨i + 1, V, bb, by omega, rfl, by go_num, HI, HP2⟩, by simp [RowKit.intOf]; omega⟩
                · obtain rfl : i = m := by omega
                  have hiI : ¬ (i : Int) < (TL : Int) + 1 := by have := hmI.out; omega
                  have HP2 := Lib.hid (pg_mono HP.out (di_end Hm2.out Hgq.out))
                  clear HP
                  go_wp2_with (fail)
                  exact ⟨⟨q + 1, V4, bb4, by omega, rfl, by go_num, HI, HP2⟩, by simp [RowKit.intOf]; omega⟩
            · obtain rfl : q = M := by omega
              have hqI : ¬ (q : Int) < (q : Int) := by omega
              have HP2 := Lib.hid (pg_mono HP.out (dq_end HgM.out))
              clear HP
              go_wp2_with (fail)
              exact ⟨⟨r + 1, V, bb, by omega, rfl, by go_num, HI, HP2⟩, by simp [RowKit.intOf]; omega⟩
        · obtain rfl : r = L := by omega
          have hrI : ¬ (r : Int) < (r : Int) := by omega
          have HC2 : Hid (bb = false → ClsS al toks V) := Lib.hid (fun e => by rw [(HP.out.1 e).1]; exact dr_end HaL.out (HP.out.1 e).2)
          go_wp2_with (fail)
          exact ⟨⟨V, bb, rfl, HI, HC2⟩, by
            have h9 := pg_lt HP.out
            rw [← unk_VW HI.out.spr, ← Hms.out] at h9
            exact h9⟩
end Go.Proofs.Ythogiakfbgehnaa

namespace Go.Proofs.Ythogiakfbgehnaa
open Go.RowKit Go.Maps

attribute [local go_sem] Oper.semAt_some

set_option maxRecDepth 100000 in
set_option maxHeartbeats 16000000 in
theorem derives_any (d : CfD) (qa : Option Addr) (qc : Nat) (seq : List Int) (ka : Option Addr) (kc : Nat) (toks : List Int) (w : World) (hd : CfAt w d) (hq : Ints w qa qc seq) (hk : Ints w ka kc toks) (hlo : ∀ r ∈ d.alts, ∀ a ∈ r.ds, ∀ x ∈ a.l, -9223372036854775808 ≤ x) (hlq : ∀ x ∈ seq, -9223372036854775808 ≤ x) (hL : d.alts.length ≤ 1000) (hn : toks.length ≤ 1000) :
    Calls Try.prog 57 #[d.v, .slice qa seq.length qc, .slice ka toks.length kc] w fun e W => ∃ b, e = .returned (.bool b) ∧ (b = true ↔ SpL (d.alts.map IrD.p) toks seq 0 toks.length) ∧ Below w.heap.size w W := by
  have hkm : toks.length ≤ kc ∧ kc ≤ 9223372036854775807 := ⟨by have := hk.le; rwa [List.length_map] at this, hk.max⟩
  have hqm : seq.length ≤ qc ∧ qc ≤ 9223372036854775807 := ⟨by have := hq.le; rwa [List.length_map] at this, hq.max⟩
  have Hk := Lib.hid hk
  have Hq := Lib.hid hq
  have Hlq := Lib.hid hlq
  have hb1 : Below w.heap.size w (w.alloc (.cells #[.slice d.ta d.toks.length d.tc, .slice d.na d.names.length d.nc, .slice d.aa d.alts.length d.ac] 25)) := (Below.refl _ w).alloc (Nat.le_refl _) _
  have hKn := known_any d ka kc toks (w.alloc (.cells #[.slice d.ta d.toks.length d.tc, .slice d.na d.names.length d.nc, .slice d.aa d.alts.length d.ac] 25)).drew (hd.grown hb1.drew) (hk.grown hb1.drew) hlo hL hn
  obtain ⟨xta, hxta⟩ : ∃ q, Hid (d.ta = q) := ⟨_, Lib.hid rfl⟩
  obtain ⟨xna, hxna⟩ : ∃ q, Hid (d.na = q) := ⟨_, Lib.hid rfl⟩
  obtain ⟨xaa, hxaa⟩ : ∃ q, Hid (d.aa = q) := ⟨_, Lib.hid rfl⟩
  obtain ⟨xtc, hxtc⟩ : ∃ q, Hid (d.tc = q) := ⟨_, Lib.hid rfl⟩
  obtain ⟨xnc, hxnc⟩ : ∃ q, Hid (d.nc = q) := ⟨_, Lib.hid rfl⟩
  obtain ⟨xac, hxac⟩ : ∃ q, Hid (d.ac = q) := ⟨_, Lib.hid rfl⟩
  obtain ⟨T, HT⟩ : ∃ q, Hid (d.toks.length = q) := ⟨_, Lib.hid rfl⟩
  obtain ⟨N, HN⟩ : ∃ q, Hid (d.names.length = q) := ⟨_, Lib.hid rfl⟩
  obtain ⟨L, HL⟩ : ∃ q, Hid (d.alts.length = q) := ⟨_, Lib.hid rfl⟩
  have hdv : d.v = .agg #[.slice xta T xtc, .slice xna N xnc, .slice xaa L xac] := by unfold CfD.v; rw [hxta.out, hxna.out, hxaa.out, hxtc.out, hxnc.out, hxac.out, HT.out, HN.out, HL.out]
  rw [hdv] at hKn ⊢
  rw [hxta.out, hxna.out, hxaa.out, hxtc.out, hxnc.out, hxac.out, HT.out, HN.out, HL.out] at hKn hb1
  rw [HL.out] at hL
  obtain ⟨TL, hTL⟩ : ∃ q, Hid (toks.length = q) := ⟨_, Lib.hid rfl⟩
  obtain ⟨QL, hQL⟩ : ∃ q, Hid (seq.length = q) := ⟨_, Lib.hid rfl⟩
  rw [hTL.out] at hkm hn hKn ⊢
  rw [hQL.out] at hqm ⊢
  obtain ⟨m, hm⟩ : ∃ q, Hid (TL + 1 = q) := ⟨_, Lib.hid rfl⟩
  rw [hm.out] at hKn
  have Hm2 : Hid (toks.length + 1 = m) := Lib.hid (by rw [hTL.out]; exact hm.out)
  have hTm : (TL : Int) < (m : Int) := by have := hm.out; omega
  have hTm0 : (0 : Int) ≤ (TL : Int) := by omega
  obtain ⟨al, hal⟩ : ∃ q, Hid (d.alts.map IrD.p = q) := ⟨_, Lib.hid rfl⟩
  rw [hal.out] at hKn ⊢
  have HaL : Hid (al.length = L) := Lib.hid (by rw [← hal.out, List.length_map, HL.out])
  have HA1 := Lib.hid (Blk.new w 25 #[.slice xta T xtc, .slice xna N xnc, .slice xaa L xac])
  have Hb1 := Lib.hid hb1
  have HKn := Lib.hid hKn
  clear hd hk hq hlo hlq hdv hb1 hKn hxta hxna hxaa hxtc hxnc hxac
  go_enter Try.func57, Try.ntmps57
  go_upto_region 1 with fail
  obtain ⟨cb, hcb⟩ : ∃ q, Hid (w.heap.size = q) := ⟨_, Lib.hid rfl⟩
  rw [hcb.out] at HA1 ⊢
  generalize hV : World.alloc w _ = w1 at HA1 Hb1 HKn ⊢
  clear hV
  have HAd : Hid (Blk w1.drew cb 25 [.slice xta T xtc, .slice xna N xnc, .slice xaa L xac]) := Lib.hid HA1.out
  have HS : Hid (∀ W : World, Blk W cb 25 [.slice xta T xtc, .slice xna N xnc, .slice xaa L xac] → (W.cell? ⟨cb, 0, none⟩ = some (.slice xta T xtc) ∧ W.cell? ⟨cb, 1, none⟩ = some (.slice xna N xnc) ∧ W.cell? ⟨cb, 2, none⟩ = some (.slice xaa L xac))) := Lib.hid (fun W h => ⟨h.cell 0, h.cell 1, h.cell 2⟩)
  have HS0 := Lib.hid (HS.out w1.drew HAd.out)
  have hcl9 := HAd.out.lt
  clear HA1
  refine wp_region_held_drew (S := fun w' => w'.cell? ⟨cb, 0, none⟩ = some (.slice xta T xtc) ∧ w'.cell? ⟨cb, 1, none⟩ = some (.slice xna N xnc) ∧ w'.cell? ⟨cb, 2, none⟩ = some (.slice xaa L xac)) (by kernel_rfl) ?_ (fun hHeld => ?_)
  · exact HS0.out
  refine wpAnyH_take (i := 0) (v := ?_) (iatLS iatZS) (by kernel_rfl) (by kernel_rfl) (by kernel_rfl) (fun _ _ _ h => h) (Or.inl ⟨by rfl, ?_⟩) (by assumption) ?_
  rotate_left
  · intro w hSw
    try dsimp only at hSw
    go_simp
    all_goals with_reducible rfl
  try simp only [Act.put, List.setIfInBounds_toArray, List.set_cons_zero, List.set_cons_succ]
  refine wpAnyH_take (i := 1) (v := ?_) (iatLS (iatSS iatZS)) (by kernel_rfl) (by kernel_rfl) (by kernel_rfl) (fun _ _ _ h => h) (Or.inl ⟨by rfl, ?_⟩) (by assumption) ?_
  rotate_left
  · intro w hSw
    try dsimp only at hSw
    go_simp
    all_goals with_reducible rfl
  try simp only [Act.put, List.setIfInBounds_toArray, List.set_cons_zero, List.set_cons_succ]
  refine wpAnyH_take (i := 3) (v := ?_) (iatLS (iatSS (iatSS (iatSS iatZS)))) (by kernel_rfl) (by kernel_rfl) (by kernel_rfl) (fun _ _ _ h => h) (Or.inl ⟨by rfl, ?_⟩) (by assumption) ?_
  rotate_left
  · intro w hSw
    try dsimp only at hSw
    go_simp
    all_goals with_reducible rfl
  try simp only [Act.put, List.setIfInBounds_toArray, List.set_cons_zero, List.set_cons_succ]
  refine wpAnyH_take (i := 4) (v := ?_) (iatLS (iatSS (iatSS (iatSS (iatSS iatZS))))) (by kernel_rfl) (by kernel_rfl) (by kernel_rfl) (fun _ _ _ h => h) (Or.inl ⟨by rfl, ?_⟩) (by assumption) ?_
  rotate_left
  · intro w hSw
    try dsimp only at hSw
    go_simp
    all_goals with_reducible rfl
  try simp only [Act.put, List.setIfInBounds_toArray, List.set_cons_zero, List.set_cons_succ]
  refine wpAnyH_take (i := 5) (v := ?_) (iatLS (iatSS (iatSS (iatSS (iatSS (iatSS iatZS)))))) (by kernel_rfl) (by kernel_rfl) (by kernel_rfl) (fun _ _ _ h => h) (Or.inl ⟨by rfl, ?_⟩) (by assumption) ?_
  rotate_left
  · intro w hSw
    try dsimp only at hSw
    go_simp
    all_goals with_reducible rfl
  try simp only [Act.put, List.setIfInBounds_toArray, List.set_cons_zero, List.set_cons_succ]
  refine wpAnyH_take (i := 7) (v := ?_) (iatLS (iatSS (iatSS (iatSS (iatSS (iatSS (iatSS (iatSS iatZS)))))))) (by kernel_rfl) (by kernel_rfl) (by kernel_rfl) (fun _ _ _ h => h) (Or.inl ⟨by rfl, ?_⟩) (by assumption) ?_
  rotate_left
  · intro w hSw
    try dsimp only at hSw
    go_simp
    all_goals with_reducible rfl
  try simp only [Act.put, List.setIfInBounds_toArray, List.set_cons_zero, List.set_cons_succ]
  refine wpAnyH_take (i := 8) (v := ?_) (iatLS (iatSS (iatSS (iatSS (iatSS (iatSS (iatSS (iatSS (iatSS iatZS))))))))) (by kernel_rfl) (by kernel_rfl) (by kernel_rfl) (fun _ _ _ h => h) (Or.inl ⟨by rfl, ?_⟩) (by assumption) ?_
  rotate_left
  · intro w hSw
    try dsimp only at hSw
    go_simp
    all_goals with_reducible rfl
  try simp only [Act.put, List.setIfInBounds_toArray, List.set_cons_zero, List.set_cons_succ]
  refine wpAnyH_ready (rs := [2]) (by kernel_rfl) (by simp) ?_
  refine AllReadyH.cons (iatLS (iatSS (iatSS iatZS))) (fun K hK => ?_) AllReadyH.nil
  go_simp
  (with_reducible refine HKn.out.mono ?_)
  rintro e V2 ⟨b, V, rfl, hsp, hsn, hcl, hbK⟩
  have hb2 := Hb1.out.drew.trans (hbK.mono Hb1.out.drew.size)
  have hA2 := HAd.out.below hbK HAd.out.lt
  have hS2 := HS.out V2 hA2
  have hE := ends_any xta xna xaa T xtc N xnc L xac b L m V qa qc seq ka kc toks 0 V2 Hm2.out hsp (Hq.out.grown hb2) (Hk.out.grown hb2) Hlq.out (Nat.zero_le _) (by rw [hTL.out]; exact hn) hL
  rw [hTL.out, hQL.out, show ((0 : Nat) : Int) = 0 from rfl] at hE
  have HE := Lib.hid hE
  have HS2 := Lib.hid hS2
  have HA2 := Lib.hid hA2
  have Hb2 := Lib.hid hb2
  have Hsn := Lib.hid hsn
  have Hcl := Lib.hid hcl
  clear hE hsp hsn hcl hbK hb2 hA2 hS2
  try dsimp only
  refine hK.out _ _ ?_ (fun hHeld => ?_)
  · exact HS2.out
  clear hK K
  try simp only [Act.put, List.setIfInBounds_toArray, List.set_cons_zero, List.set_cons_succ]
  refine wpAnyH_ready (rs := [6]) (by kernel_rfl) (by simp) ?_
  refine AllReadyH.cons (iatLS (iatSS (iatSS (iatSS (iatSS (iatSS (iatSS iatZS))))))) (fun K hK => ?_) AllReadyH.nil
  go_simp
  (with_reducible refine HE.out.mono ?_)
  rintro e V6 ⟨g, f, rfl, hB, hf, hg, hbE⟩
  have HS6 := Lib.hid (HS.out V6 (HA2.out.below hbE HA2.out.lt))
  have Hb6 := Lib.hid (Hb2.out.trans (hbE.mono Hb2.out.size))
  have z0 := hB.cell TL
  rw [bls_at (by have := hm.out; omega)] at z0
  have zl := hB.lt
  obtain ⟨fv, hfv⟩ : ∃ q, Hid (f TL = q) := ⟨_, Lib.hid rfl⟩
  rw [hfv.out] at z0
  have HR : Hid (fv = true ↔ SpL al toks seq 0 TL) := Lib.hid (by
        rw [← hfv.out, hf TL (Nat.le_refl _), ← HaL.out]
        constructor
        · exact end_true Hsn.out
        · intro h9
          exact true_end Hcl.out h9 (Nat.zero_le _))
  clear hB hf hg hbE HE hfv
  try dsimp only
  refine hK.out _ _ ?_ (fun hHeld => ?_)
  · exact HS6.out
  clear hK K
  try simp only [Act.put, List.setIfInBounds_toArray, List.set_cons_zero, List.set_cons_succ]
  refine wpAnyH_take (i := 9) (v := ?_) (iatLS (iatSS (iatSS (iatSS (iatSS (iatSS (iatSS (iatSS (iatSS (iatSS iatZS)))))))))) (by kernel_rfl) (by kernel_rfl) (by kernel_rfl) (fun _ _ _ h => h) (Or.inl ⟨by rfl, ?_⟩) (by assumption) ?_
  rotate_left
  · intro w hSw
    try dsimp only at hSw
    go_simp
    all_goals with_reducible rfl
  try simp only [Act.put, List.setIfInBounds_toArray, List.set_cons_zero, List.set_cons_succ]
  refine wpAnyH_ready (rs := [10]) (by kernel_rfl) (by simp) ?_
  refine AllReadyH.cons (iatLS (iatSS (iatSS (iatSS (iatSS (iatSS (iatSS (iatSS (iatSS (iatSS (iatSS iatZS))))))))))) (fun K hK => ?_) AllReadyH.nil
  go_simp
  refine hK.out _ _ ?_ (fun hHeld => ?_)
  · exact HS6.out
  clear hK K
  try simp only [Act.put, List.setIfInBounds_toArray, List.set_cons_zero, List.set_cons_succ]
  refine wpAnyH_take (i := 11) (v := ?_) (iatLS (iatSS (iatSS (iatSS (iatSS (iatSS (iatSS (iatSS (iatSS (iatSS (iatSS (iatSS iatZS)))))))))))) (by kernel_rfl) (by kernel_rfl) (by kernel_rfl) (fun _ _ _ h => h) (Or.inl ⟨by rfl, ?_⟩) (by assumption) ?_
  rotate_left
  · intro w hSw
    try dsimp only at hSw
    go_simp
    all_goals with_reducible rfl
  try simp only [Act.put, List.setIfInBounds_toArray, List.set_cons_zero, List.set_cons_succ]
  refine wpAnyH_done (by kernel_rfl) ?_ _
  go_wp2_with (fail)
  exact bodyPost_ret (v := .bool fv) (by simp [results, Try.results57, go_sem]; try first | rfl | assumption | omega) rfl ⟨fv, rfl, HR.out, Hb6.out⟩
end Go.Proofs.Ythogiakfbgehnaa

namespace Go.Proofs.Ythogiakfbgehnaa
open Go.RowKit Go.Maps

attribute [local go_sem] Oper.semAt_some

theorem good_lo {d : CfD} {lo : Int} (hrg : ∀ r ∈ d.alts, ∀ a ∈ r.ds, ∀ x ∈ a.l, lo ≤ x) : ∀ {f : TrF} {ks : List Int}, goodW d f ks → (∀ k ∈ ks, lo ≤ k) → ∀ (p : Bool) (dd : Nat), ∀ x ∈ f.pre p dd, lo ≤ x.h.k
  | .nil, ks, _, _, p, dd, x, hx => by cases hx
  | .cons h kids rest, ks, hg, hk, p, dd, x, hx => by
    obtain ⟨ks', rfl, h2, h3⟩ := goodW_cons hg
    rw [TrF.pre_cons] at hx
    rcases List.mem_cons.1 hx with rfl | hx
    · exact hk _ (by simp)
    · rcases List.mem_append.1 hx with hx | hx
      · unfold told at hx
        split at hx
        · cases hx
        · rcases h2 with ⟨_, rfl, _⟩ | ⟨_, _, a, ha, hkg⟩
          · cases hx
          · obtain ⟨ru, hru, hm⟩ := altD_mem ha
            exact good_lo hrg hkg (fun k hk => hrg ru hru a hm k hk) p _ x hx
      · exact good_lo hrg h3 (fun k hk2 => hk k (List.mem_cons_of_mem _ hk2)) p _ x hx
end Go.Proofs.Ythogiakfbgehnaa

