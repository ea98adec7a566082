/- Texts of layer 2 joined: WSp PSp. -/
import Derived.Test.YtanbhbcifcjfpaaJN
import Derived.Test.YtanbhbcifcjfpaaJO
set_option linter.unusedVariables false
set_option linter.unusedSimpArgs false
/- The law RegexSpans. -/
namespace Go.Proofs.Ytanbhbcifcjfpaa
open Go.RowKit Go.Shelf

attribute [local go_sem] Oper.semAt_some

theorem checkE_set {S : List Sp} (h0 : 0 < S.length) (ho : ordB S = true) : checkE (Fo.pre 1 (.cons ⟨2, S⟩ .nil .nil)) = 0 := by
  simp [checkE, Fo.pre, plainB, ho, h0, Fo.len]

set_option maxRecDepth 100000 in
set_option maxHeartbeats 2000000 in
theorem regexSpans_any (a : Option Addr) (cap : Nat) (l : List Sp) (c : Nat) (hc : c < 256) (w : World) (hs : Sps w a cap l) :
    Calls Try.prog 10 #[.slice a l.length cap, .int .u8 (c : Int)] w fun e w' => e = .returned (.bool true) ∧ Below w.heap.size w w' := by
  have hle := hs.le
  have hmx := hs.max
  have hSp := fun wx (hbx : Below w.heap.size w wx) => Spans_any a l.length cap l wx (hs.grown hbx) rfl
  have hIn := fun wx (hbx : Below w.heap.size w wx) => in_any a cap l c hc wx (hs.grown hbx)
  obtain ⟨L, HL⟩ : ∃ L, Hid (l.length = L) := ⟨_, Lib.hid rfl⟩
  rw [HL.out] at hle ⊢
  rw [HL.out] at hSp hIn
  have HSp := Lib.hid hSp
  have HIn := Lib.hid hIn
  clear hSp hIn
  go_enter Try.func10, Try.ntmps10
  go_wp2_with (fail)
  refine (live_any _).mono ?_
  rintro e w1 ⟨rfl, hb1⟩
  by_cases hL : 300 < L
  · have hLI : (300 : Int) < (L : Int) := by omega
    go_wp2_with (fail)
    exact bodyPost_ret (v := .bool true) (by simp [results, Try.results10, go_sem]; try rfl) rfl ⟨rfl, hb1⟩
  · have hLI : ¬ (300 : Int) < (L : Int) := by omega
    go_wp2_with (fail)
    refine (HSp.out _ hb1).mono ?_
    rintro e w2 ⟨⟨a2, c2, rfl, hs2⟩, hb2⟩
    have hbw2 := hb1.trans (hb2.mono hb1.size)
    have hmem : Hid (inSp (spP (inSp l) 256) c = inSp l c) := Lib.hid (spP_mem' l c)
    have hidem : Hid (spP (inSp (spP (inSp l) 256)) 256 = spP (inSp l) 256) := Lib.hid (spP_idem l)
    have hord : Hid (ordB (spP (inSp l) 256) = true) := Lib.hid (spP_ord l)
    generalize spP (inSp l) 256 = S at *
    have hsle := hs2.le
    have hsmx := hs2.max
    have hin2 := in_any a2 c2 S c hc w2 hs2
    rw [hmem.out] at hin2
    have hSp3 := fun wx (hbx : Below w2.heap.size w2 wx) => Spans_any a2 S.length c2 S wx (hs2.grown hbx) rfl
    have hCk := fun wx (hbx : Below w2.heap.size w2 wx) (h0 : 0 < S.length) => rcheck_any ⟨2, S⟩ .nil a2 c2 none 0 wx (hs2.grown hbx) (Items.nil wx) (by simp [Fo.size])
    have HSm := Lib.hid (fun wx (hbx : Below w2.heap.size w2 wx) a3 c3 (hs3 : Sps wx a3 c3 S) => sameSpans_any a3 a2 c3 c2 S S wx hs3 (hs2.grown hbx))
    obtain ⟨N, HN⟩ : ∃ L, Hid (S.length = L) := ⟨_, Lib.hid rfl⟩
    rw [HN.out] at hin2 hsle ⊢
    obtain ⟨q, Hq⟩ : ∃ q, Hid (inSp l c = q) := ⟨_, Lib.hid rfl⟩
    rw [Hq.out] at hin2
    have HSp3 := Lib.hid hSp3
    have HCk := Lib.hid hCk
    clear hSp3 hCk hs2 hs
    go_wp2_with (fail)
    refine hin2.mono ?_
    rintro e w3 ⟨rfl, hb3⟩
    have hbw3 := hbw2.trans (hb3.mono hbw2.size)
    have HIn3 := HIn.out _ hbw3
    rw [Hq.out] at HIn3
    go_wp2_with (fail)
    refine HIn3.mono ?_
    rintro e w4 ⟨rfl, hb4⟩
    have hb24 := hb3.trans (hb4.mono hb3.size)
    have hbw4 := hbw2.trans (hb24.mono hbw2.size)
    have hq1 : (q == q) = true := by cases q <;> rfl
    have h3 := HSp3.out _ hb24
    rw [hidem.out, HN.out] at h3
    clear hb3 hb4 hbw3 HIn3
    go_wp2_with (fail)
    refine h3.mono ?_
    rintro e w5 ⟨⟨a5, c5, rfl, hs5⟩, hb5⟩
    have hb25 := hb24.trans (hb5.mono hb24.size)
    have hbw5 := hbw2.trans (hb25.mono hbw2.size)
    have h5 := HSm.out _ hb25 a5 c5 hs5
    simp only [decide_true, HN.out] at h5
    clear hb24 hb5 hbw4 h3 hs5
    go_wp2_with (fail)
    refine h5.mono ?_
    rintro e w6 ⟨rfl, hb6⟩
    have hb26 := hb25.trans (hb6.mono hb25.size)
    have hbw6 := hbw2.trans (hb26.mono hbw2.size)
    clear hb25 hb6 hbw5 h5
    by_cases h0 : N = 0
    · have h0I : ((N : Int) == 0) = true := by simp [h0]
      go_wp2_with (fail)
      all_goals exact bodyPost_ret (v := .bool true) (by simp [results, Try.results10, go_sem]; try rfl) rfl ⟨rfl, hbw6⟩
    · have h0I : ((N : Int) == 0) = false := by rw [beq_eq_false_iff_ne]; omega
      have h7 := HCk.out _ hb26 (by rw [HN.out]; omega)
      rw [checkE_set (by rw [HN.out]; omega) hord.out] at h7
      dsimp only [itemV, Fo.len] at h7
      rw [HN.out] at h7
      go_wp2_with (fail)
      refine h7.mono ?_
      rintro e w8 ⟨rfl, hb8⟩
      go_wp2_with (fail)
      exact bodyPost_ret (v := .bool true) (by simp [results, Try.results10, go_sem]; try rfl) rfl ⟨rfl, hbw6.trans (hb8.mono hbw6.size)⟩
end Go.Proofs.Ytanbhbcifcjfpaa

/- The row RegexSpans: for every input: any spans, any byte: the law answers true and changes nothing that was there; no premise beyond the row's own. -/
namespace Go.Proofs.Ytanbhbcifcjfpaa
open Go.ChangeShapes Go.WideShapes Go.ChangeAt Go.RowKit

set_option maxRecDepth 100000 in
theorem open_u8 {H : Type} {enc : TypeId × Value → H} {W : World} {v : Value} {d : DataW H} {ps : List MemPlace} (hok : Value.okWide Try.prog W .any 0 5 v) (h : DataW.Trod enc Try.prog W 0 (fun _ => true) true 5 v d ps) :
    ∃ n : Nat, n < 256 ∧ v = .int .u8 (n : Int) := by
  obtain ⟨k, rfl, _, _, w0⟩ := open_int Try.underlying5 hok h
  simp [Lit.wf, IntKind.min, IntKind.max, IntKind.signed, IntKind.bits] at w0
  exact ⟨k.toNat, by omega, by congr 1; omega⟩

set_option maxRecDepth 100000 in
theorem regexSpans_lifted (os : Os) (started : os.Started) (H : Type) (enc : TypeId × Value → H) :
    ReturnsInHanded {} Try.checked os 10 .any (Rows.regexSpansSpec.pre6 enc Try.prog Try.f10 Rows.regexSpansRow.domain false) (Rows.regexSpansSpec.post enc Try.prog Try.f10 false true false false) := by
  refine returnsInHanded_of_change (C := Try.checked) Try.own started (by kernel_rfl) Try.func10
    (ChangeSpec.witness6 (enc := enc) (C := Try.checked) false ⟨#[], #[.slice none 0 0, .int .u8 0], []⟩ 8 (by kernel_rfl) (by kernel_rfl) (by kernel_rfl) (by kernel_rfl)) ?_
  intro W base args ds gs before hval0 hW _ _
  have hval : ∀ (j : Nat) t v, Try.f10.params[j]? = some t → args[j]? = some v → Value.okWide Try.prog W .any base t v := hval0
  have hW' := hW
  obtain ⟨p, q, hA0, hV, rfl, hfz, hnd⟩ := hW
  have hA : DataW.TrodAll enc Try.prog W 0 (fun _ => true) true Try.f10.params.toList args.toList ds p := hA0
  rw [Try.params10] at hA hval
  obtain ⟨v0, v1, d0, d1, p0, p1, rfl, rfl, rfl, h0, h1⟩ := trodAll_two hA
  obtain ⟨a, cap, l, rfl, hS⟩ := open_sps (hval 0 22 v0 rfl rfl) h0
  obtain ⟨c, hc, rfl⟩ := open_u8 (hval 1 5 v1 rfl rfl) h1
  refine (regexSpans_any a cap l c hc W hS).mono fun e W' ⟨he, hw⟩ => ?_
  subst he
  exact ⟨_, rfl, law_post hW' rfl rfl (by kernel_rfl) (by rw [Try.params10]; intro t ht; simp at ht; rcases ht with rfl | rfl; exact ⟨by kernel_rfl, of_decide_eq_true (by kernel_rfl)⟩; exact ⟨by kernel_rfl, of_decide_eq_true (by kernel_rfl)⟩) hw⟩

theorem regexSpans_holds : Rows.RegexSpansSaid :=
  OpenClaim.holds_of_wide 10 Try.f10 rfl rfl rfl rfl rfl rfl rfl ⟨rfl, rfl, rfl, rfl, rfl⟩ rfl rfl rfl rfl rfl (by kernel_rfl) Try.func10 (by kernel_rfl)
    (of_decide_eq_true (by kernel_rfl)) (by unfold Func.isWrapper; first | (rw [if_pos (by decide +kernel)]; kernel_rfl) | (rw [if_neg (by decide +kernel)]; exact ⟨rfl, rfl⟩))
    (fun os started H enc _ => regexSpans_lifted os started H enc)
end Go.Proofs.Ytanbhbcifcjfpaa
