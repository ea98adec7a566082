/- Texts of layer 2 joined: WRd PRd. -/
import Derived.Test.YtkdfobnkebkpfaaJBk
import Derived.Test.YtkdfobnkebkpfaaJO
set_option linter.unusedVariables false
set_option linter.unusedSimpArgs false
/- The law RegexReads. -/
namespace Go.Proofs.Ytkdfobnkebkpfaa
open Go.RowKit Go.Shelf

attribute [local go_sem] Oper.semAt_some

theorem ordP_length : ∀ (l : List Sp) (b : Nat), ordP l → (∀ t ∈ l, b ≤ t.lo.toNat) → b ≤ 256 → l.length ≤ 256 - b := by
  intro l
  induction l with
  | nil => intro b _ _ _; simp
  | cons s l ih =>
    rintro b ⟨h1, h2, h3⟩ hb _
    have hs := hb s (List.mem_cons_self ..)
    have hu := s.lo.toNat_lt
    have := ih (b + 1) h3 (fun t ht => by have := h2 t ht; omega) (by omega)
    simp only [List.length_cons]
    omega
theorem plain_set {h : Hd} {n : Nat} (hp : plainB h n = true) : h.set.length ≤ 256 := by
  unfold plainB at hp
  split at hp
  · simp at hp; simp [hp.1]
  · split at hp
    · simp only [Bool.and_eq_true] at hp
      have := ordP_length h.set 0 (ordB_ordP _ hp.1.2) (fun _ _ => Nat.zero_le _) (by omega)
      omega
    · split at hp
      · simp at hp; simp [hp.1]
      · split at hp
        · simp at hp; simp [hp.1]
        · cases hp
theorem okF_wt : ∀ (f : Fo), okF f → wtT f ≤ 2316 * f.size := by
  intro f
  induction f with
  | nil => intro _; simp [wtT]
  | cons h k r ihk ihr =>
    rintro ⟨h1, h2, h3⟩
    have := plain_set h1
    have := ihk h2
    have := ihr h3
    simp only [wtT, Fo.size]
    omega
theorem small_text {h : Hd} {k : Fo} (hc : ckE h k = 0) (hs : k.size ≤ 8192) : 9 * h.set.length + 12 + wtT k ≤ 140737488355328 := by
  obtain ⟨h1, h2⟩ := ckE_ok hc
  have := plain_set h1
  have := okF_wt k h2
  omega
theorem parseP_cases (l : List UInt8) : (∃ x, parseP l = (x, 0, 0) ∧ ckE x.h x.k = 0 ∧ x.k.size ≤ 8192) ∨ (∃ a e, parseP l = (zeroX, a, e) ∧ e ≠ 0) := by
  unfold parseP
  by_cases h : 4096 < l.length
  · rw [if_pos h]; exact .inr ⟨_, _, rfl, by decide⟩
  · rw [if_neg h]
    cases hd : altsP (8 * l.length + 8) l with
    | bad r => exact .inr ⟨_, _, rfl, by decide⟩
    | ok x r =>
      simp only
      by_cases h1 : r.length ≠ 0
      · rw [if_pos h1]; exact .inr ⟨_, _, rfl, by decide⟩
      · rw [if_neg h1]
        by_cases h2 : ckE x.h x.k ≠ 0
        · rw [if_pos h2]; exact .inr ⟨_, _, rfl, by decide⟩
        · rw [if_neg h2]
          have := (sized _).1 _ _ _ hd
          exact .inl ⟨x, rfl, by simpa using h2, by omega⟩

set_option maxRecDepth 100000 in
set_option maxHeartbeats 4000000 in
theorem regexReads_any (s : ByteArray) (w : World) (hm : s.size ≤ 9223372036854775807) :
    Calls Try.prog 8 #[.string s] w fun e w' => e = .returned (.bool true) ∧ Below w.heap.size w w' := by
  rcases parseP_cases s.data.toList with ⟨x, hp, hck, hsz⟩ | ⟨at_, e0, hp, he0⟩
  · have hpa := fun wx => parse_to s x wx hm hp
    obtain ⟨⟨hk, hs⟩, kids⟩ := x
    simp only at hck hsz hpa
    have Hpa := Lib.hid hpa
    have hwt := small_text hck hsz
    simp only at hwt
    obtain ⟨L, HL⟩ : ∃ L, Hid (kids.len = L) := ⟨_, Lib.hid rfl⟩
    obtain ⟨S, HS⟩ : ∃ L, Hid (hs.length = L) := ⟨_, Lib.hid rfl⟩
    rw [HL.out, HS.out] at Hpa
    clear hpa
    go_enter Try.func8, Try.ntmps8
    go_wp2_with (fail)
    refine (live_any _).mono ?_
    rintro e w1 ⟨rfl, hb1⟩
    go_wp2_with (fail)
    refine (Hpa.out _).mono ?_
    rintro e w2 ⟨ra, rc, ba, bc, rfl, hrs, hrI, hb2⟩
    have hbw2 := hb1.trans (hb2.mono hb1.size)
    have hA2 := Blk.new w2 25 #[.int .i64 hk, .slice ra S rc, .slice ba L bc]
    have hal : Below w2.heap.size w2 (w2.alloc (.cells #[.int .i64 hk, .slice ra S rc, .slice ba L bc] 25)) := (Below.refl _ w2).alloc (Nat.le_refl _) _
    have hbw3 := hbw2.trans (hal.mono hbw2.size)
    have hrs3 := hrs.grown hal
    have hrI3 := hrI.grown hal
    have htx := rtext_any ⟨hk, hs⟩ kids ra rc ba bc _ hrs3 hrI3 (by omega) (by simp only; omega)
    dsimp only [itemV] at htx
    obtain ⟨X, HX⟩ : ∃ X, Hid (txE ⟨hk, hs⟩ kids = X) := ⟨_, Lib.hid rfl⟩
    rw [HL.out, HS.out, hck, HX.out] at htx
    have Htx := Lib.hid htx
    clear htx hrs hrI hal hbw2 hb1 hb2
    have hA3 := hA2
    have z0 := hA2.cell 0
    have z1 := hA2.cell 1
    have z2 := hA2.cell 2
    have zl := hA2.lt
    simp only [List.getElem?_cons_zero, List.getElem?_cons_succ] at z0 z1 z2
    go_wp2_with (fail)
    generalize hW3 : w2.alloc (.cells #[.int .i64 hk, .slice ra S rc, .slice ba L bc] 25) = W3 at *
    clear hW3
    refine Htx.out.mono ?_
    rintro e w4 ⟨rfl, hb4⟩
    have hA4 := hA3.below hb4 hA3.lt
    have hbw4 := hbw3.trans (hb4.mono hbw3.size)
    have hrs4 := hrs3.grown hb4
    have hrI4 := hrI3.grown hb4
    have hck4 := rcheck_any ⟨hk, hs⟩ kids ra rc ba bc w4 hrs4 hrI4 (by omega)
    dsimp only [itemV] at hck4
    rw [HL.out, HS.out, show checkE (Fo.pre 1 (.cons ⟨hk, hs⟩ kids .nil)) = 0 from hck] at hck4
    have Hck4 := Lib.hid hck4
    clear hck4 hA2 hA3 hb4 hbw3 hrs3 hrI3 z0 z1 z2 zl
    have z0 := hA4.cell 0
    have z1 := hA4.cell 1
    have z2 := hA4.cell 2
    have zl := hA4.lt
    simp only [List.getElem?_cons_zero, List.getElem?_cons_succ] at z0 z1 z2
    go_wp2_with (fail)
    refine Hck4.out.mono ?_
    rintro e w5 ⟨rfl, hb5⟩
    have hA5 := hA4.below hb5 hA4.lt
    have hbw5 := hbw4.trans (hb5.mono hbw4.size)
    have hrs5 := hrs4.grown hb5
    have hrI5 := hrI4.grown hb5
    clear hA4 hb5 hbw4 hrs4 hrI4 z0 z1 z2 zl
    obtain ⟨Z, HZ⟩ : ∃ Z, Hid (X.length = Z) := ⟨_, Lib.hid rfl⟩
    have hzs : (⟨X.toArray⟩ : ByteArray).size = Z := by show X.toArray.size = Z; rw [List.size_toArray]; exact HZ.out
    by_cases hz : 4096 < Z
    · have hzI : (4096 : Int) < (Z : Int) := by omega
      go_wp2_with (fail)
      exact bodyPost_ret (v := .bool true) (by simp [results, Try.results8, go_sem]; try rfl) rfl ⟨rfl, hbw5⟩
    · have hzI : ¬ (4096 : Int) < (Z : Int) := by omega
      have hXt : Hid (X = textOf ⟨hk, hs⟩ kids) := Lib.hid (by rw [← HX.out, txE, if_pos hck])
      have hpt := parse_text (h := ⟨hk, hs⟩) (kids := kids) hck (by rw [← hXt.out, HZ.out]; omega)
      rw [← hXt.out] at hpt
      have hpa := parse_to ⟨X.toArray⟩ ⟨⟨hk, hs⟩, kids⟩ w5 (by rw [hzs]; omega) (by simpa using hpt)
      simp only at hpa
      rw [HL.out, HS.out] at hpa
      have Hpa2 := Lib.hid hpa
      clear hpa hpt
      go_wp2_with (fail)
      refine Hpa2.out.mono ?_
      rintro e w6 ⟨qa, qc, da, dc, rfl, hqs, hqI, hb6⟩
      have hA6 := hA5.below hb6 hA5.lt
      have hbw6 := hbw5.trans (hb6.mono hbw5.size)
      have hrs6 := hrs5.grown hb6
      have hrI6 := hrI5.grown hb6
      have hB6 := Blk.new w6 25 #[.int .i64 hk, .slice qa S qc, .slice da L dc]
      have hal : Below w6.heap.size w6 (w6.alloc (.cells #[.int .i64 hk, .slice qa S qc, .slice da L dc] 25)) := (Below.refl _ w6).alloc (Nat.le_refl _) _
      have hA7 := hA6.below hal hA6.lt
      have hbw7 := hbw6.trans (hal.mono hbw6.size)
      have hsame := refSame_any 8193 ⟨hk, hs⟩ ⟨hk, hs⟩ kids kids qa ra qc rc da ba dc bc _ (by omega) (hqs.grown hal) (hrs6.grown hal) (hqI.grown hal) (hrI6.grown hal)
      rw [hdB_self, sameB_self, Bool.and_self] at hsame
      dsimp only [itemV] at hsame
      rw [HL.out, HS.out] at hsame
      have Hsame := Lib.hid hsame
      have x0 := hA7.cell 0
      have x1 := hA7.cell 1
      have x2 := hA7.cell 2
      have xl := hA7.lt
      have y0 := hB6.cell 0
      have y1 := hB6.cell 1
      have y2 := hB6.cell 2
      simp only [List.getElem?_cons_zero, List.getElem?_cons_succ] at x0 x1 x2 y0 y1 y2
      clear hsame hA5 hA6 hB6 hrs5 hrI5 hrs6 hrI6 hqs hqI hb6 hal hbw5 hbw6 hA7
      go_wp2_with (fail)
      refine Hsame.out.mono ?_
      rintro e w8 ⟨rfl, hb8⟩
      go_wp2_with (fail)
      exact bodyPost_ret (v := .bool true) (by simp [results, Try.results8, go_sem]; try rfl) rfl ⟨rfl, hbw7.trans (hb8.mono hbw7.size)⟩
  · have hpa : ∀ wx, Calls Try.prog 21 #[.string s] wx fun e w' => ∃ sa sc a c, e = .returned (.tuple #[.agg #[.int .i64 0, .slice sa 0 sc, .slice a 0 c], .int .i64 (at_ : Int), .int .i64 e0]) ∧ Below wx.heap.size wx w' := fun wx => by
      refine (parse_any s wx hm).mono ?_
      rintro e w' ⟨⟨y, sa, sc, a, c⟩, hx, he, hP, hb⟩
      rw [hp] at hx he
      simp only at hx
      subst hx
      exact ⟨sa, sc, a, c, he, hb⟩
    have Hpa := Lib.hid hpa
    have hE1 : (e0 != 0) = true := by simp [he0]
    clear hpa
    go_enter Try.func8, Try.ntmps8
    go_wp2_with (fail)
    refine (live_any _).mono ?_
    rintro e w1 ⟨rfl, hb1⟩
    go_wp2_with (fail)
    refine (Hpa.out _).mono ?_
    rintro e w2 ⟨ra, rc, ba, bc, rfl, hb2⟩
    have hbw2 := hb1.trans (hb2.mono hb1.size)
    go_wp2_with (fail)
    exact bodyPost_ret (v := .bool true) (by simp [results, Try.results8, go_sem]; try rfl) rfl ⟨rfl, hbw2.alloc hbw2.size _⟩
end Go.Proofs.Ytkdfobnkebkpfaa

/- The row RegexReads: for every input: any text: the law answers true and changes nothing that was there; no premise beyond the row's own. -/
namespace Go.Proofs.Ytkdfobnkebkpfaa
open Go.ChangeShapes Go.WideShapes Go.ChangeAt Go.RowKit

set_option maxRecDepth 100000 in
theorem open_str {H : Type} {enc : TypeId × Value → H} {W : World} {v : Value} {d : DataW H} {ps : List MemPlace} (hok : Value.okWide Try.prog W .any 0 9 v) (h : DataW.Trod enc Try.prog W 0 (fun _ => true) true 9 v d ps) :
    ∃ s : ByteArray, v = .string s ∧ s.size ≤ 9223372036854775807 := by
  obtain ⟨s, rfl⟩ := okWide_string Try.underlying9 hok
  obtain ⟨fuel, hf⟩ := h
  obtain ⟨s', e, _, ws⟩ := DataW.trod_string Try.underlying9 hf
  simp only [Value.cells, List.cons.injEq, and_true] at e
  injection e with e
  subst e
  have hmax : maxLen ≤ 9223372036854775807 := by decide
  exact ⟨s, rfl, Nat.le_trans ws hmax⟩

set_option maxRecDepth 100000 in
theorem regexReads_lifted (os : Os) (started : os.Started) (H : Type) (enc : TypeId × Value → H) :
    ReturnsInHanded {} Try.checked os 8 .any (Rows.regexReadsSpec.pre6 enc Try.prog Try.f8 Rows.regexReadsRow.domain false) (Rows.regexReadsSpec.post enc Try.prog Try.f8 false true false false) := by
  refine returnsInHanded_of_change (C := Try.checked) Try.own started (by kernel_rfl) Try.func8
    (ChangeSpec.witness6 (enc := enc) (C := Try.checked) false ⟨#[], #[.string ⟨#[]⟩], []⟩ 8 (by kernel_rfl) (by kernel_rfl) (by kernel_rfl) (by kernel_rfl)) ?_
  intro W base args ds gs before hval0 hW _ _
  have hval : ∀ (j : Nat) t v, Try.f8.params[j]? = some t → args[j]? = some v → Value.okWide Try.prog W .any base t v := hval0
  have hW' := hW
  obtain ⟨p, q, hA0, hV, rfl, hfz, hnd⟩ := hW
  have hA : DataW.TrodAll enc Try.prog W 0 (fun _ => true) true Try.f8.params.toList args.toList ds p := hA0
  rw [Try.params8] at hA hval
  obtain ⟨v0, d0, rfl, rfl, h0⟩ := trodAll_one hA
  obtain ⟨s, rfl, hs⟩ := open_str (hval 0 9 v0 rfl rfl) h0
  refine (regexReads_any s W hs).mono fun e W' ⟨he, hw⟩ => ?_
  subst he
  exact ⟨_, rfl, law_post hW' rfl rfl (by kernel_rfl) (by rw [Try.params8]; intro t ht; simp at ht; subst ht; exact ⟨by kernel_rfl, of_decide_eq_true (by kernel_rfl)⟩) hw⟩

theorem regexReads_holds : Rows.RegexReadsSaid :=
  OpenClaim.holds_of_wide 8 Try.f8 rfl rfl rfl rfl rfl rfl rfl ⟨rfl, rfl, rfl, rfl, rfl⟩ rfl rfl rfl rfl rfl (by kernel_rfl) Try.func8 (by kernel_rfl)
    (of_decide_eq_true (by kernel_rfl)) (by unfold Func.isWrapper; first | (rw [if_pos (by decide +kernel)]; kernel_rfl) | (rw [if_neg (by decide +kernel)]; exact ⟨rfl, rfl⟩))
    (fun os started H enc _ => regexReads_lifted os started H enc)
end Go.Proofs.Ytkdfobnkebkpfaa
