/- Texts of layer 2 joined: WBk PBk. -/
import Derived.Test.YtkdfobnkebkpfaaJQ
import Derived.Test.YtkdfobnkebkpfaaJCk
import Derived.Test.YtkdfobnkebkpfaaJO
set_option linter.unusedVariables false
set_option linter.unusedSimpArgs false
/- The law RegexBack. -/
namespace Go.Proofs.Ytkdfobnkebkpfaa
open Go.RowKit Go.Shelf

attribute [local go_sem] Oper.semAt_some

theorem wtT_wt (f : Fo) : wtT f ≤ 12 * f.wt := by
  induction f with
  | nil => simp [wtT]
  | cons h k r ihk ihr => simp only [wtT, Fo.wt]; omega
theorem hdB_self (h : Hd) (n : Nat) : hdB h h n n = true := by simp [hdB, hd3]
theorem sameB_self (f : Fo) : sameB f f = true := by
  induction f with
  | nil => rfl
  | cons h k r ihk ihr => simp [sameB, hdB_self, ihk, ihr]
/-- Parse, where it goes. -/
theorem parse_to (s : ByteArray) (x : Ex) (w : World) (hm : s.size ≤ 9223372036854775807) (hp : parseP s.data.toList = (x, 0, 0)) : Calls Try.prog 21 #[.string s] w fun e w' => ∃ sa sc a c, e = .returned (.tuple #[.agg #[.int .i64 x.h.k, .slice sa x.h.set.length sc, .slice a x.k.len c], .int .i64 0, .int .i64 0]) ∧ Sps w' sa sc x.h.set ∧ Items w' a c x.k ∧ Below w.heap.size w w' := by
  refine (parse_any s w hm).mono ?_
  rintro e w' ⟨⟨y, sa, sc, a, c⟩, hx, he, hP, hb⟩
  rw [hp] at hx he
  simp only at hx
  subst hx
  exact ⟨sa, sc, a, c, he, hP.sps.sps, hP.items.items, hb⟩

set_option maxRecDepth 100000 in
set_option maxHeartbeats 4000000 in
theorem regexBack_any (h : Hd) (kids : Fo) (sa : Option Addr) (sc : Nat) (a : Option Addr) (cap : Nat) (w : World) (hss : Sps w sa sc h.set) (hI : Items w a cap kids) :
    Calls Try.prog 7 #[itemV h sa sc a kids.len cap] w fun e w' => e = .returned (.bool true) ∧ Below w.heap.size w w' := by
  obtain ⟨hk, hs⟩ := h
  dsimp only [itemV] at *
  obtain ⟨L, HL⟩ : ∃ L, Hid (kids.len = L) := ⟨_, Lib.hid rfl⟩
  obtain ⟨S, HS⟩ : ∃ L, Hid (hs.length = L) := ⟨_, Lib.hid rfl⟩
  rw [HL.out, HS.out]
  have hA0 := Blk.new w 25 #[.int .i64 hk, .slice sa S sc, .slice a L cap]
  have hb0 : Below w.heap.size w (w.alloc (.cells #[.int .i64 hk, .slice sa S sc, .slice a L cap] 25)) := (Below.refl w.heap.size w).alloc (Nat.le_refl _) _
  go_enter Try.func7, Try.ntmps7
  go_wp2_with (fail)
  refine (live_any _).mono ?_
  rintro e w1 ⟨rfl, hb1⟩
  have hA1 := hA0.below hb1 hA0.lt
  have hbw1 : Below w.heap.size w w1 := hb0.trans (hb1.mono hb0.size)
  clear hA0 hb0 hb1
  have hl1 := hA1.lt
  have x0 := hA1.cell 0
  have x1 := hA1.cell 1
  have x2 := hA1.cell 2
  simp only [List.getElem?_cons_zero, List.getElem?_cons_succ] at x0 x1 x2
  have hR := Blk.new w1 25 #[.int .i64 hk, .slice sa S sc, .slice a L cap]
  have hbR : Below w1.heap.size w1 (w1.alloc (.cells #[.int .i64 hk, .slice sa S sc, .slice a L cap] 25)) := (Below.refl _ w1).alloc (Nat.le_refl _) _
  have hIr := (hI.grown hbw1).grown hbR
  have hsr := (hss.grown hbw1).grown hbR
  have hIt : Items (w1.alloc (.cells #[.int .i64 hk, .slice sa S sc, .slice a L cap] 25)) (some ⟨w1.heap.size, 0, none⟩) 1 (.cons ⟨hk, hs⟩ kids .nil) :=
    ⟨by simp [Fo.len], by omega, fun e => (by cases e), fun _ => ⟨_, _, rfl, hR.cell 0, ⟨sa, sc, by rw [HS.out]; exact hR.cell 1, hsr⟩, ⟨a, cap, by rw [HL.out]; exact hR.cell 2, hIr.le, hIr.max, hIr.nil_, hIr.at_⟩, trivial⟩⟩
  have hbig := big_any _ _ _ _ hIt
  obtain ⟨B, HB⟩ : ∃ B, Hid (bigB (.cons ⟨hk, hs⟩ kids .nil) = B) := ⟨_, Lib.hid rfl⟩
  rw [HB.out] at hbig
  simp only [Fo.len, Nat.zero_add, Nat.reduceAdd] at hbig
  go_wp2_with (fail)
  refine hbig.mono ?_
  rintro e w3 ⟨rfl, hb3⟩
  have hb13 : Below w1.heap.size w1 w3 := hbR.trans (hb3.mono hbR.size)
  have hA3 := hA1.below hb13 hA1.lt
  have hbw3 : Below w.heap.size w w3 := hbw1.trans (hb13.mono hbw1.size)
  have hI3 := hI.grown hbw3
  have hs3 := hss.grown hbw3
  clear hA1 hR hbR hIr hsr hIt hbig hb3 hb13 hbw1 x0 x1 x2 hl1
  cases B
  case true =>
    go_wp2_with (fail)
    exact bodyPost_ret (v := .bool true) (by simp [results, Try.results7, go_sem]; try rfl) rfl ⟨rfl, hbw3⟩
  have hsz : kids.wt + hs.length + 1 ≤ 1000 := by
    have h1 := few_wt (bigB_one HB.out)
    simp only at h1
    omega
  have hkz : kids.size ≤ 1000 := by have := Fo.size_wt kids; omega
  have hwt := wtT_wt kids
  have htx := rtext_any ⟨hk, hs⟩ kids sa sc a cap w3 hs3 hI3 (by omega) (by simp only; omega)
  dsimp only [itemV] at htx
  rw [HL.out, HS.out] at htx
  obtain ⟨E, HE⟩ : ∃ E : Int, Hid (ckE ⟨hk, hs⟩ kids = E) := ⟨_, Lib.hid rfl⟩
  obtain ⟨X, HX⟩ : ∃ X, Hid (txE ⟨hk, hs⟩ kids = X) := ⟨_, Lib.hid rfl⟩
  rw [HE.out, HX.out] at htx
  have x0 := hA3.cell 0
  have x1 := hA3.cell 1
  have x2 := hA3.cell 2
  have xl := hA3.lt
  simp only [List.getElem?_cons_zero, List.getElem?_cons_succ] at x0 x1 x2
  go_wp2_with (fail)
  refine htx.mono ?_
  rintro e w4 ⟨rfl, hb4⟩
  have hA4 := hA3.below hb4 hA3.lt
  have hbw4 : Below w.heap.size w w4 := hbw3.trans (hb4.mono hbw3.size)
  clear htx hA3 hb4 hbw3 hI3 hs3 x0 x1 x2 xl
  obtain ⟨Z, HZ⟩ : ∃ Z, Hid (X.length = Z) := ⟨_, Lib.hid rfl⟩
  have hzs : (⟨X.toArray⟩ : ByteArray).size = Z := by show X.toArray.size = Z; rw [List.size_toArray]; exact HZ.out
  by_cases hE : E = 0
  · have hE1 : (E != 0) = false := by simp [hE]
    have hE2 : (E == 0) = true := by simp [hE]
    have HE0 := Lib.hid hE
    clear hE
    by_cases hz : 4096 < Z
    · have hzI : (4096 : Int) < (Z : Int) := by omega
      go_wp2_with (fail)
      exact bodyPost_ret (v := .bool true) (by simp [results, Try.results7, go_sem]; try rfl) rfl ⟨rfl, hbw4⟩
    · have hzI : ¬ (4096 : Int) < (Z : Int) := by omega
      have hXt : Hid (X = textOf ⟨hk, hs⟩ kids) := Lib.hid (by rw [← HX.out, txE, if_pos (HE.out.trans HE0.out)])
      have hpt := parse_text (h := ⟨hk, hs⟩) (kids := kids) (HE.out.trans HE0.out) (by rw [← hXt.out, HZ.out]; omega)
      rw [← hXt.out] at hpt
      have hpa := parse_to ⟨X.toArray⟩ ⟨⟨hk, hs⟩, kids⟩ w4 (by rw [hzs]; omega) (by simpa using hpt)
      simp only at hpa
      rw [HL.out, HS.out] at hpa
      have Hpa := Lib.hid hpa
      clear hpa hpt
      go_wp2_with (fail)
      refine Hpa.out.mono ?_
      rintro e w5 ⟨ra, rc, ba, bc, rfl, hrs, hrI, hb5⟩
      have hA5 := hA4.below hb5 hA4.lt
      have hbw5 := hbw4.trans (hb5.mono hbw4.size)
      have hB5 := Blk.new w5 25 #[.int .i64 hk, .slice ra S rc, .slice ba L bc]
      have hal : Below w5.heap.size w5 (w5.alloc (.cells #[.int .i64 hk, .slice ra S rc, .slice ba L bc] 25)) := (Below.refl _ w5).alloc (Nat.le_refl _) _
      have hA6 := hA5.below hal hA5.lt
      have hbw6 := hbw5.trans (hal.mono hbw5.size)
      have hrs6 := hrs.grown hal
      have hrI6 := hrI.grown hal
      have hss6 := hss.grown hbw6
      have hI6 := hI.grown hbw6
      have hsame := refSame_any 1001 ⟨hk, hs⟩ ⟨hk, hs⟩ kids kids ra sa rc sc ba a bc cap _ (by omega) hrs6 hss6 hrI6 hI6
      rw [hdB_self, sameB_self, Bool.and_self] at hsame
      dsimp only [itemV] at hsame
      rw [HL.out, HS.out] at hsame
      have Hsame := Lib.hid hsame
      have x0 := hA6.cell 0
      have x1 := hA6.cell 1
      have x2 := hA6.cell 2
      have xl := hA6.lt
      have y0 := hB5.cell 0
      have y1 := hB5.cell 1
      have y2 := hB5.cell 2
      simp only [List.getElem?_cons_zero, List.getElem?_cons_succ] at x0 x1 x2 y0 y1 y2
      clear hsame hA4 hA5 hB5 hrs hrI hrs6 hrI6 hss6 hI6 hb5 hal hbw4 hbw5 hA6 hss hI
      go_wp2_with (fail)
      refine Hsame.out.mono ?_
      rintro e w7 ⟨rfl, hb7⟩
      go_wp2_with (fail)
      exact bodyPost_ret (v := .bool true) (by simp [results, Try.results7, go_sem]; try rfl) rfl ⟨rfl, hbw6.trans (hb7.mono hbw6.size)⟩
  · have hE1 : (E != 0) = true := by simp [hE]
    have hE2 : (E == 0) = false := by simp [hE]
    obtain rfl : X = [] := by rw [← HX.out, txE, if_neg (by rw [HE.out]; exact hE)]
    clear hE hA4 hss hI
    go_wp2_with (fail)
    exact bodyPost_ret (v := .bool true) (by simp [results, Try.results7, go_sem]; try rfl) rfl ⟨rfl, hbw4⟩
end Go.Proofs.Ytkdfobnkebkpfaa

/- The row RegexBack: for every input: any expression: the law answers true and changes nothing that was there; no premise beyond the row's own. -/
namespace Go.Proofs.Ytkdfobnkebkpfaa
open Go.ChangeShapes Go.WideShapes Go.ChangeAt Go.RowKit

set_option maxRecDepth 100000 in
theorem regexBack_lifted (os : Os) (started : os.Started) (H : Type) (enc : TypeId × Value → H) :
    ReturnsInHanded {} Try.checked os 7 .any (Rows.regexBackSpec.pre6 enc Try.prog Try.f7 Rows.regexBackRow.domain false) (Rows.regexBackSpec.post enc Try.prog Try.f7 false true false false) := by
  refine returnsInHanded_of_change (C := Try.checked) Try.own started (by kernel_rfl) Try.func7
    (ChangeSpec.witness6 (enc := enc) (C := Try.checked) false ⟨#[], #[.agg #[.int .i64 0, .slice none 0 0, .slice none 0 0]], []⟩ 8 (by kernel_rfl) (by kernel_rfl) (by kernel_rfl) (by kernel_rfl)) ?_
  intro W base args ds gs before hval0 hW _ _
  have hval : ∀ (j : Nat) t v, Try.f7.params[j]? = some t → args[j]? = some v → Value.okWide Try.prog W .any base t v := hval0
  have hW' := hW
  obtain ⟨p, q, hA0, hV, rfl, hfz, hnd⟩ := hW
  have hA : DataW.TrodAll enc Try.prog W 0 (fun _ => true) true Try.f7.params.toList args.toList ds p := hA0
  rw [Try.params7] at hA hval
  obtain ⟨v0, d0, rfl, rfl, h0⟩ := trodAll_one hA
  obtain ⟨h, sa, sc, a, cap, kids, rfl, hs, hI⟩ := open_re (hval 0 25 v0 rfl rfl) h0
  refine (regexBack_any h kids sa sc a cap W hs hI).mono fun e W' ⟨he, hw⟩ => ?_
  subst he
  exact ⟨_, rfl, law_post hW' rfl rfl (by kernel_rfl) (by rw [Try.params7]; intro t ht; simp at ht; subst ht; exact ⟨by kernel_rfl, of_decide_eq_true (by kernel_rfl)⟩) hw⟩

theorem regexBack_holds : Rows.RegexBackSaid :=
  OpenClaim.holds_of_wide 7 Try.f7 rfl rfl rfl rfl rfl rfl rfl ⟨rfl, rfl, rfl, rfl, rfl⟩ rfl rfl rfl rfl rfl (by kernel_rfl) Try.func7 (by kernel_rfl)
    (of_decide_eq_true (by kernel_rfl)) (by unfold Func.isWrapper; first | (rw [if_pos (by decide +kernel)]; kernel_rfl) | (rw [if_neg (by decide +kernel)]; exact ⟨rfl, rfl⟩))
    (fun os started H enc _ => regexBack_lifted os started H enc)
end Go.Proofs.Ytkdfobnkebkpfaa
