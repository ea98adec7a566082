/- Texts of layer 2 joined: WPa PPa. -/
import Derived.Test.YtkdfobnkebkpfaaJU7
import Derived.Test.YtkdfobnkebkpfaaJRr
import Derived.Test.YtkdfobnkebkpfaaJO
set_option linter.unusedVariables false
set_option linter.unusedSimpArgs false
/- The law RegexParses. -/
namespace Go.Proofs.Ytkdfobnkebkpfaa
open Go.RowKit Go.Shelf

attribute [local go_sem] Oper.semAt_some

theorem parA_at {l : List UInt8} {hk : Int} {hs : List Sp} {kids : Fo} {at_ : Nat} {e0 : Int} (hp : parseP l = (⟨⟨hk, hs⟩, kids⟩, at_, e0)) {w w' : World} {e : Ending} (h : ParA l w e w') :
    ∃ sa sc a c, e = .returned (.tuple #[.agg #[.int .i64 hk, .slice sa hs.length sc, .slice a kids.len c], .int .i64 (at_ : Int), .int .i64 e0]) ∧ Sps w' sa sc hs ∧ Items w' a c kids ∧ Below w.heap.size w w' := by
  obtain ⟨⟨y, sa, sc, a, c⟩, hx, he, hP, hb⟩ := h
  rw [hp] at hx he
  simp only at hx
  subst hx
  exact ⟨sa, sc, a, c, he, hP.sps.sps, hP.items.items, hb⟩
theorem parseP_size (l : List UInt8) : (parseP l).1.k.size ≤ 8192 := by
  rcases parseP_cases l with ⟨x, hp, _, hs⟩ | ⟨a, e, hp, _⟩
  · rw [hp]; exact hs
  · rw [hp]; exact Nat.zero_le _

set_option maxRecDepth 100000 in
set_option maxHeartbeats 4000000 in
theorem regexParses_any (s : ByteArray) (w : World) (hm : s.size ≤ 9223372036854775807) :
    Calls Try.prog 4 #[.string s] w fun e w' => e = .returned (.bool true) ∧ Below w.heap.size w w' := by
  have hsz := parseP_size s.data.toList
  obtain ⟨⟨⟨⟨hk, hs⟩, kids⟩, at_, e0⟩, hp⟩ : ∃ x, parseP s.data.toList = x := ⟨_, rfl⟩
  rw [hp] at hsz
  simp only at hsz
  have hpa := fun wx => (parse_any s wx hm).mono (fun _ _ h => parA_at hp h)
  have hpb := fun wx => (rparse_any s wx hm).mono (fun _ _ h => parA_at hp h)
  obtain ⟨L, HL⟩ : ∃ L, Hid (kids.len = L) := ⟨_, Lib.hid rfl⟩
  obtain ⟨S, HS⟩ : ∃ L, Hid (hs.length = L) := ⟨_, Lib.hid rfl⟩
  rw [HL.out, HS.out] at hpa hpb
  have Hpa := Lib.hid hpa
  have Hpb := Lib.hid hpb
  clear hpa hpb hp
  go_enter Try.func4, Try.ntmps4
  go_wp2_with (fail)
  refine (live_any _).mono ?_
  rintro e w1 ⟨rfl, hb1⟩
  go_wp2_with (fail)
  refine (Hpa.out _).mono ?_
  rintro e w2 ⟨ra, rc, ba, bc, rfl, hrs, hrI, hb2⟩
  have hbw2 := hb1.trans (hb2.mono hb1.size)
  have hA2 := Blk.new w2 25 #[.int .i64 hk, .slice ra S rc, .slice ba L bc]
  have hal : Below w2.heap.size w2 (w2.alloc (.cells #[.int .i64 hk, .slice ra S rc, .slice ba L bc] 25)) := (Below.refl _ w2).alloc (Nat.le_refl _) _
  have hbw3 := hbw2.trans (hal.mono hbw2.size)
  have hrs3 := hrs.grown hal
  have hrI3 := hrI.grown hal
  clear hrs hrI hal hbw2 hb1 hb2
  go_wp2_with (fail)
  generalize hW3 : w2.alloc (.cells #[.int .i64 hk, .slice ra S rc, .slice ba L bc] 25) = W3 at *
  clear hW3
  refine (Hpb.out _).mono ?_
  rintro e w4 ⟨qa, qc, da, dc, rfl, hqs, hqI, hb4⟩
  have hA4 := hA2.below hb4 hA2.lt
  have hbw4 := hbw3.trans (hb4.mono hbw3.size)
  have hrs4 := hrs3.grown hb4
  have hrI4 := hrI3.grown hb4
  have hB4 := Blk.new w4 25 #[.int .i64 hk, .slice qa S qc, .slice da L dc]
  have hal : Below w4.heap.size w4 (w4.alloc (.cells #[.int .i64 hk, .slice qa S qc, .slice da L dc] 25)) := (Below.refl _ w4).alloc (Nat.le_refl _) _
  have hA5 := hA4.below hal hA4.lt
  have hbw5 := hbw4.trans (hal.mono hbw4.size)
  have hsame := refSame_any 8193 ⟨hk, hs⟩ ⟨hk, hs⟩ kids kids ra qa rc qc ba da bc dc _ (by omega) (hrs4.grown hal) (hqs.grown hal) (hrI4.grown hal) (hqI.grown hal)
  rw [hdB_self, sameB_self, Bool.and_self] at hsame
  dsimp only [itemV] at hsame
  rw [HL.out, HS.out] at hsame
  have Hsame := Lib.hid hsame
  have x0 := hA5.cell 0
  have x1 := hA5.cell 1
  have x2 := hA5.cell 2
  have xl := hA5.lt
  have y0 := hB4.cell 0
  have y1 := hB4.cell 1
  have y2 := hB4.cell 2
  simp only [List.getElem?_cons_zero, List.getElem?_cons_succ] at x0 x1 x2 y0 y1 y2
  clear hsame hA2 hA4 hB4 hrs3 hrI3 hrs4 hrI4 hqs hqI hb4 hal hbw3 hbw4 hA5
  go_wp2_with (fail)
  refine Hsame.out.mono ?_
  rintro e w8 ⟨rfl, hb8⟩
  go_wp2_with (fail)
  exact bodyPost_ret (v := .bool true) (by simp [results, Try.results4, go_sem]; try rfl) rfl ⟨rfl, hbw5.trans (hb8.mono hbw5.size)⟩
end Go.Proofs.Ytkdfobnkebkpfaa

/- The row RegexParses: for every input: any text: its reading is the document's: the law answers true and changes nothing that was there; no premise beyond the row's own. -/
namespace Go.Proofs.Ytkdfobnkebkpfaa
open Go.ChangeShapes Go.WideShapes Go.ChangeAt Go.RowKit

set_option maxRecDepth 100000 in
theorem regexParses_lifted (os : Os) (started : os.Started) (H : Type) (enc : TypeId × Value → H) :
    ReturnsInHanded {} Try.checked os 4 .any (Rows.regexParsesSpec.pre6 enc Try.prog Try.f4 Rows.regexParsesRow.domain false) (Rows.regexParsesSpec.post enc Try.prog Try.f4 false true false false) := by
  refine returnsInHanded_of_change (C := Try.checked) Try.own started (by kernel_rfl) Try.func4
    (ChangeSpec.witness6 (enc := enc) (C := Try.checked) false ⟨#[], #[.string ⟨#[]⟩], []⟩ 8 (by kernel_rfl) (by kernel_rfl) (by kernel_rfl) (by kernel_rfl)) ?_
  intro W base args ds gs before hval0 hW _ _
  have hval : ∀ (j : Nat) t v, Try.f4.params[j]? = some t → args[j]? = some v → Value.okWide Try.prog W .any base t v := hval0
  have hW' := hW
  obtain ⟨p, q, hA0, hV, rfl, hfz, hnd⟩ := hW
  have hA : DataW.TrodAll enc Try.prog W 0 (fun _ => true) true Try.f4.params.toList args.toList ds p := hA0
  rw [Try.params4] at hA hval
  obtain ⟨v0, d0, rfl, rfl, h0⟩ := trodAll_one hA
  obtain ⟨s, rfl, hs⟩ := open_str (hval 0 9 v0 rfl rfl) h0
  refine (regexParses_any s W hs).mono fun e W' ⟨he, hw⟩ => ?_
  subst he
  exact ⟨_, rfl, law_post hW' rfl rfl (by kernel_rfl) (by rw [Try.params4]; intro t ht; simp at ht; subst ht; exact ⟨by kernel_rfl, of_decide_eq_true (by kernel_rfl)⟩) hw⟩

theorem regexParses_holds : Rows.RegexParsesSaid :=
  OpenClaim.holds_of_wide 4 Try.f4 rfl rfl rfl rfl rfl rfl rfl ⟨rfl, rfl, rfl, rfl, rfl⟩ rfl rfl rfl rfl rfl (by kernel_rfl) Try.func4 (by kernel_rfl)
    (of_decide_eq_true (by kernel_rfl)) (by unfold Func.isWrapper; first | (rw [if_pos (by decide +kernel)]; kernel_rfl) | (rw [if_neg (by decide +kernel)]; exact ⟨rfl, rfl⟩))
    (fun os started H enc _ => regexParses_lifted os started H enc)
end Go.Proofs.Ytkdfobnkebkpfaa
