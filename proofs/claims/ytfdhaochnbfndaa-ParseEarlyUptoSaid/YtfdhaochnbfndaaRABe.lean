/- The row ParseEarly in its second form: for every grammar by numbers and two lists of tokens whose reading is of bulk at most 1048576: the law answers true and changes nothing that was there. -/
/- Texts joined: PLe. -/
import Derived.Test.YtfdhaochnbfndaaRABd
import Derived.Test.YtfdhaochnbfndaaRAAy
set_option linter.unusedVariables false
set_option linter.unusedSimpArgs false
namespace Go.Proofs.Ytfdhaochnbfndaa
open Go.ChangeShapes Go.WideShapes Go.ChangeAt Go.RowKit
set_option maxRecDepth 100000 in
theorem parseEarly_contract (H : Type) (enc : TypeId × Value → H) (W : World) (args : Array Value) (ds gs : List (DataW H)) (before : List MemPlace)
 (hval : ∀ (j : Nat) t v, Try.f9.params[j]? = some t → args[j]? = some v → Value.okWide Try.prog W .any 0 t v)
 (hW : DataW.Whole enc Try.prog Try.f9.params.toList Rows.parseEarlySpec.vars false W args.toList ds gs before) (hk : Rows.uptoSmall H (ds ++ gs) = true) :
 Calls Try.prog 9 args W fun e W' => ∃ v, e = .returned v ∧ Rows.parseEarlySpec.post enc Try.prog Try.f9 false true false false W args v W' := by
 have hW' := hW
 obtain ⟨p, q, hA0, hV, rfl, hfz, hnd⟩ := hW
 have hA : DataW.TrodAll enc Try.prog W 0 (fun _ => true) true Try.f9.params.toList args.toList ds p := hA0
 rw [Try.params9] at hA hval
 obtain ⟨v0, v1, v2, d0, d1, d2, p0, p1, p2, rfl, rfl, rfl, h0, h1, h2⟩ := trodAll_three hA
 have hb : Rows.uptoBulkAll ([d0, d1, d2] ++ gs) ≤ 1048576 := of_decide_eq_true hk
 simp only [List.cons_append, List.nil_append, Rows.uptoBulkAll] at hb
 obtain ⟨c, rfl, hc, z1, z2, z3, hz⟩ := open_cfg2 (hval 0 25 v0 rfl rfl) h0
 obtain ⟨a1, c1, l1, rfl, hl1, hr1⟩ := open_ints2 (hval 1 35 v1 rfl rfl) h1
 obtain ⟨a2, c2, l2, rfl, hl2, hr2⟩ := open_ints2 (hval 2 35 v2 rfl rfl) h2
 refine (lawEarly11_any c a1 c1 l1 a2 c2 l2 W hc z1 z2 z3 (by omega) hl1 hl2).mono fun e W' ⟨he, hw⟩ => ?_
 subst he
 exact ⟨_, rfl, law_post hW' rfl rfl (by kernel_rfl) (by rw [Try.params9]; intro t ht; simp at ht; rcases ht with rfl | rfl | rfl <;> exact ⟨by kernel_rfl, of_decide_eq_true (by kernel_rfl)⟩) hw⟩
set_option maxRecDepth 100000 in
theorem parseEarly_lifted (os : Os) (started : os.Started) (H : Type) (enc : TypeId × Value → H) (F : Stop.Interp) :
 ReturnsInHanded {} Try.checked os 9 .any ((Rows.OpenSpec.upto Rows.parseEarlySpec).pre6 enc Try.prog Try.f9 Rows.parseEarlyUptoRow.domain false) (((Rows.OpenSpec.upto Rows.parseEarlySpec).at F).post enc Try.prog Try.f9 false true false false) := by
 refine returnsInHanded_of_cond (C := Try.checked) (s := Rows.OpenSpec.upto Rows.parseEarlySpec) (k := Rows.uptoSmall) rfl Try.own started (by kernel_rfl) Try.func9
  (OpenSpec.witness (enc := enc) (C := Try.checked) (s := Rows.OpenSpec.upto Rows.parseEarlySpec) (k := Rows.uptoSmall) rfl false ⟨#[], #[.agg #[.slice none 0 0, .slice none 0 0, .slice none 0 0], .slice none 0 0, .slice none 0 0], []⟩ 8 (by kernel_rfl) (by kernel_rfl) (by kernel_rfl)
   (x := ([.agg [.nil, .nil, .nil], .nil, .nil], [], [])) (by kernel_rfl) rfl (by kernel_rfl)) ?_
 intro W base args ds gs before hval hW _ hk _
 exact parseEarly_contract H enc W args ds gs before hval hW hk
theorem parseEarly_holds : Rows.ParseEarlyUptoSaid :=
 OpenClaim.holds_of_cond 9 Try.f9 rfl rfl rfl rfl rfl rfl rfl ⟨rfl, rfl, rfl, rfl, rfl⟩ rfl rfl rfl rfl rfl (by kernel_rfl) Try.func9 (by kernel_rfl)
  (of_decide_eq_true (by kernel_rfl)) (by unfold Func.isWrapper; first | (rw [if_pos (by decide +kernel)]; kernel_rfl) | (rw [if_neg (by decide +kernel)]; exact ⟨rfl, rfl⟩))
  (fun os started H enc _ F => parseEarly_lifted os started H enc F)
end Go.Proofs.Ytfdhaochnbfndaa
