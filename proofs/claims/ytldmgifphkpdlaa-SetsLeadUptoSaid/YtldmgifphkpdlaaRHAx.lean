/- The row SetsLead in its second form: for every grammar by numbers and a list whose reading is of bulk at most 1048576: the law answers true and changes nothing that was there. -/
/- Texts joined: Kk Wp PSl Fe. -/
import Derived.Test.YtldmgifphkpdlaaRHAi
import Derived.Test.YtldmgifphkpdlaaRHAa
import Derived.Test.YtldmgifphkpdlaaRHAu
import Derived.Test.YtldmgifphkpdlaaRHAw
set_option linter.unusedVariables false
set_option linter.unusedSimpArgs false
namespace Go.Proofs.Ytldmgifphkpdlaa
open Go.ChangeShapes Go.WideShapes Go.ChangeAt Go.RowKit

attribute [local go_sem] Oper.semAt_some

/-- What an int may be. -/
def Bd (x : Int) : Prop := -9223372036854775808 ≤ x ∧ x ≤ 9223372036854775807
theorem wf_bd {n : Int} (h : (Go.Lit.int .i64 n).wf = true) : Bd n := by
  unfold Bd
  simp [Go.Lit.wf, IntKind.min, IntKind.max, IntKind.signed, IntKind.bits] at h
  omega
theorem int_cells8 : Try.prog.cellsOf 3 = 1 := by kernel_rfl
theorem ints_cells8 : Try.prog.cellsOf 35 = 1 := by kernel_rfl
theorem intss_cells8 : Try.prog.cellsOf 32 = 1 := by kernel_rfl
theorem intsss_cells8 : Try.prog.cellsOf 23 = 1 := by kernel_rfl
theorem cfg_cells8 : Try.prog.cellsOf 25 = 3 := by kernel_rfl
def szIl (ds : List IltD) : Nat := (ds.map (fun d => d.l.length)).sum
theorem szIl_is (r : IrD) : r.ds.length + szIl r.ds = szJ r.p := by
  unfold szJ szIl IrD.p
  rw [List.length_map, List.map_map]
  rfl

set_option maxRecDepth 100000 in
theorem open_intl2 {H : Type} {enc : TypeId × Value → H} {W : World} {base : Nat} {sp : Nat → Bool} {hd : Bool} (fuel : Nat) (cs : List Value) (x : DataW H × List MemPlace) (h : DataW.trod enc Try.prog W base sp hd fuel 35 cs = some x) :
    ∃ d : IltD, cs = [.slice d.a d.l.length d.c] ∧ Ints W d.a d.c d.l ∧ (∀ n ∈ d.l, Bd n) ∧ d.l.length + 1 ≤ Rows.uptoBulk x.1 := by
  rcases DataW.trod_slice Try.underlying35 h with ⟨e3, _⟩ | ⟨a, len, cap, elems, rest, n', hn, e3, x3, hb, hle, hm, hel, hcell, _, _⟩
  · exact ⟨⟨[], none, 0⟩, by rw [e3]; rfl, Vs.nil W, fun n h => (by cases h), by simpa using bulk_pos x.1⟩
  · have hmax : maxLen ≤ 9223372036854775807 := by decide
    have hbk : len + 1 ≤ Rows.uptoBulk x.1 := by
      rw [x3]
      simp only [Rows.uptoBulk]
      have h1 := bulkAll_sum (elems.map (·.1))
      have h2 := sum_le8 (fun _ => 1) Rows.uptoBulk (elems.map (·.1)) (elems.map (·.1)) rfl (fun i h1 h2 => bulk_pos _)
      rw [sum_ones, List.length_map, hel] at h2
      omega
    have each : ∀ i, i < len → ∃ s : Int, W.cell? ((a.add (i * 1)).add 0) = some (.int .i64 s) ∧ Bd s := by
      intro i hi
      have hc := hcell i hi
      rw [List.getElem?_eq_getElem (by omega), int_cells8, Option.bind_eq_some_iff] at hc
      obtain ⟨cs', hcs, ht⟩ := hc
      obtain ⟨s, e0, _, ws0⟩ := DataW.trod_int Try.underlying3 ht
      have ws := wf_bd ws0
      subst e0
      exact ⟨s, (World.cells?_some hcs).2.2 0 (by omega), ws⟩
    by_cases h0 : len = 0
    · subst h0
      exact ⟨⟨[], some a, cap⟩, by rw [e3]; rfl, ⟨by simp, (show cap ≤ 9223372036854775807 by omega), fun e => (by cases e), fun i h => by simp at h, fun b off e i h => by simp at h⟩, fun n h => (by cases h), by simpa using bulk_pos x.1⟩
    · obtain ⟨b, off, spot⟩ := a
      have hspot : spot = none := by
        obtain ⟨s, hc, _⟩ := each 0 (by omega)
        simpa [Addr.add] using World.cell?_spot hc
      subst hspot
      have each2 : ∀ i, i < len → ∃ s : Int, W.cell? ⟨b, off + i, none⟩ = some (.int .i64 s) ∧ Bd s := by
        intro i hi
        obtain ⟨s, hc, hz⟩ := each i hi
        rw [add_plain, add_plain, Nat.mul_one, Nat.add_zero] at hc
        exact ⟨s, hc, hz⟩
      obtain ⟨l, hl1, hl2⟩ := row_of len each2
      refine ⟨⟨l, some ⟨b, off, none⟩, cap⟩, by rw [e3, hl1], ⟨by rw [List.length_map]; exact (show l.length ≤ cap by omega), (show cap ≤ 9223372036854775807 by omega), fun e => (by cases e), fun i _ => ⟨b, off, rfl⟩, fun b' off' e i hi => ?_⟩, fun n hn => ?_, by show l.length + 1 ≤ _; omega⟩
      · cases e
        rw [List.getElem_map]
        exact (hl2 i (by rwa [List.length_map] at hi)).1
      · obtain ⟨i, hi, rfl⟩ := List.getElem_of_mem hn
        exact (hl2 i hi).2

set_option maxRecDepth 100000 in
theorem open_intll2 {H : Type} {enc : TypeId × Value → H} {W : World} {base : Nat} {sp : Nat → Bool} {hd : Bool} (fuel : Nat) (cs : List Value) (x : DataW H × List MemPlace) (h : DataW.trod enc Try.prog W base sp hd fuel 32 cs = some x) :
    ∃ (ds : List IltD) (a : Option Addr) (c : Nat), cs = [.slice a ds.length c] ∧ AltsI W a c ds ∧ (∀ d ∈ ds, ∀ n ∈ d.l, Bd n) ∧ ds.length + szIl ds + 1 ≤ Rows.uptoBulk x.1 := by
  rcases DataW.trod_slice Try.underlying32 h with ⟨e3, _⟩ | ⟨a, len, cap, elems, rest, n', hn, e3, x3, hb, hle, hm, hel, hcell, _, _⟩
  · exact ⟨[], none, 0, by rw [e3]; rfl, ⟨Vs.nil W, fun d h => by cases h⟩, fun d h => (by cases h), by simpa [szIl] using bulk_pos x.1⟩
  · have hmax : maxLen ≤ 9223372036854775807 := by decide
    have each : ∀ i (hi : i < len), ∃ d : IltD, W.cell? ((a.add (i * 1)).add 0) = some d.v ∧ Ints W d.a d.c d.l ∧ (∀ n ∈ d.l, Bd n) ∧ d.l.length + 1 ≤ Rows.uptoBulk (elems[i]'(by omega)).1 := by
      intro i hi
      have hc := hcell i hi
      rw [List.getElem?_eq_getElem (by omega), ints_cells8, Option.bind_eq_some_iff] at hc
      obtain ⟨cs', hcs, ht⟩ := hc
      obtain ⟨d, rfl, hN, hz, hk⟩ := open_intl2 n' cs' _ ht
      exact ⟨d, (World.cells?_some hcs).2.2 0 (by omega), hN, hz, hk⟩
    by_cases h0 : len = 0
    · subst h0
      exact ⟨[], some a, cap, by rw [e3]; rfl, ⟨⟨by simp, by omega, fun e => (by cases e), fun i h => by simp at h, fun b off e i h => by simp at h⟩, fun d hd => by cases hd⟩, fun d h => (by cases h), by simpa [szIl] using bulk_pos x.1⟩
    · obtain ⟨b, off, spot⟩ := a
      have hspot : spot = none := by
        obtain ⟨s, hc, _⟩ := each 0 (by omega)
        simpa [Addr.add] using World.cell?_spot hc
      subst hspot
      obtain ⟨l, hl1, hl2, hl3⟩ := row_of2 (P := fun i (d : IltD) => W.cell? ⟨b, off + i, none⟩ = some d.v ∧ Ints W d.a d.c d.l ∧ ∀ n ∈ d.l, Bd n) (f := fun d : IltD => d.l.length + 1) (g := Rows.uptoBulk) (elems.map (·.1)) len (by rw [List.length_map, hel]) (fun i hi => by
        obtain ⟨d, hc, hN, hz, hk⟩ := each i (by rw [List.length_map] at hi; omega)
        rw [add_plain, add_plain, Nat.mul_one, Nat.add_zero] at hc
        exact ⟨d, ⟨hc, hN, hz⟩, by rw [List.getElem_map]; exact hk⟩)
      refine ⟨l, some ⟨b, off, none⟩, cap, by rw [e3, hl1], ⟨⟨by rw [List.length_map]; omega, by omega, fun e => (by cases e), fun i _ => ⟨b, off, rfl⟩, fun b' off' e i hi => ?_⟩, fun d hd => ?_⟩, fun d hd => ?_, ?_⟩
      · cases e
        rw [List.getElem_map]
        exact (hl2 i (by rwa [List.length_map] at hi)).1
      · obtain ⟨i, hi, rfl⟩ := List.getElem_of_mem hd
        exact (hl2 i hi).2.1
      · obtain ⟨i, hi, rfl⟩ := List.getElem_of_mem hd
        exact (hl2 i hi).2.2
      · rw [x3]
        simp only [Rows.uptoBulk]
        rw [bulkAll_sum (elems.map (·.1))]
        have h4 : (l.map (fun d : IltD => d.l.length + 1)).sum = l.length + szIl l := by
          clear hl1 hl2 hl3
          induction l with
          | nil => simp [szIl]
          | cons d l ih =>
            have e : szIl (d :: l) = d.l.length + szIl l := by simp [szIl]
            rw [List.map_cons, List.sum_cons, ih, e, List.length_cons]
            omega
        omega

set_option maxRecDepth 100000 in
theorem open_intlll2 {H : Type} {enc : TypeId × Value → H} {W : World} {base : Nat} {sp : Nat → Bool} {hd : Bool} (fuel : Nat) (cs : List Value) (x : DataW H × List MemPlace) (h : DataW.trod enc Try.prog W base sp hd fuel 23 cs = some x) :
    ∃ (al : List IrD) (a : Option Addr) (c : Nat), cs = [.slice a al.length c] ∧ Vs W a c (al.map IrD.v) ∧ (∀ r ∈ al, AltsI W r.a r.c r.ds) ∧ (∀ r ∈ al, ∀ d ∈ r.ds, ∀ n ∈ d.l, Bd n) ∧ al.length + szC (al.map IrD.p) + 1 ≤ Rows.uptoBulk x.1 := by
  rcases DataW.trod_slice Try.underlying23 h with ⟨e3, _⟩ | ⟨a, len, cap, elems, rest, n', hn, e3, x3, hb, hle, hm, hel, hcell, _, _⟩
  · exact ⟨[], none, 0, by rw [e3]; rfl, Vs.nil W, fun d h => (by cases h), fun d h => (by cases h), by simpa [szC] using bulk_pos x.1⟩
  · have hmax : maxLen ≤ 9223372036854775807 := by decide
    have each : ∀ i (hi : i < len), ∃ r : IrD, W.cell? ((a.add (i * 1)).add 0) = some r.v ∧ AltsI W r.a r.c r.ds ∧ (∀ d ∈ r.ds, ∀ n ∈ d.l, Bd n) ∧ szJ r.p + 1 ≤ Rows.uptoBulk (elems[i]'(by omega)).1 := by
      intro i hi
      have hc := hcell i hi
      rw [List.getElem?_eq_getElem (by omega), intss_cells8, Option.bind_eq_some_iff] at hc
      obtain ⟨cs', hcs, ht⟩ := hc
      obtain ⟨ds, ra, rc, rfl, hN, hz, hk⟩ := open_intll2 n' cs' _ ht
      have hk2 := szIl_is ⟨ds, ra, rc⟩
      dsimp only at hk2
      exact ⟨⟨ds, ra, rc⟩, (World.cells?_some hcs).2.2 0 (by omega), hN, hz, by omega⟩
    by_cases h0 : len = 0
    · subst h0
      exact ⟨[], some a, cap, by rw [e3]; rfl, ⟨by simp, by omega, fun e => (by cases e), fun i h => by simp at h, fun b off e i h => by simp at h⟩, fun d h => (by cases h), fun d h => (by cases h), by simpa [szC] using bulk_pos x.1⟩
    · obtain ⟨b, off, spot⟩ := a
      have hspot : spot = none := by
        obtain ⟨s, hc, _⟩ := each 0 (by omega)
        simpa [Addr.add] using World.cell?_spot hc
      subst hspot
      obtain ⟨l, hl1, hl2, hl3⟩ := row_of2 (P := fun i (r : IrD) => W.cell? ⟨b, off + i, none⟩ = some r.v ∧ AltsI W r.a r.c r.ds ∧ ∀ d ∈ r.ds, ∀ n ∈ d.l, Bd n) (f := fun r : IrD => szJ r.p + 1) (g := Rows.uptoBulk) (elems.map (·.1)) len (by rw [List.length_map, hel]) (fun i hi => by
        obtain ⟨d, hc, hN, hz, hk⟩ := each i (by rw [List.length_map] at hi; omega)
        rw [add_plain, add_plain, Nat.mul_one, Nat.add_zero] at hc
        exact ⟨d, ⟨hc, hN, hz⟩, by rw [List.getElem_map]; exact hk⟩)
      refine ⟨l, some ⟨b, off, none⟩, cap, by rw [e3, hl1], ⟨by rw [List.length_map]; omega, by omega, fun e => (by cases e), fun i _ => ⟨b, off, rfl⟩, fun b' off' e i hi => ?_⟩, fun d hd => ?_, fun d hd => ?_, ?_⟩
      · cases e
        rw [List.getElem_map]
        exact (hl2 i (by rwa [List.length_map] at hi)).1
      · obtain ⟨i, hi, rfl⟩ := List.getElem_of_mem hd
        exact (hl2 i hi).2.1
      · obtain ⟨i, hi, rfl⟩ := List.getElem_of_mem hd
        exact (hl2 i hi).2.2
      · rw [x3]
        simp only [Rows.uptoBulk]
        rw [bulkAll_sum (elems.map (·.1))]
        have h4 : (l.map (fun r : IrD => szJ r.p + 1)).sum = l.length + szC (l.map IrD.p) := by
          clear hl1 hl2 hl3
          induction l with
          | nil => simp [szC]
          | cons d l ih =>
            have e : szC ((d :: l).map IrD.p) = szJ d.p + szC (l.map IrD.p) := by simp [szC, szJ]
            rw [List.map_cons, List.sum_cons, ih, e, List.length_cons]
            omega
        omega

set_option maxRecDepth 100000 in
theorem open_cfg2 {H : Type} {enc : TypeId × Value → H} {W : World} {v : Value} {d : DataW H} {ps : List MemPlace} (hok : Value.okWide Try.prog W .any 0 25 v) (h : DataW.Trod enc Try.prog W 0 (fun _ => true) true 25 v d ps) :
    ∃ c : CfD, v = c.v ∧ CfAt W c ∧ (∀ t ∈ c.toks, t.size ≤ maxLen) ∧ (∀ t ∈ c.names, t.size ≤ maxLen) ∧ (∀ r ∈ c.alts, ∀ a ∈ r.ds, ∀ x ∈ a.l, Bd x) ∧ c.toks.length + c.names.length + szC (c.alts.map IrD.p) ≤ Rows.uptoBulk d := by
  obtain ⟨cs, rfl, _⟩ := okWide_struct Try.underlying25 hok
  obtain ⟨fuel, hf⟩ := h
  obtain ⟨xs, n, rfl, e9, hl, hlen, hf⟩ := DataW.trod_struct Try.underlying25 hf
  rw [cfg_cells8] at hl
  obtain ⟨v0, v1, v2, hv⟩ : ∃ v0 v1 v2, cs.toList = [v0, v1, v2] := by
    match hc : cs.toList, (show cs.toList.length = 3 from hl) with
    | [v0, v1, v2], _ => exact ⟨v0, v1, v2, rfl⟩
  obtain ⟨y0, y1, y2, rfl⟩ : ∃ y0 y1 y2, xs = [y0, y1, y2] := by
    match xs, hlen with
    | [y0, y1, y2], _ => exact ⟨y0, y1, y2, rfl⟩
  have h0 := hf 0 _ rfl
  have h1 := hf 1 _ rfl
  have h2 := hf 2 _ rfl
  rw [show (Value.agg cs).cells.toList = [v0, v1, v2] from hv] at h0 h1 h2
  simp only [strs_cells, intsss_cells8, List.drop_zero, List.drop_succ_cons, List.take_succ_cons, List.take_zero, List.getElem?_cons_zero, List.getElem?_cons_succ] at h0 h1 h2
  obtain ⟨dt, e0, hT, zT, kT⟩ := open_strl2 _ _ _ h0
  injection e0 with e0 _
  subst e0
  obtain ⟨dn, e1, hN, zN, kN⟩ := open_strl2 _ _ _ h1
  injection e1 with e1 _
  subst e1
  obtain ⟨al, aa, ac, e2, hR, hI, hB, hk⟩ := open_intlll2 _ _ _ h2
  injection e2 with e2 _
  subst e2
  have e9 := (Prod.mk.inj e9).1
  refine ⟨⟨dt.l, dt.a, dt.c, dn.l, dn.a, dn.c, al, aa, ac⟩, ?_, ⟨hT, hN, hR, hI⟩, zT, zN, hB, ?_⟩
  · cases cs
    simp only at hv
    rw [hv]
  · rw [e9]
    simp only [List.map_cons, List.map_nil, Rows.uptoBulk, Rows.uptoBulkAll]
    omega
end Go.Proofs.Ytldmgifphkpdlaa

namespace Go.Proofs.Ytldmgifphkpdlaa
open Go.ChangeShapes Go.WideShapes Go.ChangeAt Go.RowKit

set_option maxRecDepth 100000 in
theorem open_ints2 {H : Type} {enc : TypeId × Value → H} {W : World} {v : Value} {d : DataW H} {ps : List MemPlace} (hok : Value.okWide Try.prog W .any 0 35 v) (h : DataW.Trod enc Try.prog W 0 (fun _ => true) true 35 v d ps) :
    ∃ (a : Option Addr) (cap : Nat) (l : List Int), v = .slice a l.length cap ∧ Ints W a cap l ∧ (∀ n ∈ l, Bd n) := by
  obtain ⟨a0, len0, cap0, rfl⟩ := okWide_slice Try.underlying35 hok
  obtain ⟨fuel, hf⟩ := h
  obtain ⟨x, e, h1, h2, h3⟩ := open_intl2 fuel _ _ hf
  simp only [Value.cells, List.cons.injEq, and_true] at e
  exact ⟨x.a, x.c, x.l, e, h1, h2⟩
end Go.Proofs.Ytldmgifphkpdlaa

namespace Go.Proofs.Ytldmgifphkpdlaa
open Go.ChangeShapes Go.WideShapes Go.ChangeAt Go.RowKit

set_option maxRecDepth 100000 in
theorem setsLead_contract (H : Type) (enc : TypeId × Value → H) (W : World) (args : Array Value) (ds gs : List (DataW H)) (before : List MemPlace)
    (hval : ∀ (j : Nat) t v, Try.f4.params[j]? = some t → args[j]? = some v → Value.okWide Try.prog W .any 0 t v)
    (hW : DataW.Whole enc Try.prog Try.f4.params.toList Rows.setsLeadSpec.vars false W args.toList ds gs before) (hk : Rows.uptoSmall H (ds ++ gs) = true) :
    Calls Try.prog 4 args W fun e W' => ∃ v, e = .returned v ∧ Rows.setsLeadSpec.post enc Try.prog Try.f4 false true false false W args v W' := by
  have hW' := hW
  obtain ⟨p, q, hA0, hV, rfl, hfz, hnd⟩ := hW
  have hA : DataW.TrodAll enc Try.prog W 0 (fun _ => true) true Try.f4.params.toList args.toList ds p := hA0
  rw [Try.params4] at hA hval
  obtain ⟨v0, v1, d0, d1, p0, p1, rfl, rfl, _, h0, h1⟩ := trodAll_two hA
  have hb : Rows.uptoBulkAll ([d0, d1] ++ gs) ≤ 1048576 := of_decide_eq_true hk
  simp only [List.cons_append, List.nil_append, Rows.uptoBulkAll] at hb
  obtain ⟨c, rfl, hc, z1, z2, z3, hz⟩ := open_cfg2 (hval 0 25 v0 rfl rfl) h0
  obtain ⟨a1, c1, l1, rfl, hl1, hr1⟩ := open_ints2 (hval 1 35 v1 rfl rfl) h1
  refine (lawLead_any c l1 a1 c1 W hc z1 z2 z3 (by omega) hl1 hr1).mono fun e W' ⟨he, hw⟩ => ?_
  subst he
  exact ⟨_, rfl, law_post hW' rfl rfl (by kernel_rfl) (by rw [Try.params4]; intro t ht; simp at ht; rcases ht with rfl | rfl <;> exact ⟨by kernel_rfl, of_decide_eq_true (by kernel_rfl)⟩) hw⟩

set_option maxRecDepth 100000 in
theorem setsLead_lifted (os : Os) (started : os.Started) (H : Type) (enc : TypeId × Value → H) (F : Stop.Interp) :
    ReturnsInHanded {} Try.checked os 4 .any ((Rows.OpenSpec.upto Rows.setsLeadSpec).pre6 enc Try.prog Try.f4 Rows.setsLeadUptoRow.domain false) (((Rows.OpenSpec.upto Rows.setsLeadSpec).at F).post enc Try.prog Try.f4 false true false false) := by
  refine returnsInHanded_of_cond (C := Try.checked) (s := Rows.OpenSpec.upto Rows.setsLeadSpec) (k := Rows.uptoSmall) rfl Try.own started (by kernel_rfl) Try.func4
    (OpenSpec.witness (enc := enc) (C := Try.checked) (s := Rows.OpenSpec.upto Rows.setsLeadSpec) (k := Rows.uptoSmall) rfl false ⟨#[], #[.agg #[.slice none 0 0, .slice none 0 0, .slice none 0 0], .slice none 0 0], []⟩ 8 (by kernel_rfl) (by kernel_rfl) (by kernel_rfl)
      (x := ([.agg [.nil, .nil, .nil], .nil], [], [])) (by kernel_rfl) rfl (by kernel_rfl)) ?_
  intro W base args ds gs before hval hW _ hk _
  exact setsLead_contract H enc W args ds gs before hval hW hk

theorem setsLead_holds : Rows.SetsLeadUptoSaid :=
  OpenClaim.holds_of_cond 4 Try.f4 rfl rfl rfl rfl rfl rfl rfl ⟨rfl, rfl, rfl, rfl, rfl⟩ rfl rfl rfl rfl rfl (by kernel_rfl) Try.func4 (by kernel_rfl)
    (of_decide_eq_true (by kernel_rfl)) (by unfold Func.isWrapper; first | (rw [if_pos (by decide +kernel)]; kernel_rfl) | (rw [if_neg (by decide +kernel)]; exact ⟨rfl, rfl⟩))
    (fun os started H enc _ F => setsLead_lifted os started H enc F)
end Go.Proofs.Ytldmgifphkpdlaa

namespace Go.Proofs.Ytldmgifphkpdlaa
open Go.RowKit

/-- What stands behind a place of an alternative is with the rule that stands there. -/
def FoD (al : List (List (List Int))) (f : Nat → Bool) (E0 E : Nat → List Int) (r : Nat) (a : List Int) (i : Nat) : Prop :=
  ∀ s : Nat, a[i]? = some (-1 - (s : Int)) → (∀ t, TokP al f (ahd f (a.drop (i + 1))) t → t ∈ E s) ∧ (emp f (a.drop (i + 1)) = true → ∀ t, t ∈ E0 r → t ∈ E s)
theorem FoD.mono {al : List (List (List Int))} {f : Nat → Bool} {E0 E E2 : Nat → List Int} {r : Nat} {a : List Int} {i : Nat} (h : FoD al f E0 E r a i) (hm : ∀ r t, t ∈ E r → t ∈ E2 r) : FoD al f E0 E2 r a i :=
  fun s hs => ⟨fun t ht => hm _ _ ((h s hs).1 t ht), fun he t ht => hm _ _ ((h s hs).2 he t ht)⟩
/-- Where a round of Follow stands. -/
structure FoK (al : List (List (List Int))) (f : Nat → Bool) (T : Nat) (E0 E : Nat → List Int) (k j i : Nat) : Prop where
  up : ∀ r, (E r).Pairwise (· < ·)
  sound : ∀ r t, t ∈ E r → FolP al f T r t
  mono : ∀ r t, t ∈ E0 r → t ∈ E r
  done : ∀ r, r < k → ∀ a ∈ al.getD r [], ∀ i, FoD al f E0 E r a i
  part : ∀ a ∈ (al.getD k []).take j, ∀ i, FoD al f E0 E k a i
  here : ∀ a, (al.getD k [])[j]? = some a → ∀ i2, i2 < i → FoD al f E0 E k a i2
theorem FoK.start {al : List (List (List Int))} {f : Nat → Bool} {T : Nat} {E : Nat → List Int} (h1 : ∀ r, (E r).Pairwise (· < ·)) (h2 : ∀ r t, t ∈ E r → FolP al f T r t) : FoK al f T E E 0 0 0 :=
  ⟨h1, h2, fun _ _ h => h, fun r hr => absurd hr (by omega), fun a ha => by simp at ha, fun a _ i2 h => absurd h (by omega)⟩
theorem FoK.put {al : List (List (List Int))} {f : Nat → Bool} {T : Nat} {E0 E : Nat → List Int} {k j i s : Nat} {a : List Int} (h : FoK al f T E0 E k j i) (hk : k < al.length) (ha : (al.getD k [])[j]? = some a) (hi : a[i]? = some (-1 - (s : Int))) {r2 : List Int}
    (hu : r2.Pairwise (· < ·)) (hs : ∀ t, t ∈ r2 → t ∈ E s ∨ TokP al f (ahd f (a.drop (i + 1))) t ∨ (emp f (a.drop (i + 1)) = true ∧ t ∈ E k)) (h0 : ∀ t, t ∈ E s → t ∈ r2) (h1 : ∀ t, TokP al f (ahd f (a.drop (i + 1))) t → t ∈ r2) (h2 : emp f (a.drop (i + 1)) = true → ∀ t, t ∈ E k → t ∈ r2) :
    FoK al f T E0 (fun r => if r = s then r2 else E r) k j (i + 1) := by
  have hm : ∀ r t, t ∈ E r → t ∈ (if r = s then r2 else E r) := fun r t ht => by
    split
    · next e => subst e; exact h0 t ht
    · exact ht
  have hmem := List.mem_of_getElem? ha
  refine ⟨fun r => ?_, fun r t ht => ?_, fun r t ht => hm r t (h.mono r t ht), fun r hr c hc i => (h.done r hr c hc i).mono hm, fun c hc i => (h.part c hc i).mono hm, fun c hc i2 hi2 => ?_⟩
  · split
    · exact hu
    · exact h.up r
  · split at ht
    · next e =>
      subst e
      rcases hs t ht with h3 | h3 | ⟨he, h3⟩
      · exact h.sound _ t h3
      · exact fol_beh hk hmem hi h3
      · exact fol_last ⟨hk, a, hmem, i, hi, he⟩ (h.sound _ t h3)
    · exact h.sound r t ht
  · rw [ha] at hc
    obtain rfl : a = c := by simpa using hc
    by_cases e : i2 = i
    · subst e
      intro s2 hs2
      rw [hi] at hs2
      have e2 : s2 = s := by
        have : (-1 - (s : Int)) = -1 - (s2 : Int) := by simpa using hs2
        omega
      subst e2
      dsimp only
      rw [if_pos rfl]
      exact ⟨h1, fun he t ht => h2 he t (h.mono _ t ht)⟩
    · exact (h.here a ha i2 (by omega)).mono hm
theorem FoK.skip {al : List (List (List Int))} {f : Nat → Bool} {T : Nat} {E0 E : Nat → List Int} {k j i : Nat} {a : List Int} (h : FoK al f T E0 E k j i) (ha : (al.getD k [])[j]? = some a) {x : Int} (hi : a[i]? = some x) (hx : 0 ≤ x) : FoK al f T E0 E k j (i + 1) := by
  refine ⟨h.up, h.sound, h.mono, h.done, h.part, fun c hc i2 hi2 => ?_⟩
  by_cases e : i2 = i
  · subst e
    rw [ha] at hc
    obtain rfl : a = c := by simpa using hc
    intro s hs
    rw [hi] at hs
    have : x = -1 - (s : Int) := by simpa using hs
    omega
  · exact h.here c hc i2 (by omega)
theorem FoK.alt {al : List (List (List Int))} {f : Nat → Bool} {T : Nat} {E0 E : Nat → List Int} {k j i : Nat} {a : List Int} (h : FoK al f T E0 E k j i) (ha : (al.getD k [])[j]? = some a) (hi : a.length ≤ i) : FoK al f T E0 E k (j + 1) 0 := by
  refine ⟨h.up, h.sound, h.mono, h.done, fun c hc i2 => ?_, fun c _ i2 h => absurd h (by omega)⟩
  rw [List.take_add_one, List.mem_append] at hc
  rcases hc with hc | hc
  · exact h.part c hc i2
  · rw [ha] at hc
    obtain rfl : c = a := by simpa using hc
    by_cases e : i2 < i
    · exact h.here c ha i2 e
    · intro s hs
      rw [List.getElem?_eq_none (by omega)] at hs
      cases hs
theorem FoK.row {al : List (List (List Int))} {f : Nat → Bool} {T : Nat} {E0 E : Nat → List Int} {k j : Nat} (h : FoK al f T E0 E k j 0) (hj : (al.getD k []).length ≤ j) : FoK al f T E0 E (k + 1) 0 0 :=
  ⟨h.up, h.sound, h.mono, fun r hr a ha i => by
    by_cases e : r = k
    · subst e
      exact h.part a (by rwa [List.take_of_length_le hj]) i
    · exact h.done r (by omega) a ha i, fun a ha => by simp at ha, fun c _ i2 h => absurd h (by omega)⟩
/-- What is closed has all. -/
theorem fo_all {al : List (List (List Int))} {f : Nat → Bool} {T : Nat} {E : Nat → List Int} (h0 : (T : Int) ∈ E 0) (hc : ∀ r, ∀ a ∈ al.getD r [], ∀ i, FoD al f E E r a i) {r : Nat} {t : Int} (h : FolP al f T r t) : t ∈ E r :=
  fol_all (F := fun r t => t ∈ E r) h0 (fun s r a i _ ha hi t ht => (hc r a ha i s hi).1 t ht) (fun s r hl t ht => by
    obtain ⟨_, a, ha, i, hi, he⟩ := hl
    exact (hc r a ha i s hi).2 he t ht) h
theorem FoD.back {al : List (List (List Int))} {f : Nat → Bool} {E0 E : Nat → List Int} {r : Nat} {a : List Int} {i : Nat} (h : FoD al f E0 E r a i) (hm : ∀ r t, t ∈ E r → t ∈ E0 r) : FoD al f E0 E0 r a i := h.mono hm
/-- A rule that is not there begins nothing. -/
theorem tok_none {al : List (List (List Int))} {f : Nat → Bool} {r : Nat} {t : Int} (hr : al.length ≤ r) (h : TokP al f [-1 - (r : Int)] t) : False := by
  have key := first_all (F := fun r t => r < al.length) (fun r a ha y hy => ⟨fun _ => ?_, fun _ t ht => ?_⟩) (by omega) h
  · rw [ruL_of] at key
    omega
  · refine Classical.byContradiction fun hn => ?_
    rw [List.getD_eq_getElem?_getD, List.getElem?_eq_none (by omega)] at ha
    cases ha
  · refine Classical.byContradiction fun hn => ?_
    rw [List.getD_eq_getElem?_getD, List.getElem?_eq_none (by omega)] at ha
    cases ha
/-- What follows is a token or the end. -/
theorem fol_near {d : CfD} (hf : FitC d) {f : Nat → Bool} {r : Nat} {t : Int} (h : FolP (d.alts.map IrD.p) f d.toks.length r t) : 0 ≤ t ∧ t ≤ 100 := by
  refine ⟨h.1, ?_⟩
  refine fol_all (F := fun _ t => t ≤ 100) (by have := hf.t; omega) (fun s r a i hr ha hi t ht => ?_) (fun s r hl t ht => ht) h
  rw [List.length_map] at hr
  have e : (d.alts.map IrD.p).getD r [] = (d.alts[r]).ds.map (fun x => x.l) := by
    rw [List.getD_eq_getElem?_getD, List.getElem?_map, List.getElem?_eq_getElem hr]
    rfl
  rw [e, List.mem_map] at ha
  obtain ⟨x, hx, rfl⟩ := ha
  exact (tok_near hf (l := ahd f (x.l.drop (i + 1))) (fun y hy => (hf.l _ (List.getElem_mem hr) x hx).2 y (List.mem_of_mem_drop (ahd_sub hy))) ht).2
end Go.Proofs.Ytldmgifphkpdlaa

