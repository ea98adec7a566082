/- The row DfaSame: for every automaton and every text: what Build made comes to the least of the many ways' numbers: the law answers true and changes nothing that was there; no premise beyond the row's own. -/
/- Texts joined: Er Eq PDa. -/
import Derived.Test.YtngbfjimmdkfeaaJDA
import Derived.Test.YtngbfjimmdkfeaaJDB
import Derived.Test.YtngbfjimmdkfeaaJDF
import Derived.Test.YtngbfjimmdkfeaaJD3
import Derived.Test.YtngbfjimmdkfeaaJZ3
import Derived.Test.YtngbfjimmdkfeaaJAn
set_option linter.unusedVariables false
set_option linter.unusedSimpArgs false
namespace Go.Proofs.Ytngbfjimmdkfeaa
open Go.RowKit Go.Shelf Go.Maps

/-- The first of some numbers, or -1. -/
def headI : List Nat → Int
  | [] => -1
  | i :: _ => (i : Int)
/-- What a Build answers, by what it means. -/
def PostR (w w' : World) (x : Nf) (e : Ending) : Prop := Below w.heap.size w w' ∧
  ((∃ E : Int, E ≠ 0 ∧ e = .returned (.tuple #[.agg #[.slice none 0 0, .slice none 0 0], .int .i64 E])) ∨
   (nfB x = true ∧ ∃ (d : Df) (p2 : DfL), DfAt w' d p2 ∧ e = .returned (.tuple #[.agg #[.slice p2.ma d.ms.length p2.mc, .slice p2.aa d.ac.length p2.ac], .int .i64 0]) ∧ ∀ s, drunP d s = headI (runP x s)))
theorem built_runs {w w' : World} {x : Nf} {n : Nat} {e : Ending} (hb : nfB x = true) (hxn : x.n = (n : Int)) (h : BuiltD w w' x n e) : PostR w w' x e := by
  obtain ⟨hl, _, h20⟩ := link_of hb
  obtain ⟨L, l1, l2, l3, l4, l5, i, all, ms, ac, hdb, hbl, hr⟩ := h
  refine ⟨hbl, ?_⟩
  rcases hr with ⟨h1, h2⟩ | ⟨h1, h2, h3, h4, p2, h5, h6⟩
  · exact .inl ⟨40, by decide, h2⟩
  · subst h1
    refine .inr ⟨hb, ⟨ms, ac⟩, p2, h5, h6, fun s => ?_⟩
    rw [drun_is (db_ok hdb) hl hxn l2 l3 l5 (by omega) s]
    cases runP x s <;> rfl
theorem dBuild_runs (w : World) (x : Nf) (p : NfL) (hx : NfAt w x p) (hM : x.es.length ≤ 500000) (hq : spN x.es ≤ 1000000) :
    Calls Try.prog 15 #[.agg #[.int .i64 x.n, .int .i64 x.s, .slice p.ea x.ends.length p.ec, .slice p.ga x.es.length p.gc]] w fun e w' => PostR w w' x e := by
  rcases hb : nfB x with _ | _
  · exact (dBuild_bad w x p hx hb).mono (fun e w' h => ⟨h.2, .inl ⟨30, by decide, h.1⟩⟩)
  · obtain ⟨hl, h1, h2⟩ := link_of hb
    exact (dBuild_is w x p x.n.toNat (by omega) hx hM hq).mono (fun e w' h => built_runs hb (by omega) (h.2 hb))
theorem sp_small {x : Nf} (h : x.es.all (fun e => decide (e.q.length ≤ 10)) = true) : spN x.es ≤ 10 * x.es.length := by
  unfold spN
  generalize x.es = l at h
  induction l with
  | nil => exact Nat.le_refl _
  | cons e l ih =>
    rw [List.all_cons, Bool.and_eq_true, decide_eq_true_eq] at h
    have := ih h.2
    rw [List.map_cons, List.sum_cons, List.length_cons]
    omega
end Go.Proofs.Ytngbfjimmdkfeaa

namespace Go.Proofs.Ytngbfjimmdkfeaa
open Go.RowKit Go.Shelf

attribute [local go_sem] Oper.semAt_some

theorem small_is {x : Nf} (h : smallD x = true) : x.es.length ≤ 80 ∧ x.ends.length ≤ 20 ∧ spN x.es ≤ 1000000 := by
  unfold smallD at h
  simp only [Bool.and_eq_true, decide_eq_true_eq] at h
  have := sp_small h.2
  exact ⟨h.1.1.2, h.1.2, by omega⟩

set_option maxRecDepth 100000 in
set_option maxHeartbeats 4000000 in
theorem dfaSame_any (x : Nf) (p : NfL) (s : ByteArray) (w : World) (hx : NfAt w x p) :
    Calls Try.prog 6 #[.agg #[.int .i64 x.n, .int .i64 x.s, .slice p.ea x.ends.length p.ec, .slice p.ga x.es.length p.gc], .string s] w fun e w' => e = .returned (.bool true) ∧ Below w.heap.size w w' := by
  have hE1 := hx.ends.le
  have hE2 := hx.ends.max
  have hG1 := hx.es.le
  have hG2 := hx.es.max
  have Hx := Lib.hid hx
  have HS := Lib.hid (fun (V : World) (h : NfAt V x p) => small4_any x p V h)
  have HH := Lib.hid (fun (V : World) (h : NfAt V x p) (h2 : x.es.length ≤ 500000) => hard4_any x p V h h2)
  have HB := Lib.hid (fun (V : World) (h : NfAt V x p) (h2 : x.es.length ≤ 500000) (h3 : spN x.es ≤ 1000000) => dBuild_runs V x p h h2 h3)
  have HR := Lib.hid (fun (V : World) (h : NfAt V x p) (hl : linkB x = true) (h2 : x.ends.length ≤ 1000000000) (h3 : s.size ≤ 900000000) => refRun_any x p s V h hl h2 h3)
  obtain ⟨ea, ec, ga, gc⟩ := p
  dsimp only at *
  obtain ⟨E, hE⟩ : ∃ E, Hid (x.ends.length = E) := ⟨_, Lib.hid rfl⟩
  obtain ⟨G, hG⟩ : ∃ G, Hid (x.es.length = G) := ⟨_, Lib.hid rfl⟩
  obtain ⟨xn, hn⟩ : ∃ n, Hid (x.n = n) := ⟨_, Lib.hid rfl⟩
  obtain ⟨xs, hs⟩ : ∃ n, Hid (x.s = n) := ⟨_, Lib.hid rfl⟩
  obtain ⟨q, hq⟩ : ∃ n, Hid (smallD x = n) := ⟨_, Lib.hid rfl⟩
  rw [hE.out, hG.out, hn.out, hs.out] at HS HH HB HR
  rw [hq.out] at HS
  rw [hE.out] at hE1
  rw [hG.out] at hG1
  rw [hE.out, hG.out, hn.out, hs.out]
  have hA0 := Blk.new w 32 #[.int .i64 xn, .int .i64 xs, .slice ea E ec, .slice ga G gc]
  have hb0 : Below w.heap.size w (w.alloc (.cells #[.int .i64 xn, .int .i64 xs, .slice ea E ec, .slice ga G gc] 32)) := (Below.refl _ w).alloc (Nat.le_refl _) _
  go_enter Try.func6, Try.ntmps6
  go_wp2_with (fail)
  refine (live4_any _).mono ?_
  rintro e w1 ⟨rfl, hb1⟩
  have hA1 := hA0.below hb1 hA0.lt
  have hbw1 := hb0.trans (hb1.mono hb0.size)
  clear hA0 hb0 hb1 hx
  obtain ⟨BN, hBN⟩ : ∃ n, Hid (w.heap.size = n) := ⟨_, Lib.hid rfl⟩
  have Hbw1 := Lib.hid hbw1
  rw [hBN.out] at hA1
  simp only [hBN.out]
  clear hbw1
  have x0 := hA1.cell 0
  have x1 := hA1.cell 1
  have x2 := hA1.cell 2
  have x3 := hA1.cell 3
  have xl := hA1.lt
  simp only [List.getElem?_cons_zero, List.getElem?_cons_succ] at x0 x1 x2 x3
  go_wp2_with (fail)
  refine (HS.out _ (Hx.out.grown Hbw1.out)).mono ?_
  rintro e w2 ⟨rfl, hb2⟩
  have hA2 := hA1.below hb2 hA1.lt
  have Hbw2 := Lib.hid (Hbw1.out.trans (hb2.mono Hbw1.out.size))
  clear hA1 hb2 x0 x1 x2 x3 xl HS
  have x0 := hA2.cell 0
  have x1 := hA2.cell 1
  have x2 := hA2.cell 2
  have x3 := hA2.cell 3
  have xl := hA2.lt
  simp only [List.getElem?_cons_zero, List.getElem?_cons_succ] at x0 x1 x2 x3
  cases q
  case false =>
    go_wp2_with (fail)
    exact bodyPost_ret (v := .bool true) (by simp [results, Try.results6, go_sem]; try rfl) rfl ⟨rfl, Hbw2.out⟩
  case true =>
  have Hsm := Lib.hid (small_is hq.out)
  rw [hE.out, hG.out] at Hsm
  go_wp2_with (fail)
  refine (HH.out _ (Hx.out.grown Hbw2.out) (by have := Hsm.out.1; omega)).mono ?_
  rintro e w3 ⟨⟨hd, rfl⟩, hb3⟩
  have hA3 := hA2.below hb3 hA2.lt
  have Hbw3 := Lib.hid (Hbw2.out.trans (hb3.mono Hbw2.out.size))
  clear hA2 hb3 x0 x1 x2 x3 xl HH
  have x0 := hA3.cell 0
  have x1 := hA3.cell 1
  have x2 := hA3.cell 2
  have x3 := hA3.cell 3
  have xl := hA3.lt
  simp only [List.getElem?_cons_zero, List.getElem?_cons_succ] at x0 x1 x2 x3
  cases hd
  case true =>
    go_wp2_with (fail)
    exact bodyPost_ret (v := .bool true) (by simp [results, Try.results6, go_sem]; try rfl) rfl ⟨rfl, Hbw3.out⟩
  case false =>
  by_cases hlen : 30 < s.size
  · have hlenI : (30 : Int) < (s.size : Int) := by omega
    go_wp2_with (fail)
    exact bodyPost_ret (v := .bool true) (by simp [results, Try.results6, go_sem]; try rfl) rfl ⟨rfl, Hbw3.out⟩
  have hlenI : ¬ (30 : Int) < (s.size : Int) := by omega
  have HT : Hid (s.size ≤ 30) := Lib.hid (by omega)
  go_wp2_with (fail)
  refine (HB.out _ (Hx.out.grown Hbw3.out) (by have := Hsm.out.1; omega) Hsm.out.2.2).mono ?_
  rintro e w4 ⟨hb4, hres⟩
  have hA4 := hA3.below hb4 hA3.lt
  have Hbw4 := Lib.hid (Hbw3.out.trans (hb4.mono Hbw3.out.size))
  clear hA3 hb4 x0 x1 x2 x3 xl HB
  rcases hres with ⟨Er, hEr, rfl⟩ | ⟨hnb, d, p2, hd2, rfl, hrun⟩
  · have hne : (Er != 0) = true := by rw [bne_iff_ne]; exact hEr
    have HBd := Lib.hid (Hbw4.out.trans ((up_by (w := w4) (.cells #[.slice none 0 0, .slice none 0 0] 25)).mono Hbw4.out.size))
    go_wp2_with (fail)
    exact bodyPost_ret (v := .bool true) (by simp [results, Try.results6, go_sem]; try rfl) rfl ⟨rfl, HBd.out⟩
  obtain ⟨rs, ma, mc, aa, ac⟩ := p2
  have HL := Lib.hid hd2.len
  have HD := Lib.hid hd2
  have hd1 : d.ms.length ≤ mc := by have := hd2.ms.le; rw [hd2.len] at this; exact this
  have hd3 : mc ≤ 9223372036854775807 := hd2.ms.max
  have hd4 : d.ac.length ≤ ac := hd2.acc.le
  have hd5 : ac ≤ 9223372036854775807 := hd2.acc.max
  dsimp only at *
  have HRu := Lib.hid hrun
  have HDr := Lib.hid (fun (V : World) (h : DfAt V d ⟨rs, ma, mc, aa, ac⟩) (hs : s.size ≤ 30) => drun_any d ⟨rs, ma, mc, aa, ac⟩ s V h (by omega))
  obtain ⟨M, HM⟩ : ∃ M, Hid (d.ms.length = M) := ⟨_, Lib.hid rfl⟩
  obtain ⟨N, HN⟩ : ∃ N, Hid (d.ac.length = N) := ⟨_, Lib.hid rfl⟩
  rw [HM.out, HN.out, HRu.out] at HDr
  rw [HM.out] at hd1 ⊢
  rw [HN.out] at hd4 ⊢
  have hup := up_by (w := w4) (.cells #[.slice ma M mc, .slice aa N ac] 25)
  have hB5 := Blk.new w4 25 #[.slice ma M mc, .slice aa N ac]
  have hA5 := hA4.below hup hA4.lt
  have HD5 := Lib.hid (HD.out.grown hup)
  have Hbw5 := Lib.hid (Hbw4.out.trans (hup.mono Hbw4.out.size))
  clear hup hd2 hrun hA4
  have x0 := hA5.cell 0
  have x1 := hA5.cell 1
  have x2 := hA5.cell 2
  have x3 := hA5.cell 3
  have xl := hA5.lt
  simp only [List.getElem?_cons_zero, List.getElem?_cons_succ] at x0 x1 x2 x3
  have HRr := Lib.hid (HR.out _ (Hx.out.grown Hbw5.out) (link_of hnb).1 (by have := Hsm.out.2.1; omega) (by have := HT.out; omega))
  go_wp2_with (fail)
  refine HRr.out.mono ?_
  rintro e w6 ⟨oa, oc, rfl, hi6, hb6⟩
  have Hbw6 := Lib.hid (Hbw5.out.trans (hb6.mono Hbw5.out.size))
  have hB6 := hB5.below hb6 hB5.lt
  have HD6 := Lib.hid (HD5.out.grown hb6)
  clear hb6 hB5 hA5 x0 x1 x2 x3 xl
  have HF := Lib.hid (HDr.out w6 HD6.out HT.out)
  have y0 := hB6.cell 0
  have y1 := hB6.cell 1
  have yl := hB6.lt
  simp only [List.getElem?_cons_zero, List.getElem?_cons_succ] at y0 y1
  obtain ⟨Q, hQ⟩ : ∃ Q, Hid (runP x s.data.toList = Q) := ⟨_, Lib.hid rfl⟩
  rw [hQ.out] at hi6 HF ⊢
  have hil : Q.length ≤ oc ∧ oc ≤ 9223372036854775807 := ⟨by have := hi6.le; rw [List.length_map] at this; exact this, hi6.max⟩
  cases Q with
  | nil =>
    have HF2 : Hid (headI [] = -1) := Lib.hid rfl
    rw [HF2.out] at HF
    simp only [List.length_nil]
    clear hi6
    go_wp2_with (fail)
    refine HF.out.mono ?_
    rintro e w7 ⟨rfl, hb7⟩
    have HB7 := Lib.hid (Hbw6.out.trans (hb7.mono Hbw6.out.size))
    clear hb7
    go_wp2_with (fail)
    exact bodyPost_ret (v := .bool true) (by simp [results, Try.results6, go_sem]; try rfl) rfl ⟨rfl, HB7.out⟩
  | cons i r =>
    have HF2 : Hid (headI (i :: r) = (i : Int)) := Lib.hid rfl
    rw [HF2.out] at HF
    obtain ⟨b, off, rfl⟩ := hi6.at_ 0 (by simp)
    have c0 := hi6.cell b off rfl 0 (by simp)
    simp only [List.map_cons, List.getElem_cons_zero, Nat.add_zero] at c0
    have cl := World.block_lt_of_cell? _ _ c0
    simp only [List.length_cons] at hil ⊢
    clear hi6
    go_wp2_with (fail)
    refine HF.out.mono ?_
    rintro e w7 ⟨rfl, hb7⟩
    have HB7 := Lib.hid (Hbw6.out.trans (hb7.mono Hbw6.out.size))
    clear hb7
    go_wp2_with (fail)
    exact bodyPost_ret (v := .bool true) (by simp [results, Try.results6, go_sem]; try rfl) rfl ⟨rfl, HB7.out⟩
end Go.Proofs.Ytngbfjimmdkfeaa

namespace Go.Proofs.Ytngbfjimmdkfeaa
open Go.ChangeShapes Go.WideShapes Go.ChangeAt Go.RowKit

set_option maxRecDepth 100000 in
theorem dfaSame_lifted (os : Os) (started : os.Started) (H : Type) (enc : TypeId × Value → H) :
    ReturnsInHanded {} Try.checked os 6 .any (Rows.dfaSameSpec.pre6 enc Try.prog Try.f6 Rows.dfaSameRow.domain false) (Rows.dfaSameSpec.post enc Try.prog Try.f6 false true false false) := by
  refine returnsInHanded_of_change (C := Try.checked) Try.own started (by kernel_rfl) Try.func6
    (ChangeSpec.witness6 (enc := enc) (C := Try.checked) false ⟨#[], #[.agg #[.int .i64 0, .int .i64 0, .slice none 0 0, .slice none 0 0], .string ⟨#[]⟩], []⟩ 8 (by kernel_rfl) (by kernel_rfl) (by kernel_rfl) (by kernel_rfl)) ?_
  intro W base args ds gs before hval0 hW _ _
  have hval : ∀ (j : Nat) t v, Try.f6.params[j]? = some t → args[j]? = some v → Value.okWide Try.prog W .any base t v := hval0
  have hW' := hW
  obtain ⟨p, q, hA0, hV, rfl, hfz, hnd⟩ := hW
  have hA : DataW.TrodAll enc Try.prog W 0 (fun _ => true) true Try.f6.params.toList args.toList ds p := hA0
  rw [Try.params6] at hA hval
  obtain ⟨v0, v1, d0, d1, p0, p1, rfl, rfl, rfl, h0, h1⟩ := trodAll_two hA
  obtain ⟨x, l, rfl, hX⟩ := open_nfa (hval 0 32 v0 rfl rfl) h0
  obtain ⟨t, rfl, _⟩ := open_str3 (hval 1 9 v1 rfl rfl) h1
  refine (dfaSame_any x l t W hX).mono fun e W' ⟨he, hw⟩ => ?_
  subst he
  exact ⟨_, rfl, law_post hW' rfl rfl (by kernel_rfl) (by rw [Try.params6]; intro t ht; simp at ht; rcases ht with rfl | rfl; exact ⟨by kernel_rfl, of_decide_eq_true (by kernel_rfl)⟩; exact ⟨by kernel_rfl, of_decide_eq_true (by kernel_rfl)⟩) hw⟩

theorem dfaSame_holds : Rows.DfaSameSaid :=
  OpenClaim.holds_of_wide 6 Try.f6 rfl rfl rfl rfl rfl rfl rfl ⟨rfl, rfl, rfl, rfl, rfl⟩ rfl rfl rfl rfl rfl (by kernel_rfl) Try.func6 (by kernel_rfl)
    (of_decide_eq_true (by kernel_rfl)) (by unfold Func.isWrapper; first | (rw [if_pos (by decide +kernel)]; kernel_rfl) | (rw [if_neg (by decide +kernel)]; exact ⟨rfl, rfl⟩))
    (fun os started H enc _ => dfaSame_lifted os started H enc)
end Go.Proofs.Ytngbfjimmdkfeaa

