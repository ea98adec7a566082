/- Texts of layer 2 joined: Yh Yi PNb. -/
import Derived.Test.YtpbceejjkdmclaaJK2
import Derived.Test.YtpbceejjkdmclaaJNm
import Derived.Test.YtpbceejjkdmclaaJY3
import Derived.Test.YtpbceejjkdmclaaJRv
set_option linter.unusedVariables false
set_option linter.unusedSimpArgs false
/- Layer 3: what is built may be. -/
namespace Go.Proofs.Ytpbceejjkdmclaa
open Go.RowKit Go.Shelf

/-- All sets are in order. -/
def Orl (s : Bs) : Prop := ∀ e ∈ s.2, ordB e.q = true
theorem Orl.grw {s : Bs} (h : Orl s) (f : Nat) {q : List Sp} (hq : ordB q = true) : Orl (grw f q s).2 := by
  intro e he
  rcases List.mem_append.1 (show e ∈ s.2 ++ [(⟨(f : Int), (s.1 : Int), q⟩ : Eg)] from he) with h1 | h1
  · exact h e h1
  · rw [List.mem_singleton.1 h1]; exact hq
theorem Orl.lnk {s : Bs} (h : Orl s) (f t : Nat) {q : List Sp} (hq : ordB q = true) : Orl (lnk f t q s) := by
  intro e he
  rcases List.mem_append.1 (show e ∈ s.2 ++ [(⟨(f : Int), (t : Int), q⟩ : Eg)] from he) with h1 | h1
  · exact h e h1
  · rw [List.mem_singleton.1 h1]; exact hq
theorem ordB_nil : ordB [] = true := rfl
theorem Orl.all (e : Nat) : ∀ (l : List Nat) {s : Bs}, Orl s → Orl (lnkAll e l s) := by
  intro l
  induction l with
  | nil => intro s h; exact h
  | cons x r ih => intro s h; exact ih (h.lnk x e ordB_nil)
theorem Orl.altEnd {r : List Nat × Bs} (h : Orl r.2) : Orl (altEnd r).2 := by
  obtain ⟨l, s⟩ := r
  cases l with
  | nil => exact h
  | cons x l => exact Orl.all _ l (Orl.grw h x ordB_nil)
theorem bX_orl {h : Hd} {K : Bk} (hq : ordB h.set = true) (hc : ∀ a s, Orl s → Orl (K.cat a s).2) (ha : ∀ a s, Orl s → Orl (K.alt a s).2) (hf : ∀ a s, Orl s → Orl (K.fst a s).2) : ∀ a s, Orl s → Orl (bX h K a s).2 := by
  intro a s hs
  have hl : Orl (bLoop K.fst a s).2 := (hf _ _ (hs.grw a ordB_nil)).lnk _ _ ordB_nil
  unfold bX
  split
  · exact hc a s hs
  split
  · exact (ha a s hs).altEnd
  split
  · exact hl.grw _ ordB_nil
  split
  · exact hl.grw _ ordB_nil
  split
  · exact ((hf _ _ (hs.grw a ordB_nil)).grw _ ordB_nil).lnk _ _ ordB_nil
  · exact hs.grw a hq
theorem plain_ord {h : Hd} {kids : Fo} (hp : plainB h kids.len = true) : ordB h.set = true := by
  rcases plain_cases hp with ⟨rfl, _⟩ | ⟨_, _, _, ho⟩ | ⟨h34, _⟩ | ⟨h567, _⟩
  · rfl
  · exact ho
  · rcases h34 with rfl | rfl <;> rfl
  · rcases h567 with rfl | rfl | rfl <;> rfl
theorem bF_orl : ∀ (f : Fo), okF f → (∀ a s, Orl s → Orl ((bF f).cat a s).2) ∧ (∀ a s, Orl s → Orl ((bF f).alt a s).2) ∧ (∀ a s, Orl s → Orl ((bF f).fst a s).2) := by
  intro f
  induction f with
  | nil => intro _; exact ⟨fun a s h => h, fun a s h => h, fun a s h => h⟩
  | cons h k r ihk ihr =>
    rintro ⟨o1, o2, o3⟩
    obtain ⟨k1, k2, k3⟩ := ihk o2
    obtain ⟨r1, r2, _⟩ := ihr o3
    have hX := bX_orl (h := h) (K := bF k) (plain_ord o1) k1 k2 k3
    exact ⟨fun a s hs => r1 _ _ (hX a s hs), fun a s hs => r2 _ _ (hX _ _ (hs.grw a ordB_nil)), hX⟩
theorem bL_orl : ∀ (f : Fo), okF f → ∀ s, Orl s → Orl (bL f s).2 := by
  intro f
  induction f with
  | nil => intro _ s hs; exact hs
  | cons h k r _ ihr =>
    rintro ⟨o1, o2, o3⟩ s hs
    have hX := (bF_orl (.cons h k .nil) ⟨o1, o2, trivial⟩).2.2
    exact ihr o3 _ (hX 0 s hs)
theorem aut_good {f : Fo} (ho : okF f) (hs : 1 + stF f ≤ 2000) : nfB (autF f) = true := by
  unfold nfB
  rw [aut_link ho hs, Bool.true_and, List.all_eq_true]
  exact bL_orl f ho (1, []) (fun e he => by cases he)
theorem buildP_cases (f : Fo) : ∃ x E, buildP f = (x, E) ∧ (E = 0 → nfB x = true) := by
  by_cases h : errF f = 0 ∧ 1 + stF f ≤ 2000
  · exact ⟨_, _, build_ok h.1 h.2, fun _ => aut_good (okF_err f h.1) h.2⟩
  · obtain ⟨E, hE, h0⟩ := buildP_bad h
    exact ⟨_, _, hE, fun e => absurd e h0⟩
end Go.Proofs.Ytpbceejjkdmclaa

/- The law NfaBuilds. -/
namespace Go.Proofs.Ytpbceejjkdmclaa
open Go.RowKit Go.Shelf

attribute [local go_sem] Oper.semAt_some

set_option maxRecDepth 100000 in
set_option maxHeartbeats 2000000 in
theorem nfaBuilds_any (f : Fo) (a : Option Addr) (cap : Nat) (w : World) (hI : Items w a cap f) :
    Calls Try.prog 4 #[.slice a f.len cap] w fun e w' => e = .returned (.bool true) ∧ Below w.heap.size w w' := by
  have hlm : f.len ≤ cap ∧ cap ≤ 9223372036854775807 := ⟨hI.le, hI.max⟩
  have HBu := Lib.hid (fun (V : World) (hV : Below w.heap.size w V) (h1 : f.size ≤ 1000000) (h2 : stF f ≤ 100000000) => build_any a f.len cap f V rfl (hI.grown hV) h1 h2)
  have HRb := Lib.hid (fun (V : World) (hV : Below w.heap.size w V) (h1 : f.size ≤ 1000000) (h2 : stF f ≤ 900000) => refBuild_any a f.len cap f V rfl (hI.grown hV) h1 h2)
  obtain ⟨L, HL⟩ : ∃ L, Hid (f.len = L) := ⟨_, Lib.hid rfl⟩
  rw [HL.out] at hlm HBu HRb ⊢
  obtain ⟨B, HB⟩ : ∃ B, Hid (bigF 3000 f = B) := ⟨_, Lib.hid rfl⟩
  go_enter Try.func4, Try.ntmps4
  go_wp2_with (fail)
  refine (live3_any _).mono ?_
  rintro e w1 ⟨rfl, hb1⟩
  go_wp2_with (fail)
  go_loopw [13] (fun i wr => ∃ (k : Nat), k ≤ L ∧ i = .int .i64 k ∧ B = bigF 3000 (f.drop k) ∧ Below w.heap.size w wr) (fun i _ => L - (intOf i).toNat)
  case atStart => exact ⟨0, by omega, rfl, HB.out.symm, hb1⟩
  case round =>
    obtain ⟨k, hk, rfl, hr, hbr⟩ := hrel
    have HR := Lib.hid hr
    clear hr hb1
    by_cases hlt : k < L
    · have hkI : (k : Int) < (L : Int) := by omega
      have hkI0 : (0 : Int) ≤ (k : Int) := by omega
      obtain ⟨b, off, hd, ks, sa, sc, xa, xcap, rfl, hat⟩ := (hI.grown hbr).at (k := k) (by rw [HL.out]; exact hlt)
      have HM := Lib.hid (hat.bigm 3000)
      obtain ⟨x0, x1, x2, hsp, hIk, hcut⟩ := hat
      clear hcut
      have hmx := And.intro hIk.le hIk.max
      have hmx2 := And.intro hsp.le hsp.max
      have hbl := World.block_lt_of_cell? _ _ x0
      have hnx := (Below.refl wr.heap.size wr).alloc (Nat.le_refl _) (.cells #[.int .i64 hd.k, .slice sa hd.set.length sc, .slice xa ks.len xcap] 35)
      have Hc := Lib.hid (few_B hd ks sa sc xa xcap 3000 _ (hsp.grown hnx) (hIk.grown hnx) (by omega) (by omega))
      have hbn : Below w.heap.size w (wr.alloc (.cells #[.int .i64 hd.k, .slice sa hd.set.length sc, .slice xa ks.len xcap] 35)) := hbr.trans (hnx.mono hbr.size)
      clear hnx hIk hsp
      dsimp only [itemV] at Hc
      go_wp2_with (fail)
      refine Hc.out.mono ?_
      rintro e w4 ⟨rfl, hb4⟩
      have hb5 : Below w.heap.size w w4 := hbn.trans (hb4.mono hbn.size)
      clear hb4 hbn x0 x1 x2
      obtain ⟨q, Hq⟩ : ∃ q, Hid (fewB 3000 hd ks = q) := ⟨_, Lib.hid rfl⟩
      rw [Hq.out] at HM ⊢
      cases q
      · go_wp2_with (fail)
        exact bodyPost_ret (v := .bool true) (by simp [results, Try.results4, go_sem]; try rfl) rfl ⟨rfl, hb5⟩
      · go_wp2_with (fail)
        exact ⟨⟨k + 1, by omega, by simp, by rw [HR.out, HM.out]; rfl, hb5⟩, by simp [intOf]; omega⟩
    · obtain rfl : k = L := by omega
      have hkI : ¬ (k : Int) < (k : Int) := by omega
      have HK : Hid (bigF (3000 : Nat) f = false) := Lib.hid (by have := HB.out; rw [HR.out, Fo.drop_all (by rw [HL.out]; exact Nat.le_refl _)] at this; exact this)
      clear HR
      by_cases h100 : 100 < k
      · have h100I : (100 : Int) < (k : Int) := by omega
        go_wp2_with (fail)
        exact bodyPost_ret (v := .bool true) (by simp [results, Try.results4, go_sem]; try rfl) rfl ⟨rfl, hbr⟩
      have h100I : ¬ (100 : Int) < (k : Int) := by omega
      have hsz : f.size ≤ 300000 := by
        have h1 := bigF_size (m := 3000) f HK.out
        have h2 := HL.out
        have h3 := Nat.mul_le_mul_left 3000 (show f.len ≤ 100 by omega)
        omega
      have hst : stF f ≤ 900000 := by have := st_size3 f; omega
      have Hc1 := Lib.hid (HBu.out wr hbr (by omega) (by omega))
      have HRc := Lib.hid (fun V hV => HRb.out V hV (by omega) hst)
      obtain ⟨x, E, hx, hg⟩ := buildP_cases f
      rw [hx] at Hc1 HRc
      have Hg := Lib.hid hg
      clear HBu HRb hx hsz hst HK hI hg
      go_wp2_with (fail)
      refine Hc1.out.mono ?_
      rintro e w3 ⟨⟨⟨ea, ec, ga, gc⟩, rfl, hp⟩, hb3⟩
      have hbw3 := hbr.trans (hb3.mono hbr.size)
      have hnx3 := (Below.refl w3.heap.size w3).alloc (Nat.le_refl _) (.cells #[.int .i64 x.n, .int .i64 x.s, .slice ea x.ends.length ec, .slice ga x.es.length gc] 25)
      have hA3 := Blk.new w3 25 #[.int .i64 x.n, .int .i64 x.s, .slice ea x.ends.length ec, .slice ga x.es.length gc]
      have hbw4 := hbw3.trans (hnx3.mono hbw3.size)
      have Hp4 := Lib.hid (hp.grown hnx3)
      have Hc2 := Lib.hid (HRc.out _ hbw4)
      have Hbw4 := Lib.hid hbw4
      have HA3 := Lib.hid hA3
      clear hp hb3 hbr hbw3 hnx3 hA3 HRc Hc1 hbw4
      dsimp only at *
      go_wp2_with (fail)
      refine Hc2.out.mono ?_
      rintro e w5 ⟨⟨⟨oa, oc, ya, yc⟩, rfl, hq⟩, hb5⟩
      have hA5 := HA3.out.below hb5 HA3.out.lt
      have hp5 := Hp4.out.grown hb5
      have hnx5 := (Below.refl w5.heap.size w5).alloc (Nat.le_refl _) (.cells #[.int .i64 x.n, .int .i64 x.s, .slice oa x.ends.length oc, .slice ya x.es.length yc] 25)
      have Hb6 := Lib.hid (Hbw4.out.trans ((hb5.mono Hbw4.out.size).trans (hnx5.mono (Hbw4.out.trans (hb5.mono Hbw4.out.size)).size)))
      have Hs := Lib.hid (refSame_self x ⟨ea, ec, ga, gc⟩ ⟨oa, oc, ya, yc⟩ _ (hp5.grown hnx5) (hq.grown hnx5))
      have Hck := Lib.hid (fun (V : World) (hV : Below w5.heap.size w5 V) => ncheck_any x ⟨ea, ec, ga, gc⟩ V (hp5.grown hV))
      have HA6 := Lib.hid (hA5.below hnx5 hA5.lt)
      have Hnx5 := Lib.hid hnx5
      have x0 := hA5.cell 0
      have x1 := hA5.cell 1
      have x2 := hA5.cell 2
      have x3 := hA5.cell 3
      have xl := hA5.lt
      simp only [List.getElem?_cons_zero, List.getElem?_cons_succ] at x0 x1 x2 x3
      clear Hc2 hb5 hp5 hq hnx5 hA5 Hp4 Hbw4 HA3
      dsimp only at *
      go_wp2_with (fail)
      refine Hs.out.mono ?_
      rintro e w6 ⟨rfl, hb6⟩
      have Hb7 := Lib.hid (Hb6.out.trans (hb6.mono Hb6.out.size))
      have hA7 := HA6.out.below hb6 HA6.out.lt
      have Hck7 := Lib.hid (Hck.out w6 (Hnx5.out.trans (hb6.mono Hnx5.out.size)))
      clear hb6 Hck Hnx5 HA6 Hb6 Hs x0 x1 x2 x3 xl
      have x0 := hA7.cell 0
      have x1 := hA7.cell 1
      have x2 := hA7.cell 2
      have x3 := hA7.cell 3
      have xl := hA7.lt
      simp only [List.getElem?_cons_zero, List.getElem?_cons_succ] at x0 x1 x2 x3
      by_cases hE : E = 0
      · subst hE
        rw [Hg.out rfl] at Hck7
        go_wp2_with (fail)
        refine Hck7.out.mono ?_
        rintro e w8 ⟨rfl, hb8⟩
        have hb9 := Hb7.out.trans (hb8.mono Hb7.out.size)
        go_wp2_with (fail)
        exact bodyPost_ret (v := .bool true) (by simp [results, Try.results4, go_sem]; try rfl) rfl ⟨rfl, hb9⟩
      · have hEb : (E != 0) = true := by simp [hE]
        have hEc : (E == 0) = false := by simp [hE]
        go_wp2_with (fail)
        exact bodyPost_ret (v := .bool true) (by simp [results, Try.results4, go_sem]; try rfl) rfl ⟨rfl, Hb7.out⟩
end Go.Proofs.Ytpbceejjkdmclaa

/- The row NfaBuilds: for every list of expressions: Build answers the automaton of the document's, or the same error, and what is built may be: the law answers true and changes nothing that was there; no premise beyond the row's own. -/
namespace Go.Proofs.Ytpbceejjkdmclaa
open Go.ChangeShapes Go.WideShapes Go.ChangeAt Go.RowKit

set_option maxRecDepth 100000 in
theorem nfaBuilds_lifted (os : Os) (started : os.Started) (H : Type) (enc : TypeId × Value → H) :
    ReturnsInHanded {} Try.checked os 4 .any (Rows.nfaBuildsSpec.pre6 enc Try.prog Try.f4 Rows.nfaBuildsRow.domain false) (Rows.nfaBuildsSpec.post enc Try.prog Try.f4 false true false false) := by
  refine returnsInHanded_of_change (C := Try.checked) Try.own started (by kernel_rfl) Try.func4
    (ChangeSpec.witness6 (enc := enc) (C := Try.checked) false ⟨#[], #[.slice none 0 0], []⟩ 8 (by kernel_rfl) (by kernel_rfl) (by kernel_rfl) (by kernel_rfl)) ?_
  intro W base args ds gs before hval0 hW _ _
  have hval : ∀ (j : Nat) t v, Try.f4.params[j]? = some t → args[j]? = some v → Value.okWide Try.prog W .any base t v := hval0
  have hW' := hW
  obtain ⟨p, q, hA0, hV, rfl, hfz, hnd⟩ := hW
  have hA : DataW.TrodAll enc Try.prog W 0 (fun _ => true) true Try.f4.params.toList args.toList ds p := hA0
  rw [Try.params4] at hA hval
  obtain ⟨v0, d0, rfl, rfl, h0⟩ := trodAll_one hA
  obtain ⟨a, cap, f, rfl, hI⟩ := open_res (hval 0 33 v0 rfl rfl) h0
  refine (nfaBuilds_any f a cap W hI).mono fun e W' ⟨he, hw⟩ => ?_
  subst he
  exact ⟨_, rfl, law_post hW' rfl rfl (by kernel_rfl) (by rw [Try.params4]; intro t ht; simp at ht; subst ht; exact ⟨by kernel_rfl, of_decide_eq_true (by kernel_rfl)⟩) hw⟩

theorem nfaBuilds_holds : Rows.NfaBuildsSaid :=
  OpenClaim.holds_of_wide 4 Try.f4 rfl rfl rfl rfl rfl rfl rfl ⟨rfl, rfl, rfl, rfl, rfl⟩ rfl rfl rfl rfl rfl (by kernel_rfl) Try.func4 (by kernel_rfl)
    (of_decide_eq_true (by kernel_rfl)) (by unfold Func.isWrapper; first | (rw [if_pos (by decide +kernel)]; kernel_rfl) | (rw [if_neg (by decide +kernel)]; exact ⟨rfl, rfl⟩))
    (fun os started H enc _ => nfaBuilds_lifted os started H enc)
end Go.Proofs.Ytpbceejjkdmclaa
