/- Texts joined: Rc. -/
import Derived.Test.YtngbfjimmdkfeaaPBK3
import Derived.Test.YtngbfjimmdkfeaaPBN1
import Derived.Test.YtngbfjimmdkfeaaPBM
import Derived.Test.YtngbfjimmdkfeaaPBQ
set_option linter.unusedVariables false
set_option linter.unusedSimpArgs false
namespace Go.Proofs.Ytngbfjimmdkfeaa
open Go.RowKit Go.Shelf

attribute [local go_sem] Oper.semAt_some

theorem ret_c {a b : Int} (h : a = b) : Ending.returned (.int .i64 a) = .returned (.int .i64 b) := by rw [h]
theorem spans_ord (q : List Sp) : decide (spP (inSp q) 256 = q) = ordB q := by
  rw [Bool.eq_iff_iff, decide_eq_true_eq]
  exact ⟨fun h => by rw [← h]; exact spP_ord q, spP_self⟩
def okEg (x : Nf) (e : Eg) : Bool := stB x e.f && stB x e.t && ordB e.q
theorem nfB_eg (x : Nf) : nfB x = (decide (x.n ≤ 2000) && stB x x.s && x.ends.all (stB x) && x.es.all (okEg x)) := by
  have : x.es.all (okEg x) = (x.es.all (fun e => stB x e.f && stB x e.t) && x.es.all (fun e => ordB e.q)) := by
    induction x.es with
    | nil => rfl
    | cons e r ih =>
      simp only [List.all_cons, ih, okEg]
      cases stB x e.f <;> cases stB x e.t <;> cases ordB e.q <;> simp
  unfold nfB linkB
  rw [this]
  simp only [Bool.and_assoc]

set_option maxRecDepth 100000 in
set_option maxHeartbeats 1000000 in
theorem refState_any (x : Nf) (p : NfL) (k : Int) (w : World) :
    Calls Try.prog 57 #[.agg #[.int .i64 x.n, .int .i64 x.s, .slice p.ea x.ends.length p.ec, .slice p.ga x.es.length p.gc], .int .i64 k] w fun e w' => e = .returned (.bool (stB x k)) ∧ Below w.heap.size w w' := by
  have hA0 := Blk.new w 32 #[.int .i64 x.n, .int .i64 x.s, .slice p.ea x.ends.length p.ec, .slice p.ga x.es.length p.gc]
  have hb0 : Below w.heap.size w (w.alloc (.cells #[.int .i64 x.n, .int .i64 x.s, .slice p.ea x.ends.length p.ec, .slice p.ga x.es.length p.gc] 32)) := (Below.refl _ w).alloc (Nat.le_refl _) _
  have x0 := hA0.cell 0
  have x1 := hA0.cell 1
  have x2 := hA0.cell 2
  have x3 := hA0.cell 3
  have xl := hA0.lt
  simp only [List.getElem?_cons_zero, List.getElem?_cons_succ] at x0 x1 x2 x3
  obtain ⟨R, hR⟩ : ∃ R, Hid (stB x k = R) := ⟨_, Lib.hid rfl⟩
  rw [hR.out]
  by_cases h0 : (0 : Int) ≤ k
  · by_cases h1 : k < x.n
    · have hT : Hid (R = true) := Lib.hid (by rw [← hR.out, stB, decide_eq_true h0, decide_eq_true h1]; rfl)
      go_enter Try.func57, Try.ntmps57
      go_wp2_with (fail)
      exact bodyPost_ret (v := .bool true) (by simp [results, Try.results57, go_sem]; try rfl) rfl ⟨ret_bool hT.out.symm, hb0⟩
    · have hT : Hid (R = false) := Lib.hid (by rw [← hR.out, stB, decide_eq_false h1, Bool.and_false])
      go_enter Try.func57, Try.ntmps57
      go_wp2_with (fail)
      exact bodyPost_ret (v := .bool false) (by simp [results, Try.results57, go_sem]; try rfl) rfl ⟨ret_bool hT.out.symm, hb0⟩
  · have hT : Hid (R = false) := Lib.hid (by rw [← hR.out, stB, decide_eq_false h0, Bool.false_and])
    go_enter Try.func57, Try.ntmps57
    go_wp2_with (fail)
    exact bodyPost_ret (v := .bool false) (by simp [results, Try.results57, go_sem]; try rfl) rfl ⟨ret_bool hT.out.symm, hb0⟩

set_option maxRecDepth 100000 in
set_option maxHeartbeats 4000000 in
/-- The reference's Check. -/
theorem refNCheck_any (x : Nf) (p : NfL) (w : World) (hx : NfAt w x p) :
    Calls Try.prog 35 #[.agg #[.int .i64 x.n, .int .i64 x.s, .slice p.ea x.ends.length p.ec, .slice p.ga x.es.length p.gc]] w fun e w' => e = .returned (.int .i64 (if nfB x then 0 else 30)) ∧ Below w.heap.size w w' := by
  rw [nfB_eg]
  have hE1 := hx.ends.le
  have hE2 := hx.ends.max
  have hG1 := hx.es.le
  have hG2 := hx.es.max
  have Hx := Lib.hid hx
  have HQ : Hid (∀ (k : Int) (W : World), Calls Try.prog 57 #[.agg #[.int .i64 x.n, .int .i64 x.s, .slice p.ea x.ends.length p.ec, .slice p.ga x.es.length p.gc], .int .i64 k] W fun e w' => e = .returned (.bool (stB x k)) ∧ Below W.heap.size W w') := Lib.hid (fun k W => refState_any x p k W)
  obtain ⟨ea, ec, ga, gc⟩ := p
  have HstB : Hid (∀ k, stB x k = (decide (0 ≤ k) && decide (k < x.n))) := Lib.hid (fun _ => rfl)
  dsimp only at *
  obtain ⟨E, hE⟩ : ∃ E, Hid (x.ends.length = E) := ⟨_, Lib.hid rfl⟩
  obtain ⟨G, hG⟩ : ∃ G, Hid (x.es.length = G) := ⟨_, Lib.hid rfl⟩
  obtain ⟨xn, hn⟩ : ∃ n, Hid (x.n = n) := ⟨_, Lib.hid rfl⟩
  obtain ⟨xs, hs⟩ : ∃ n, Hid (x.s = n) := ⟨_, Lib.hid rfl⟩
  rw [hE.out, hG.out, hn.out, hs.out] at HQ
  rw [hE.out] at hE1
  rw [hG.out] at hG1
  rw [hE.out, hG.out, hn.out, hs.out]
  rw [hn.out] at HstB
  have hA0 := Blk.new w 32 #[.int .i64 xn, .int .i64 xs, .slice ea E ec, .slice ga G gc]
  have hb0 : Below w.heap.size w (w.alloc (.cells #[.int .i64 xn, .int .i64 xs, .slice ea E ec, .slice ga G gc] 32)) := (Below.refl _ w).alloc (Nat.le_refl _) _
  have x0 := hA0.cell 0
  have x1 := hA0.cell 1
  have x2 := hA0.cell 2
  have x3 := hA0.cell 3
  have xl := hA0.lt
  simp only [List.getElem?_cons_zero, List.getElem?_cons_succ] at x0 x1 x2 x3
  obtain ⟨R, hR⟩ : ∃ R, Hid ((if (decide (xn ≤ 2000) && stB x xs && x.ends.all (stB x) && x.es.all (okEg x)) = true then (0 : Int) else 30) = R) := ⟨_, Lib.hid rfl⟩
  rw [hR.out]
  go_enter Try.func35, Try.ntmps35
  by_cases h1 : xn < 1
  · have HBad : Hid (R = 30) := Lib.hid (by rw [← hR.out, HstB.out, if_neg]; simp; omega)
    go_wp2_with (fail)
    exact bodyPost_ret (v := .int .i64 30) (by simp [results, Try.results35, go_sem]; try rfl) rfl ⟨ret_c HBad.out.symm, hb0⟩
  have h1' : ¬ xn < 1 := h1
  by_cases h2 : 2000 < xn
  · have HBad : Hid (R = 30) := Lib.hid (by rw [← hR.out, if_neg]; simp; omega)
    go_wp2_with (fail)
    exact bodyPost_ret (v := .int .i64 30) (by simp [results, Try.results35, go_sem]; try rfl) rfl ⟨ret_c HBad.out.symm, hb0⟩
  go_wp2_with (fail)
  refine (HQ.out xs _).mono ?_
  rintro e w1 ⟨rfl, hb1⟩
  have hA1 := hA0.below hb1 hA0.lt
  have hbw1 := hb0.trans (hb1.mono hb0.size)
  obtain ⟨B0, hB0⟩ : ∃ B, Hid (stB x xs = B) := ⟨_, Lib.hid rfl⟩
  rw [hB0.out] at hR ⊢
  clear x0 x1 x2 x3 xl hA0 hb0 hb1
  have x0 := hA1.cell 0
  have x1 := hA1.cell 1
  have x2 := hA1.cell 2
  have x3 := hA1.cell 3
  have xl := hA1.lt
  simp only [List.getElem?_cons_zero, List.getElem?_cons_succ] at x0 x1 x2 x3
  cases B0
  case false =>
    have HBad : Hid (R = 30) := Lib.hid (by rw [← hR.out, if_neg]; simp)
    go_wp2_with (fail)
    exact bodyPost_ret (v := .int .i64 30) (by simp [results, Try.results35, go_sem]; try rfl) rfl ⟨ret_c HBad.out.symm, hbw1⟩
  have HR0 : Hid (R = if (x.ends.all (stB x) && x.es.all (okEg x)) = true then (0 : Int) else 30) := Lib.hid (by rw [← hR.out, decide_eq_true (by omega : xn ≤ 2000), Bool.true_and, Bool.true_and])
  clear hR
  obtain ⟨BN, hBN⟩ : ∃ n, Hid (w.heap.size = n) := ⟨_, Lib.hid rfl⟩
  have HBN := Lib.hid (show BN < w1.heap.size from by rw [← hBN.out]; exact xl)
  rw [hBN.out] at hA1 x0 x1 x2 x3 xl
  simp only [hBN.out]
  have Hbw1 := Lib.hid hbw1
  clear hbw1
  go_wp2_with (fail)
  go_loopw [4, 25] (fun _ iv wr => ∃ k : Nat, k ≤ E ∧ iv = .int .i64 (k : Int) ∧ (x.ends.all (stB x) = (x.ends.drop k).all (stB x)) ∧ Below w1.heap.size w1 wr) (fun _ iv _ => E - (intOf iv).toNat)
  case atStart => exact ⟨0, Nat.zero_le _, rfl, rfl, Below.refl _ _⟩
  case round =>
    obtain ⟨k, hk, rfl, hall, hbr⟩ := hrel
    have Hall := Lib.hid hall
    have hAr := hA1.below hbr hA1.lt
    clear x0 x1 x2 x3 xl hall
    have x0 := hAr.cell 0
    have x1 := hAr.cell 1
    have x2 := hAr.cell 2
    have x3 := hAr.cell 3
    have xl := hAr.lt
    simp only [List.getElem?_cons_zero, List.getElem?_cons_succ] at x0 x1 x2 x3
    have Hbwr := Lib.hid (Hbw1.out.trans (hbr.mono Hbw1.out.size))
    by_cases hlt : k < E
    · have hkI : (k : Int) < (E : Int) := by omega
      have hkI0 : (0 : Int) ≤ (k : Int) := by omega
      have hkl : k < x.ends.length := by rw [hE.out]; exact hlt
      obtain ⟨b, off, rfl⟩ := Hx.out.ends.at_ k hkl
      have c0 := ((Hx.out.ends.grown Hbwr.out).cell b off rfl k hkl)
      have hdr : Hid (x.ends.drop k = x.ends[k] :: x.ends.drop (k + 1)) := Lib.hid (List.drop_eq_getElem_cons hkl)
      obtain ⟨v, hv⟩ : ∃ v, Hid (x.ends[k] = v) := ⟨_, Lib.hid rfl⟩
      rw [hv.out] at c0 hdr
      have hbl := World.block_lt_of_cell? _ _ c0
      obtain ⟨B, hB⟩ : ∃ B, Hid (stB x v = B) := ⟨_, Lib.hid rfl⟩
      have HC := Lib.hid (HQ.out v wr)
      rw [hB.out] at HC
      have Hbr := Lib.hid hbr
      clear hbr
      go_wp2_with (fail)
      refine HC.out.mono ?_
      rintro e w3 ⟨rfl, hb3⟩
      have HQ3 := Lib.hid (Hbwr.out.trans (hb3.mono Hbwr.out.size))
      have Hbr3 := Lib.hid (Hbr.out.trans (hb3.mono Hbr.out.size))
      clear hb3 HC
      cases B
      case false =>
        have HBad : Hid (R = 30) := Lib.hid (by rw [HR0.out, Hall.out, hdr.out, List.all_cons, hB.out, if_neg]; simp)
        go_wp2_with (fail)
        exact bodyPost_ret (v := .int .i64 30) (by simp [results, Try.results35, go_sem]; try rfl) rfl ⟨ret_c HBad.out.symm, HQ3.out⟩
      case true =>
        have HNx : Hid (x.ends.all (stB x) = (x.ends.drop (k + 1)).all (stB x)) := Lib.hid (by rw [Hall.out, hdr.out, List.all_cons, hB.out, Bool.true_and])
        go_wp2_with (fail)
        exact ⟨⟨k + 1, by omega, by simp, HNx.out, Hbr3.out⟩, by simp [intOf]; omega⟩
    · obtain rfl : E = k := by omega
      have hkI : ¬ (E : Int) < (E : Int) := by omega
      have HR1 : Hid (R = if x.es.all (okEg x) = true then (0 : Int) else 30) := Lib.hid (by
        rw [HR0.out, Hall.out, List.drop_eq_nil_of_le (by rw [hE.out]; exact Nat.le_refl _)]
        simp only [List.all_nil, Bool.true_and])
      clear HR0 Hall hA1
      have HbrW := Lib.hid hbr
      have Hlt := Lib.hid (show BN < wr.heap.size from hAr.lt)
      clear hbr
      obtain ⟨W2, hW2⟩ : ∃ W, Hid (wr = W) := ⟨_, Lib.hid rfl⟩
      rw [hW2.out] at hAr x0 x1 x2 x3 xl Hbwr ⊢
      go_wp2_with (fail)
      go_loopw [6, 37] (fun _ iv wr => ∃ k : Nat, k ≤ G ∧ iv = .int .i64 (k : Int) ∧ (x.es.all (okEg x) = (x.es.drop k).all (okEg x)) ∧ Below w.heap.size w wr ∧ Blk wr BN 32 [.int .i64 xn, .int .i64 xs, .slice ea E ec, .slice ga G gc]) (fun _ iv _ => G - (intOf iv).toNat)
      case atStart => exact ⟨0, Nat.zero_le _, rfl, rfl, Hbwr.out, hAr⟩
      case round =>
        obtain ⟨k, hk, rfl, hall, hbr, hB⟩ := hrel
        have Hall := Lib.hid hall
        clear x0 x1 x2 x3 xl hall
        by_cases hlt : k < G
        · have hkI : (k : Int) < (G : Int) := by omega
          have hkI0 : (0 : Int) ≤ (k : Int) := by omega
          have hkl : k < x.es.length := by rw [hG.out]; exact hlt
          obtain ⟨b, off, rfl⟩ := Hx.out.es.at_ k hkl
          obtain ⟨c0, c1, sa, sc, c2, hsp⟩ := ((Hx.out.es.grown hbr).cell b off rfl k hkl)
          have hdr : Hid (x.es.drop k = x.es[k] :: x.es.drop (k + 1)) := Lib.hid (List.drop_eq_getElem_cons hkl)
          obtain ⟨v, hv⟩ : ∃ v, Hid (x.es[k] = v) := ⟨_, Lib.hid rfl⟩
          rw [hv.out] at c0 c1 c2 hsp hdr
          obtain ⟨ef, et, q⟩ := v
          dsimp only at c0 c1 c2 hsp
          have hbl := World.block_lt_of_cell? _ _ c0
          have HSM := Lib.hid (fun (V : World) (a5 : Option Addr) (c5 : Nat) (l : List Sp) (h1 : Sps V a5 c5 l) (h2 : Sps V sa sc q) => sameSpans_any a5 sa c5 sc l q V h1 h2)
          have hql : q.length ≤ sc ∧ sc ≤ 9223372036854775807 := ⟨hsp.le, hsp.max⟩
          have Hsp := Lib.hid hsp
          have HSP := Lib.hid (fun (V : World) (h2 : Sps V sa sc q) => refSpans_any sa sc q V h2)
          have hso := spans_ord q
          obtain ⟨SP, hSP⟩ : ∃ l, Hid (spP (inSp q) 256 = l) := ⟨_, Lib.hid rfl⟩
          rw [hSP.out] at HSP hso
          obtain ⟨Q, hQ⟩ : ∃ Q, Hid (q.length = Q) := ⟨_, Lib.hid rfl⟩
          rw [hQ.out] at c2 hql HSP HSM
          obtain ⟨B1, hB1⟩ : ∃ B, Hid (stB x ef = B) := ⟨_, Lib.hid rfl⟩
          obtain ⟨B2, hB2⟩ : ∃ B, Hid (stB x et = B) := ⟨_, Lib.hid rfl⟩
          obtain ⟨B3, hB3⟩ : ∃ B, Hid (ordB q = B) := ⟨_, Lib.hid rfl⟩
          have hokv : okEg x ⟨ef, et, q⟩ = (B1 && B2 && B3) := by rw [← hB1.out, ← hB2.out, ← hB3.out]; rfl
          have hbd : Below wr.heap.size wr ((wr.alloc (.cells #[.int .i64 ef, .int .i64 et, .slice sa Q sc] 61)).drew) := ((Below.refl wr.heap.size wr).alloc (Nat.le_refl _) _).drew
          have hEd : Blk ((wr.alloc (.cells #[.int .i64 ef, .int .i64 et, .slice sa Q sc] 61)).drew) wr.heap.size 61 [.int .i64 ef, .int .i64 et, .slice sa Q sc] := Blk.new wr 61 #[.int .i64 ef, .int .i64 et, .slice sa Q sc]
          have hBd : Blk ((wr.alloc (.cells #[.int .i64 ef, .int .i64 et, .slice sa Q sc] 61)).drew) BN 32 [.int .i64 xn, .int .i64 xs, .slice ea E ec, .slice (some ⟨b, off, none⟩) G gc] := hB.below hbd hB.lt
          have Hbwd := Lib.hid (hbr.trans (hbd.mono hbr.size))
          have HSt : Hid (∀ V, Below ((wr.alloc (.cells #[.int .i64 ef, .int .i64 et, .slice sa Q sc] 61)).drew).heap.size ((wr.alloc (.cells #[.int .i64 ef, .int .i64 et, .slice sa Q sc] 61)).drew) V → (Below ((wr.alloc (.cells #[.int .i64 ef, .int .i64 et, .slice sa Q sc] 61)).drew).heap.size ((wr.alloc (.cells #[.int .i64 ef, .int .i64 et, .slice sa Q sc] 61)).drew) V ∧ V.cell? ⟨BN, 0, none⟩ = some (.int .i64 xn) ∧ V.cell? ⟨BN, 1, none⟩ = some (.int .i64 xs) ∧ V.cell? ⟨BN, 2, none⟩ = some (.slice ea E ec) ∧ V.cell? ⟨BN, 3, none⟩ = some (.slice (some ⟨b, off, none⟩) G gc) ∧ V.cell? ⟨wr.heap.size, 0, none⟩ = some (.int .i64 ef) ∧ V.cell? ⟨wr.heap.size, 1, none⟩ = some (.int .i64 et) ∧ V.cell? ⟨wr.heap.size, 2, none⟩ = some (.slice sa Q sc))) := Lib.hid (fun V hV => by
            have h := hEd.below hV hEd.lt
            have h' := hBd.below hV hBd.lt
            exact ⟨hV, by simpa using h'.cell 0, by simpa using h'.cell 1, by simpa using h'.cell 2, by simpa using h'.cell 3, by simpa using h.cell 0, by simpa using h.cell 1, by simpa using h.cell 2⟩)
          have HBk : Hid (∀ V, Below ((wr.alloc (.cells #[.int .i64 ef, .int .i64 et, .slice sa Q sc] 61)).drew).heap.size ((wr.alloc (.cells #[.int .i64 ef, .int .i64 et, .slice sa Q sc] 61)).drew) V → Blk V BN 32 [.int .i64 xn, .int .i64 xs, .slice ea E ec, .slice (some ⟨b, off, none⟩) G gc]) := Lib.hid (fun V hV => hBd.below hV hBd.lt)
          have Hq1 : Hid (∀ V, Below ((wr.alloc (.cells #[.int .i64 ef, .int .i64 et, .slice sa Q sc] 61)).drew).heap.size ((wr.alloc (.cells #[.int .i64 ef, .int .i64 et, .slice sa Q sc] 61)).drew) V → Calls Try.prog 57 #[.agg #[.int .i64 xn, .int .i64 xs, .slice ea E ec, .slice (some ⟨b, off, none⟩) G gc], .int .i64 ef] V fun e V' => e = .returned (.bool B1) ∧ Below ((wr.alloc (.cells #[.int .i64 ef, .int .i64 et, .slice sa Q sc] 61)).drew).heap.size ((wr.alloc (.cells #[.int .i64 ef, .int .i64 et, .slice sa Q sc] 61)).drew) V') := Lib.hid (fun V hV => by
            have h := HQ.out ef V
            rw [hB1.out] at h
            exact h.mono (fun e V' ⟨h1, h2⟩ => ⟨h1, hV.trans (h2.mono hV.size)⟩))
          have Hq2 : Hid (∀ V, Below ((wr.alloc (.cells #[.int .i64 ef, .int .i64 et, .slice sa Q sc] 61)).drew).heap.size ((wr.alloc (.cells #[.int .i64 ef, .int .i64 et, .slice sa Q sc] 61)).drew) V → Calls Try.prog 57 #[.agg #[.int .i64 xn, .int .i64 xs, .slice ea E ec, .slice (some ⟨b, off, none⟩) G gc], .int .i64 et] V fun e V' => e = .returned (.bool B2) ∧ Below ((wr.alloc (.cells #[.int .i64 ef, .int .i64 et, .slice sa Q sc] 61)).drew).heap.size ((wr.alloc (.cells #[.int .i64 ef, .int .i64 et, .slice sa Q sc] 61)).drew) V') := Lib.hid (fun V hV => by
            have h := HQ.out et V
            rw [hB2.out] at h
            exact h.mono (fun e V' ⟨h1, h2⟩ => ⟨h1, hV.trans (h2.mono hV.size)⟩))
          have HSp : Hid (∀ V, Below ((wr.alloc (.cells #[.int .i64 ef, .int .i64 et, .slice sa Q sc] 61)).drew).heap.size ((wr.alloc (.cells #[.int .i64 ef, .int .i64 et, .slice sa Q sc] 61)).drew) V → Calls Try.prog 59 #[.slice sa Q sc] V fun e V' => (∃ a' cap', e = .returned (.slice a' SP.length cap') ∧ Sps V' a' cap' SP) ∧ Below ((wr.alloc (.cells #[.int .i64 ef, .int .i64 et, .slice sa Q sc] 61)).drew).heap.size ((wr.alloc (.cells #[.int .i64 ef, .int .i64 et, .slice sa Q sc] 61)).drew) V') := Lib.hid (fun V hV => by
            exact (HSP.out V ((Hsp.out.grown hbd).grown hV)).mono (fun e V' ⟨h1, h2⟩ => ⟨h1, hV.trans (h2.mono hV.size)⟩))
          have HSm : Hid (∀ V a' c', Below ((wr.alloc (.cells #[.int .i64 ef, .int .i64 et, .slice sa Q sc] 61)).drew).heap.size ((wr.alloc (.cells #[.int .i64 ef, .int .i64 et, .slice sa Q sc] 61)).drew) V → Sps V a' c' SP → Calls Try.prog 58 #[.slice a' SP.length c', .slice sa Q sc] V fun e V' => e = .returned (.bool B3) ∧ Below ((wr.alloc (.cells #[.int .i64 ef, .int .i64 et, .slice sa Q sc] 61)).drew).heap.size ((wr.alloc (.cells #[.int .i64 ef, .int .i64 et, .slice sa Q sc] 61)).drew) V') := Lib.hid (fun V a' c' hV h5 => by
            have h := HSM.out V a' c' SP h5 ((Hsp.out.grown hbd).grown hV)
            rw [hso, hB3.out] at h
            exact h.mono (fun e V' ⟨h1, h2⟩ => ⟨h1, hV.trans (h2.mono hV.size)⟩))
          have HR : Hid (R = if (okEg x ⟨ef, et, q⟩ && (x.es.drop (k + 1)).all (okEg x)) = true then (0 : Int) else 30) := Lib.hid (by rw [HR1.out, Hall.out, hdr.out, List.all_cons])
          have HNx0 : Hid (x.es.all (okEg x) = (okEg x ⟨ef, et, q⟩ && (x.es.drop (k + 1)).all (okEg x))) := Lib.hid (by rw [Hall.out, hdr.out, List.all_cons])
          rw [hokv] at HR HNx0
          have y0 := hB.cell 0
          have y1 := hB.cell 1
          have y2 := hB.cell 2
          have y3 := hB.cell 3
          have yl := hB.lt
          simp only [List.getElem?_cons_zero, List.getElem?_cons_succ] at y0 y1 y2 y3
          clear HSM HSP hso hsp hokv hdr hbd hEd hBd hbr hB HR1 Hall HQ hAr hB1 hB2 hB3 hv hx
          cases B1
          case false =>
            have HBad : Hid (R = 30) := Lib.hid (by rw [HR.out]; rfl)
            go_wp2_with (fail)
            refine wp_region_held_drew (S := fun w' => (Below ((wr.alloc (.cells #[.int .i64 ef, .int .i64 et, .slice sa Q sc] 61)).drew).heap.size ((wr.alloc (.cells #[.int .i64 ef, .int .i64 et, .slice sa Q sc] 61)).drew) w' ∧ w'.cell? ⟨BN, 0, none⟩ = some (.int .i64 xn) ∧ w'.cell? ⟨BN, 1, none⟩ = some (.int .i64 xs) ∧ w'.cell? ⟨BN, 2, none⟩ = some (.slice ea E ec) ∧ w'.cell? ⟨BN, 3, none⟩ = some (.slice (some ⟨b, off, none⟩) G gc) ∧ w'.cell? ⟨wr.heap.size, 0, none⟩ = some (.int .i64 ef) ∧ w'.cell? ⟨wr.heap.size, 1, none⟩ = some (.int .i64 et) ∧ w'.cell? ⟨wr.heap.size, 2, none⟩ = some (.slice sa Q sc))) (by kernel_rfl) ?_ (fun hHeld => ?_)
            · exact HSt.out _ (Below.refl _ _)
            refine wpAnyH_take (i := 0) (v := ?_) (gatL gatZ) (by kernel_rfl) (by kernel_rfl) (by kernel_rfl) (fun _ _ _ h => h) (Or.inl ⟨by rfl, ?_⟩) (by assumption) ?_
            rotate_left
            · intro w hSw
              try dsimp only at hSw
              go_simp
              all_goals with_reducible rfl
            try simp only [Act.put, List.setIfInBounds_toArray, List.set_cons_zero, List.set_cons_succ]
            refine wpAnyH_take (i := 1) (v := ?_) (gatL (gatS gatZ)) (by kernel_rfl) (by kernel_rfl) (by kernel_rfl) (fun _ _ _ h => h) (Or.inl ⟨by rfl, ?_⟩) (by assumption) ?_
            rotate_left
            · intro w hSw
              try dsimp only at hSw
              go_simp
              all_goals with_reducible rfl
            try simp only [Act.put, List.setIfInBounds_toArray, List.set_cons_zero, List.set_cons_succ]
            refine wpAnyH_take (i := 2) (v := ?_) (gatL (gatS (gatS gatZ))) (by kernel_rfl) (by kernel_rfl) (by kernel_rfl) (fun _ _ _ h => h) (Or.inl ⟨by rfl, ?_⟩) (by assumption) ?_
            rotate_left
            · intro w hSw
              try dsimp only at hSw
              go_simp
              all_goals with_reducible rfl
            try simp only [Act.put, List.setIfInBounds_toArray, List.set_cons_zero, List.set_cons_succ]
            refine wpAnyH_ready (rs := [3]) (by kernel_rfl) (by simp) ?_
            refine AllReadyH.cons (gatL (gatS (gatS (gatS gatZ)))) (fun K hK => ?_) AllReadyH.nil
            go_simp
            go_at_call 57
            (with_reducible refine (Hq1.out _ hHeld.1).mono ?_)
            rintro e V1 ⟨rfl, hV1⟩
            have HV1 := Lib.hid hV1
            clear hV1
            dsimp only
            refine hK.out _ _ ?_ (fun hHeld => ?_)
            · exact HSt.out _ HV1.out
            clear hK K
            try simp only [Act.put, List.setIfInBounds_toArray, List.set_cons_zero, List.set_cons_succ]
            refine wpAnyH_take (i := 4) (v := ?_) (gatL (gatS (gatS (gatS (gatS gatZ))))) (by kernel_rfl) (by kernel_rfl) (by kernel_rfl) (fun _ _ _ h => h) (Or.inl ⟨by rfl, ?_⟩) (by assumption) ?_
            rotate_left
            · intro w hSw
              try dsimp only at hSw
              go_simp
              all_goals with_reducible rfl
            try simp only [Act.put, List.setIfInBounds_toArray, List.set_cons_zero, List.set_cons_succ]
            refine wpAnyH_take (i := 5) (v := ?_) (gatL (gatS (gatS (gatS (gatS (gatS gatZ)))))) (by kernel_rfl) (by kernel_rfl) (by kernel_rfl) (fun _ _ _ h => h) (Or.inl ⟨by rfl, ?_⟩) (by assumption) ?_
            rotate_left
            · intro w hSw
              try dsimp only at hSw
              go_simp
              all_goals with_reducible rfl
            try simp only [Act.put, List.setIfInBounds_toArray, List.set_cons_zero, List.set_cons_succ]
            refine wpAnyH_take (i := 6) (v := undef) (gatL (gatS (gatS (gatS (gatS (gatS (gatS gatZ))))))) (by kernel_rfl) (by kernel_rfl) (by kernel_rfl) (fun _ _ _ h => h) (Or.inr ⟨by rfl, rfl⟩) (by assumption) ?_
            try simp only [Act.put, List.setIfInBounds_toArray, List.set_cons_zero, List.set_cons_succ]
            refine wpAnyH_take (i := 7) (v := undef) (gatL (gatS (gatS (gatS (gatS (gatS (gatS (gatS gatZ)))))))) (by kernel_rfl) (by kernel_rfl) (by kernel_rfl) (fun _ _ _ h => h) (Or.inr ⟨by rfl, rfl⟩) (by assumption) ?_
            try simp only [Act.put, List.setIfInBounds_toArray, List.set_cons_zero, List.set_cons_succ]
            refine wpAnyH_take (i := 8) (v := undef) (gatL (gatS (gatS (gatS (gatS (gatS (gatS (gatS (gatS gatZ))))))))) (by kernel_rfl) (by kernel_rfl) (by kernel_rfl) (fun _ _ _ h => h) (Or.inr ⟨by rfl, rfl⟩) (by assumption) ?_
            try simp only [Act.put, List.setIfInBounds_toArray, List.set_cons_zero, List.set_cons_succ]
            refine wpAnyH_take (i := 9) (v := undef) (gatL (gatS (gatS (gatS (gatS (gatS (gatS (gatS (gatS (gatS gatZ)))))))))) (by kernel_rfl) (by kernel_rfl) (by kernel_rfl) (fun _ _ _ h => h) (Or.inr ⟨by rfl, rfl⟩) (by assumption) ?_
            try simp only [Act.put, List.setIfInBounds_toArray, List.set_cons_zero, List.set_cons_succ]
            refine wpAnyH_take (i := 10) (v := undef) (gatL (gatS (gatS (gatS (gatS (gatS (gatS (gatS (gatS (gatS (gatS gatZ))))))))))) (by kernel_rfl) (by kernel_rfl) (by kernel_rfl) (fun _ _ _ h => h) (Or.inr ⟨by rfl, rfl⟩) (by assumption) ?_
            try simp only [Act.put, List.setIfInBounds_toArray, List.set_cons_zero, List.set_cons_succ]
            refine wpAnyH_take (i := 11) (v := ?_) (gatL (gatS (gatS (gatS (gatS (gatS (gatS (gatS (gatS (gatS (gatS (gatS gatZ)))))))))))) (by kernel_rfl) (by kernel_rfl) (by kernel_rfl) (fun _ _ _ h => h) (Or.inl ⟨by rfl, ?_⟩) (by assumption) ?_
            rotate_left
            · intro w hSw
              try dsimp only at hSw
              go_simp
              all_goals with_reducible rfl
            try simp only [Act.put, List.setIfInBounds_toArray, List.set_cons_zero, List.set_cons_succ]
            refine wpAnyH_take (i := 12) (v := ?_) (gatL (gatS (gatS (gatS (gatS (gatS (gatS (gatS (gatS (gatS (gatS (gatS (gatS gatZ))))))))))))) (by kernel_rfl) (by kernel_rfl) (by kernel_rfl) (fun _ _ _ h => h) (Or.inl ⟨by rfl, ?_⟩) (by assumption) ?_
            rotate_left
            · intro w hSw
              try dsimp only at hSw
              go_simp
              all_goals with_reducible rfl
            try simp only [Act.put, List.setIfInBounds_toArray, List.set_cons_zero, List.set_cons_succ]
            refine wpAnyH_take (i := 13) (v := undef) (gatL (gatS (gatS (gatS (gatS (gatS (gatS (gatS (gatS (gatS (gatS (gatS (gatS (gatS gatZ)))))))))))))) (by kernel_rfl) (by kernel_rfl) (by kernel_rfl) (fun _ _ _ h => h) (Or.inr ⟨by rfl, rfl⟩) (by assumption) ?_
            try simp only [Act.put, List.setIfInBounds_toArray, List.set_cons_zero, List.set_cons_succ]
            refine wpAnyH_take (i := 14) (v := undef) (gatL (gatS (gatS (gatS (gatS (gatS (gatS (gatS (gatS (gatS (gatS (gatS (gatS (gatS (gatS gatZ))))))))))))))) (by kernel_rfl) (by kernel_rfl) (by kernel_rfl) (fun _ _ _ h => h) (Or.inr ⟨by rfl, rfl⟩) (by assumption) ?_
            try simp only [Act.put, List.setIfInBounds_toArray, List.set_cons_zero, List.set_cons_succ]
            refine wpAnyH_take (i := 15) (v := undef) (gatL (gatS (gatS (gatS (gatS (gatS (gatS (gatS (gatS (gatS (gatS (gatS (gatS (gatS (gatS (gatS gatZ)))))))))))))))) (by kernel_rfl) (by kernel_rfl) (by kernel_rfl) (fun _ _ _ h => h) (Or.inr ⟨by rfl, rfl⟩) (by assumption) ?_
            try simp only [Act.put, List.setIfInBounds_toArray, List.set_cons_zero, List.set_cons_succ]
            refine wpAnyH_take (i := 16) (v := undef) (gatL (gatS (gatS (gatS (gatS (gatS (gatS (gatS (gatS (gatS (gatS (gatS (gatS (gatS (gatS (gatS (gatS gatZ))))))))))))))))) (by kernel_rfl) (by kernel_rfl) (by kernel_rfl) (fun _ _ _ h => h) (Or.inr ⟨by rfl, rfl⟩) (by assumption) ?_
            try simp only [Act.put, List.setIfInBounds_toArray, List.set_cons_zero, List.set_cons_succ]
            refine wpAnyH_take (i := 17) (v := undef) (gatL (gatS (gatS (gatS (gatS (gatS (gatS (gatS (gatS (gatS (gatS (gatS (gatS (gatS (gatS (gatS (gatS (gatS gatZ)))))))))))))))))) (by kernel_rfl) (by kernel_rfl) (by kernel_rfl) (fun _ _ _ h => h) (Or.inr ⟨by rfl, rfl⟩) (by assumption) ?_
            try simp only [Act.put, List.setIfInBounds_toArray, List.set_cons_zero, List.set_cons_succ]
            refine wpAnyH_take (i := 18) (v := undef) (gatL (gatS (gatS (gatS (gatS (gatS (gatS (gatS (gatS (gatS (gatS (gatS (gatS (gatS (gatS (gatS (gatS (gatS (gatS gatZ))))))))))))))))))) (by kernel_rfl) (by kernel_rfl) (by kernel_rfl) (fun _ _ _ h => h) (Or.inr ⟨by rfl, rfl⟩) (by assumption) ?_
            try simp only [Act.put, List.setIfInBounds_toArray, List.set_cons_zero, List.set_cons_succ]
            refine wpAnyH_take (i := 19) (v := undef) (gatL (gatS (gatS (gatS (gatS (gatS (gatS (gatS (gatS (gatS (gatS (gatS (gatS (gatS (gatS (gatS (gatS (gatS (gatS (gatS gatZ)))))))))))))))))))) (by kernel_rfl) (by kernel_rfl) (by kernel_rfl) (fun _ _ _ h => h) (Or.inr ⟨by rfl, rfl⟩) (by assumption) ?_
            try simp only [Act.put, List.setIfInBounds_toArray, List.set_cons_zero, List.set_cons_succ]
            refine wpAnyH_take (i := 20) (v := ?_) (gatL (gatS (gatS (gatS (gatS (gatS (gatS (gatS (gatS (gatS (gatS (gatS (gatS (gatS (gatS (gatS (gatS (gatS (gatS (gatS (gatS gatZ))))))))))))))))))))) (by kernel_rfl) (by kernel_rfl) (by kernel_rfl) (fun _ _ _ h => h) (Or.inl ⟨by rfl, ?_⟩) (by assumption) ?_
            rotate_left
            · intro w hSw
              try dsimp only at hSw
              go_simp
              all_goals with_reducible rfl
            try simp only [Act.put, List.setIfInBounds_toArray, List.set_cons_zero, List.set_cons_succ]
            refine wpAnyH_done (by kernel_rfl) ?_ _
            go_wp2_with (fail)
            exact bodyPost_ret (v := .int .i64 30) (by simp [results, Try.results35, go_sem]; try rfl) rfl ⟨ret_c HBad.out.symm, Hbwd.out.trans (HV1.out.mono Hbwd.out.size)⟩
          case true =>
            cases B2
            case false =>
              have HBad : Hid (R = 30) := Lib.hid (by rw [HR.out]; rfl)
              go_wp2_with (fail)
              refine wp_region_held_drew (S := fun w' => (Below ((wr.alloc (.cells #[.int .i64 ef, .int .i64 et, .slice sa Q sc] 61)).drew).heap.size ((wr.alloc (.cells #[.int .i64 ef, .int .i64 et, .slice sa Q sc] 61)).drew) w' ∧ w'.cell? ⟨BN, 0, none⟩ = some (.int .i64 xn) ∧ w'.cell? ⟨BN, 1, none⟩ = some (.int .i64 xs) ∧ w'.cell? ⟨BN, 2, none⟩ = some (.slice ea E ec) ∧ w'.cell? ⟨BN, 3, none⟩ = some (.slice (some ⟨b, off, none⟩) G gc) ∧ w'.cell? ⟨wr.heap.size, 0, none⟩ = some (.int .i64 ef) ∧ w'.cell? ⟨wr.heap.size, 1, none⟩ = some (.int .i64 et) ∧ w'.cell? ⟨wr.heap.size, 2, none⟩ = some (.slice sa Q sc))) (by kernel_rfl) ?_ (fun hHeld => ?_)
              · exact HSt.out _ (Below.refl _ _)
              refine wpAnyH_take (i := 0) (v := ?_) (gatL gatZ) (by kernel_rfl) (by kernel_rfl) (by kernel_rfl) (fun _ _ _ h => h) (Or.inl ⟨by rfl, ?_⟩) (by assumption) ?_
              rotate_left
              · intro w hSw
                try dsimp only at hSw
                go_simp
                all_goals with_reducible rfl
              try simp only [Act.put, List.setIfInBounds_toArray, List.set_cons_zero, List.set_cons_succ]
              refine wpAnyH_take (i := 1) (v := ?_) (gatL (gatS gatZ)) (by kernel_rfl) (by kernel_rfl) (by kernel_rfl) (fun _ _ _ h => h) (Or.inl ⟨by rfl, ?_⟩) (by assumption) ?_
              rotate_left
              · intro w hSw
                try dsimp only at hSw
                go_simp
                all_goals with_reducible rfl
              try simp only [Act.put, List.setIfInBounds_toArray, List.set_cons_zero, List.set_cons_succ]
              refine wpAnyH_take (i := 2) (v := ?_) (gatL (gatS (gatS gatZ))) (by kernel_rfl) (by kernel_rfl) (by kernel_rfl) (fun _ _ _ h => h) (Or.inl ⟨by rfl, ?_⟩) (by assumption) ?_
              rotate_left
              · intro w hSw
                try dsimp only at hSw
                go_simp
                all_goals with_reducible rfl
              try simp only [Act.put, List.setIfInBounds_toArray, List.set_cons_zero, List.set_cons_succ]
              refine wpAnyH_ready (rs := [3]) (by kernel_rfl) (by simp) ?_
              refine AllReadyH.cons (gatL (gatS (gatS (gatS gatZ)))) (fun K hK => ?_) AllReadyH.nil
              go_simp
              go_at_call 57
              (with_reducible refine (Hq1.out _ hHeld.1).mono ?_)
              rintro e V1 ⟨rfl, hV1⟩
              have HV1 := Lib.hid hV1
              clear hV1
              dsimp only
              refine hK.out _ _ ?_ (fun hHeld => ?_)
              · exact HSt.out _ HV1.out
              clear hK K
              try simp only [Act.put, List.setIfInBounds_toArray, List.set_cons_zero, List.set_cons_succ]
              refine wpAnyH_take (i := 4) (v := ?_) (gatL (gatS (gatS (gatS (gatS gatZ))))) (by kernel_rfl) (by kernel_rfl) (by kernel_rfl) (fun _ _ _ h => h) (Or.inl ⟨by rfl, ?_⟩) (by assumption) ?_
              rotate_left
              · intro w hSw
                try dsimp only at hSw
                go_simp
                all_goals with_reducible rfl
              try simp only [Act.put, List.setIfInBounds_toArray, List.set_cons_zero, List.set_cons_succ]
              refine wpAnyH_take (i := 5) (v := ?_) (gatL (gatS (gatS (gatS (gatS (gatS gatZ)))))) (by kernel_rfl) (by kernel_rfl) (by kernel_rfl) (fun _ _ _ h => h) (Or.inl ⟨by rfl, ?_⟩) (by assumption) ?_
              rotate_left
              · intro w hSw
                try dsimp only at hSw
                go_simp
                all_goals with_reducible rfl
              try simp only [Act.put, List.setIfInBounds_toArray, List.set_cons_zero, List.set_cons_succ]
              refine wpAnyH_take (i := 6) (v := ?_) (gatL (gatS (gatS (gatS (gatS (gatS (gatS gatZ))))))) (by kernel_rfl) (by kernel_rfl) (by kernel_rfl) (fun _ _ _ h => h) (Or.inl ⟨by rfl, ?_⟩) (by assumption) ?_
              rotate_left
              · intro w hSw
                try dsimp only at hSw
                go_simp
                all_goals with_reducible rfl
              try simp only [Act.put, List.setIfInBounds_toArray, List.set_cons_zero, List.set_cons_succ]
              refine wpAnyH_take (i := 7) (v := ?_) (gatL (gatS (gatS (gatS (gatS (gatS (gatS (gatS gatZ)))))))) (by kernel_rfl) (by kernel_rfl) (by kernel_rfl) (fun _ _ _ h => h) (Or.inl ⟨by rfl, ?_⟩) (by assumption) ?_
              rotate_left
              · intro w hSw
                try dsimp only at hSw
                go_simp
                all_goals with_reducible rfl
              try simp only [Act.put, List.setIfInBounds_toArray, List.set_cons_zero, List.set_cons_succ]
              refine wpAnyH_take (i := 8) (v := ?_) (gatL (gatS (gatS (gatS (gatS (gatS (gatS (gatS (gatS gatZ))))))))) (by kernel_rfl) (by kernel_rfl) (by kernel_rfl) (fun _ _ _ h => h) (Or.inl ⟨by rfl, ?_⟩) (by assumption) ?_
              rotate_left
              · intro w hSw
                try dsimp only at hSw
                go_simp
                all_goals with_reducible rfl
              try simp only [Act.put, List.setIfInBounds_toArray, List.set_cons_zero, List.set_cons_succ]
              refine wpAnyH_ready (rs := [9]) (by kernel_rfl) (by simp) ?_
              refine AllReadyH.cons (gatL (gatS (gatS (gatS (gatS (gatS (gatS (gatS (gatS (gatS gatZ)))))))))) (fun K hK => ?_) AllReadyH.nil
              go_simp
              go_at_call 57
              (with_reducible refine (Hq2.out _ hHeld.1).mono ?_)
              rintro e V2 ⟨rfl, hV2⟩
              have HV2 := Lib.hid hV2
              clear hV2
              dsimp only
              refine hK.out _ _ ?_ (fun hHeld => ?_)
              · exact HSt.out _ HV2.out
              clear hK K
              try simp only [Act.put, List.setIfInBounds_toArray, List.set_cons_zero, List.set_cons_succ]
              refine wpAnyH_take (i := 10) (v := ?_) (gatL (gatS (gatS (gatS (gatS (gatS (gatS (gatS (gatS (gatS (gatS gatZ))))))))))) (by kernel_rfl) (by kernel_rfl) (by kernel_rfl) (fun _ _ _ h => h) (Or.inl ⟨by rfl, ?_⟩) (by assumption) ?_
              rotate_left
              · intro w hSw
                try dsimp only at hSw
                go_simp
                all_goals with_reducible rfl
              try simp only [Act.put, List.setIfInBounds_toArray, List.set_cons_zero, List.set_cons_succ]
              refine wpAnyH_take (i := 11) (v := ?_) (gatL (gatS (gatS (gatS (gatS (gatS (gatS (gatS (gatS (gatS (gatS (gatS gatZ)))))))))))) (by kernel_rfl) (by kernel_rfl) (by kernel_rfl) (fun _ _ _ h => h) (Or.inl ⟨by rfl, ?_⟩) (by assumption) ?_
              rotate_left
              · intro w hSw
                try dsimp only at hSw
                go_simp
                all_goals with_reducible rfl
              try simp only [Act.put, List.setIfInBounds_toArray, List.set_cons_zero, List.set_cons_succ]
              refine wpAnyH_take (i := 12) (v := ?_) (gatL (gatS (gatS (gatS (gatS (gatS (gatS (gatS (gatS (gatS (gatS (gatS (gatS gatZ))))))))))))) (by kernel_rfl) (by kernel_rfl) (by kernel_rfl) (fun _ _ _ h => h) (Or.inl ⟨by rfl, ?_⟩) (by assumption) ?_
              rotate_left
              · intro w hSw
                try dsimp only at hSw
                go_simp
                all_goals with_reducible rfl
              try simp only [Act.put, List.setIfInBounds_toArray, List.set_cons_zero, List.set_cons_succ]
              refine wpAnyH_take (i := 13) (v := undef) (gatL (gatS (gatS (gatS (gatS (gatS (gatS (gatS (gatS (gatS (gatS (gatS (gatS (gatS gatZ)))))))))))))) (by kernel_rfl) (by kernel_rfl) (by kernel_rfl) (fun _ _ _ h => h) (Or.inr ⟨by rfl, rfl⟩) (by assumption) ?_
              try simp only [Act.put, List.setIfInBounds_toArray, List.set_cons_zero, List.set_cons_succ]
              refine wpAnyH_take (i := 14) (v := undef) (gatL (gatS (gatS (gatS (gatS (gatS (gatS (gatS (gatS (gatS (gatS (gatS (gatS (gatS (gatS gatZ))))))))))))))) (by kernel_rfl) (by kernel_rfl) (by kernel_rfl) (fun _ _ _ h => h) (Or.inr ⟨by rfl, rfl⟩) (by assumption) ?_
              try simp only [Act.put, List.setIfInBounds_toArray, List.set_cons_zero, List.set_cons_succ]
              refine wpAnyH_take (i := 15) (v := undef) (gatL (gatS (gatS (gatS (gatS (gatS (gatS (gatS (gatS (gatS (gatS (gatS (gatS (gatS (gatS (gatS gatZ)))))))))))))))) (by kernel_rfl) (by kernel_rfl) (by kernel_rfl) (fun _ _ _ h => h) (Or.inr ⟨by rfl, rfl⟩) (by assumption) ?_
              try simp only [Act.put, List.setIfInBounds_toArray, List.set_cons_zero, List.set_cons_succ]
              refine wpAnyH_take (i := 16) (v := undef) (gatL (gatS (gatS (gatS (gatS (gatS (gatS (gatS (gatS (gatS (gatS (gatS (gatS (gatS (gatS (gatS (gatS gatZ))))))))))))))))) (by kernel_rfl) (by kernel_rfl) (by kernel_rfl) (fun _ _ _ h => h) (Or.inr ⟨by rfl, rfl⟩) (by assumption) ?_
              try simp only [Act.put, List.setIfInBounds_toArray, List.set_cons_zero, List.set_cons_succ]
              refine wpAnyH_take (i := 17) (v := undef) (gatL (gatS (gatS (gatS (gatS (gatS (gatS (gatS (gatS (gatS (gatS (gatS (gatS (gatS (gatS (gatS (gatS (gatS gatZ)))))))))))))))))) (by kernel_rfl) (by kernel_rfl) (by kernel_rfl) (fun _ _ _ h => h) (Or.inr ⟨by rfl, rfl⟩) (by assumption) ?_
              try simp only [Act.put, List.setIfInBounds_toArray, List.set_cons_zero, List.set_cons_succ]
              refine wpAnyH_take (i := 18) (v := undef) (gatL (gatS (gatS (gatS (gatS (gatS (gatS (gatS (gatS (gatS (gatS (gatS (gatS (gatS (gatS (gatS (gatS (gatS (gatS gatZ))))))))))))))))))) (by kernel_rfl) (by kernel_rfl) (by kernel_rfl) (fun _ _ _ h => h) (Or.inr ⟨by rfl, rfl⟩) (by assumption) ?_
              try simp only [Act.put, List.setIfInBounds_toArray, List.set_cons_zero, List.set_cons_succ]
              refine wpAnyH_take (i := 19) (v := undef) (gatL (gatS (gatS (gatS (gatS (gatS (gatS (gatS (gatS (gatS (gatS (gatS (gatS (gatS (gatS (gatS (gatS (gatS (gatS (gatS gatZ)))))))))))))))))))) (by kernel_rfl) (by kernel_rfl) (by kernel_rfl) (fun _ _ _ h => h) (Or.inr ⟨by rfl, rfl⟩) (by assumption) ?_
              try simp only [Act.put, List.setIfInBounds_toArray, List.set_cons_zero, List.set_cons_succ]
              refine wpAnyH_take (i := 20) (v := ?_) (gatL (gatS (gatS (gatS (gatS (gatS (gatS (gatS (gatS (gatS (gatS (gatS (gatS (gatS (gatS (gatS (gatS (gatS (gatS (gatS (gatS gatZ))))))))))))))))))))) (by kernel_rfl) (by kernel_rfl) (by kernel_rfl) (fun _ _ _ h => h) (Or.inl ⟨by rfl, ?_⟩) (by assumption) ?_
              rotate_left
              · intro w hSw
                try dsimp only at hSw
                go_simp
                all_goals with_reducible rfl
              try simp only [Act.put, List.setIfInBounds_toArray, List.set_cons_zero, List.set_cons_succ]
              refine wpAnyH_done (by kernel_rfl) ?_ _
              go_wp2_with (fail)
              exact bodyPost_ret (v := .int .i64 30) (by simp [results, Try.results35, go_sem]; try rfl) rfl ⟨ret_c HBad.out.symm, Hbwd.out.trans (HV2.out.mono Hbwd.out.size)⟩
            case true =>
              cases B3
              case false =>
                have HBad : Hid (R = 30) := Lib.hid (by rw [HR.out]; rfl)
                go_wp2_with (fail)
                refine wp_region_held_drew (S := fun w' => (Below ((wr.alloc (.cells #[.int .i64 ef, .int .i64 et, .slice sa Q sc] 61)).drew).heap.size ((wr.alloc (.cells #[.int .i64 ef, .int .i64 et, .slice sa Q sc] 61)).drew) w' ∧ w'.cell? ⟨BN, 0, none⟩ = some (.int .i64 xn) ∧ w'.cell? ⟨BN, 1, none⟩ = some (.int .i64 xs) ∧ w'.cell? ⟨BN, 2, none⟩ = some (.slice ea E ec) ∧ w'.cell? ⟨BN, 3, none⟩ = some (.slice (some ⟨b, off, none⟩) G gc) ∧ w'.cell? ⟨wr.heap.size, 0, none⟩ = some (.int .i64 ef) ∧ w'.cell? ⟨wr.heap.size, 1, none⟩ = some (.int .i64 et) ∧ w'.cell? ⟨wr.heap.size, 2, none⟩ = some (.slice sa Q sc))) (by kernel_rfl) ?_ (fun hHeld => ?_)
                · exact HSt.out _ (Below.refl _ _)
                refine wpAnyH_take (i := 0) (v := ?_) (gatL gatZ) (by kernel_rfl) (by kernel_rfl) (by kernel_rfl) (fun _ _ _ h => h) (Or.inl ⟨by rfl, ?_⟩) (by assumption) ?_
                rotate_left
                · intro w hSw
                  try dsimp only at hSw
                  go_simp
                  all_goals with_reducible rfl
                try simp only [Act.put, List.setIfInBounds_toArray, List.set_cons_zero, List.set_cons_succ]
                refine wpAnyH_take (i := 1) (v := ?_) (gatL (gatS gatZ)) (by kernel_rfl) (by kernel_rfl) (by kernel_rfl) (fun _ _ _ h => h) (Or.inl ⟨by rfl, ?_⟩) (by assumption) ?_
                rotate_left
                · intro w hSw
                  try dsimp only at hSw
                  go_simp
                  all_goals with_reducible rfl
                try simp only [Act.put, List.setIfInBounds_toArray, List.set_cons_zero, List.set_cons_succ]
                refine wpAnyH_take (i := 2) (v := ?_) (gatL (gatS (gatS gatZ))) (by kernel_rfl) (by kernel_rfl) (by kernel_rfl) (fun _ _ _ h => h) (Or.inl ⟨by rfl, ?_⟩) (by assumption) ?_
                rotate_left
                · intro w hSw
                  try dsimp only at hSw
                  go_simp
                  all_goals with_reducible rfl
                try simp only [Act.put, List.setIfInBounds_toArray, List.set_cons_zero, List.set_cons_succ]
                refine wpAnyH_ready (rs := [3]) (by kernel_rfl) (by simp) ?_
                refine AllReadyH.cons (gatL (gatS (gatS (gatS gatZ)))) (fun K hK => ?_) AllReadyH.nil
                go_simp
                go_at_call 57
                (with_reducible refine (Hq1.out _ hHeld.1).mono ?_)
                rintro e V1 ⟨rfl, hV1⟩
                have HV1 := Lib.hid hV1
                clear hV1
                dsimp only
                refine hK.out _ _ ?_ (fun hHeld => ?_)
                · exact HSt.out _ HV1.out
                clear hK K
                try simp only [Act.put, List.setIfInBounds_toArray, List.set_cons_zero, List.set_cons_succ]
                refine wpAnyH_take (i := 4) (v := ?_) (gatL (gatS (gatS (gatS (gatS gatZ))))) (by kernel_rfl) (by kernel_rfl) (by kernel_rfl) (fun _ _ _ h => h) (Or.inl ⟨by rfl, ?_⟩) (by assumption) ?_
                rotate_left
                · intro w hSw
                  try dsimp only at hSw
                  go_simp
                  all_goals with_reducible rfl
                try simp only [Act.put, List.setIfInBounds_toArray, List.set_cons_zero, List.set_cons_succ]
                refine wpAnyH_take (i := 5) (v := ?_) (gatL (gatS (gatS (gatS (gatS (gatS gatZ)))))) (by kernel_rfl) (by kernel_rfl) (by kernel_rfl) (fun _ _ _ h => h) (Or.inl ⟨by rfl, ?_⟩) (by assumption) ?_
                rotate_left
                · intro w hSw
                  try dsimp only at hSw
                  go_simp
                  all_goals with_reducible rfl
                try simp only [Act.put, List.setIfInBounds_toArray, List.set_cons_zero, List.set_cons_succ]
                refine wpAnyH_take (i := 6) (v := ?_) (gatL (gatS (gatS (gatS (gatS (gatS (gatS gatZ))))))) (by kernel_rfl) (by kernel_rfl) (by kernel_rfl) (fun _ _ _ h => h) (Or.inl ⟨by rfl, ?_⟩) (by assumption) ?_
                rotate_left
                · intro w hSw
                  try dsimp only at hSw
                  go_simp
                  all_goals with_reducible rfl
                try simp only [Act.put, List.setIfInBounds_toArray, List.set_cons_zero, List.set_cons_succ]
                refine wpAnyH_take (i := 7) (v := ?_) (gatL (gatS (gatS (gatS (gatS (gatS (gatS (gatS gatZ)))))))) (by kernel_rfl) (by kernel_rfl) (by kernel_rfl) (fun _ _ _ h => h) (Or.inl ⟨by rfl, ?_⟩) (by assumption) ?_
                rotate_left
                · intro w hSw
                  try dsimp only at hSw
                  go_simp
                  all_goals with_reducible rfl
                try simp only [Act.put, List.setIfInBounds_toArray, List.set_cons_zero, List.set_cons_succ]
                refine wpAnyH_take (i := 8) (v := ?_) (gatL (gatS (gatS (gatS (gatS (gatS (gatS (gatS (gatS gatZ))))))))) (by kernel_rfl) (by kernel_rfl) (by kernel_rfl) (fun _ _ _ h => h) (Or.inl ⟨by rfl, ?_⟩) (by assumption) ?_
                rotate_left
                · intro w hSw
                  try dsimp only at hSw
                  go_simp
                  all_goals with_reducible rfl
                try simp only [Act.put, List.setIfInBounds_toArray, List.set_cons_zero, List.set_cons_succ]
                refine wpAnyH_ready (rs := [9]) (by kernel_rfl) (by simp) ?_
                refine AllReadyH.cons (gatL (gatS (gatS (gatS (gatS (gatS (gatS (gatS (gatS (gatS gatZ)))))))))) (fun K hK => ?_) AllReadyH.nil
                go_simp
                go_at_call 57
                (with_reducible refine (Hq2.out _ hHeld.1).mono ?_)
                rintro e V2 ⟨rfl, hV2⟩
                have HV2 := Lib.hid hV2
                clear hV2
                dsimp only
                refine hK.out _ _ ?_ (fun hHeld => ?_)
                · exact HSt.out _ HV2.out
                clear hK K
                try simp only [Act.put, List.setIfInBounds_toArray, List.set_cons_zero, List.set_cons_succ]
                refine wpAnyH_take (i := 10) (v := ?_) (gatL (gatS (gatS (gatS (gatS (gatS (gatS (gatS (gatS (gatS (gatS gatZ))))))))))) (by kernel_rfl) (by kernel_rfl) (by kernel_rfl) (fun _ _ _ h => h) (Or.inl ⟨by rfl, ?_⟩) (by assumption) ?_
                rotate_left
                · intro w hSw
                  try dsimp only at hSw
                  go_simp
                  all_goals with_reducible rfl
                try simp only [Act.put, List.setIfInBounds_toArray, List.set_cons_zero, List.set_cons_succ]
                refine wpAnyH_take (i := 11) (v := ?_) (gatL (gatS (gatS (gatS (gatS (gatS (gatS (gatS (gatS (gatS (gatS (gatS gatZ)))))))))))) (by kernel_rfl) (by kernel_rfl) (by kernel_rfl) (fun _ _ _ h => h) (Or.inl ⟨by rfl, ?_⟩) (by assumption) ?_
                rotate_left
                · intro w hSw
                  try dsimp only at hSw
                  go_simp
                  all_goals with_reducible rfl
                try simp only [Act.put, List.setIfInBounds_toArray, List.set_cons_zero, List.set_cons_succ]
                refine wpAnyH_take (i := 12) (v := ?_) (gatL (gatS (gatS (gatS (gatS (gatS (gatS (gatS (gatS (gatS (gatS (gatS (gatS gatZ))))))))))))) (by kernel_rfl) (by kernel_rfl) (by kernel_rfl) (fun _ _ _ h => h) (Or.inl ⟨by rfl, ?_⟩) (by assumption) ?_
                rotate_left
                · intro w hSw
                  try dsimp only at hSw
                  go_simp
                  all_goals with_reducible rfl
                try simp only [Act.put, List.setIfInBounds_toArray, List.set_cons_zero, List.set_cons_succ]
                refine wpAnyH_take (i := 13) (v := ?_) (gatL (gatS (gatS (gatS (gatS (gatS (gatS (gatS (gatS (gatS (gatS (gatS (gatS (gatS gatZ)))))))))))))) (by kernel_rfl) (by kernel_rfl) (by kernel_rfl) (fun _ _ _ h => h) (Or.inl ⟨by rfl, ?_⟩) (by assumption) ?_
                rotate_left
                · intro w hSw
                  try dsimp only at hSw
                  go_simp
                  all_goals with_reducible rfl
                try simp only [Act.put, List.setIfInBounds_toArray, List.set_cons_zero, List.set_cons_succ]
                refine wpAnyH_take (i := 14) (v := ?_) (gatL (gatS (gatS (gatS (gatS (gatS (gatS (gatS (gatS (gatS (gatS (gatS (gatS (gatS (gatS gatZ))))))))))))))) (by kernel_rfl) (by kernel_rfl) (by kernel_rfl) (fun _ _ _ h => h) (Or.inl ⟨by rfl, ?_⟩) (by assumption) ?_
                rotate_left
                · intro w hSw
                  try dsimp only at hSw
                  go_simp
                  all_goals with_reducible rfl
                try simp only [Act.put, List.setIfInBounds_toArray, List.set_cons_zero, List.set_cons_succ]
                refine wpAnyH_take (i := 16) (v := ?_) (gatL (gatS (gatS (gatS (gatS (gatS (gatS (gatS (gatS (gatS (gatS (gatS (gatS (gatS (gatS (gatS (gatS gatZ))))))))))))))))) (by kernel_rfl) (by kernel_rfl) (by kernel_rfl) (fun _ _ _ h => h) (Or.inl ⟨by rfl, ?_⟩) (by assumption) ?_
                rotate_left
                · intro w hSw
                  try dsimp only at hSw
                  go_simp
                  all_goals with_reducible rfl
                try simp only [Act.put, List.setIfInBounds_toArray, List.set_cons_zero, List.set_cons_succ]
                refine wpAnyH_take (i := 17) (v := ?_) (gatL (gatS (gatS (gatS (gatS (gatS (gatS (gatS (gatS (gatS (gatS (gatS (gatS (gatS (gatS (gatS (gatS (gatS gatZ)))))))))))))))))) (by kernel_rfl) (by kernel_rfl) (by kernel_rfl) (fun _ _ _ h => h) (Or.inl ⟨by rfl, ?_⟩) (by assumption) ?_
                rotate_left
                · intro w hSw
                  try dsimp only at hSw
                  go_simp
                  all_goals with_reducible rfl
                try simp only [Act.put, List.setIfInBounds_toArray, List.set_cons_zero, List.set_cons_succ]
                refine wpAnyH_ready (rs := [15]) (by kernel_rfl) (by simp) ?_
                refine AllReadyH.cons (gatL (gatS (gatS (gatS (gatS (gatS (gatS (gatS (gatS (gatS (gatS (gatS (gatS (gatS (gatS (gatS gatZ)))))))))))))))) (fun K hK => ?_) AllReadyH.nil
                go_simp
                go_at_call 59
                (with_reducible refine (HSp.out _ hHeld.1).mono ?_)
                rintro e V3 ⟨⟨a5, c5, rfl, hs5⟩, hV3⟩
                have HV3 := Lib.hid hV3
                have HS5 := Lib.hid hs5
                clear hV3 hs5
                dsimp only
                refine hK.out _ _ ?_ (fun hHeld => ?_)
                · exact HSt.out _ HV3.out
                clear hK K
                try simp only [Act.put, List.setIfInBounds_toArray, List.set_cons_zero, List.set_cons_succ]
                refine wpAnyH_ready (rs := [18]) (by kernel_rfl) (by simp) ?_
                refine AllReadyH.cons (gatL (gatS (gatS (gatS (gatS (gatS (gatS (gatS (gatS (gatS (gatS (gatS (gatS (gatS (gatS (gatS (gatS (gatS (gatS gatZ))))))))))))))))))) (fun K hK => ?_) AllReadyH.nil
                go_simp
                go_at_call 58
                (with_reducible refine (HSm.out _ a5 c5 hHeld.1 HS5.out).mono ?_)
                rintro e V4 ⟨rfl, hV4⟩
                have HV4 := Lib.hid hV4
                clear hV4
                dsimp only
                refine hK.out _ _ ?_ (fun hHeld => ?_)
                · exact HSt.out _ HV4.out
                clear hK K
                try simp only [Act.put, List.setIfInBounds_toArray, List.set_cons_zero, List.set_cons_succ]
                refine wpAnyH_take (i := 19) (v := ?_) (gatL (gatS (gatS (gatS (gatS (gatS (gatS (gatS (gatS (gatS (gatS (gatS (gatS (gatS (gatS (gatS (gatS (gatS (gatS (gatS gatZ)))))))))))))))))))) (by kernel_rfl) (by kernel_rfl) (by kernel_rfl) (fun _ _ _ h => h) (Or.inl ⟨by rfl, ?_⟩) (by assumption) ?_
                rotate_left
                · intro w hSw
                  try dsimp only at hSw
                  go_simp
                  all_goals with_reducible rfl
                try simp only [Act.put, List.setIfInBounds_toArray, List.set_cons_zero, List.set_cons_succ]
                refine wpAnyH_take (i := 20) (v := ?_) (gatL (gatS (gatS (gatS (gatS (gatS (gatS (gatS (gatS (gatS (gatS (gatS (gatS (gatS (gatS (gatS (gatS (gatS (gatS (gatS (gatS gatZ))))))))))))))))))))) (by kernel_rfl) (by kernel_rfl) (by kernel_rfl) (fun _ _ _ h => h) (Or.inl ⟨by rfl, ?_⟩) (by assumption) ?_
                rotate_left
                · intro w hSw
                  try dsimp only at hSw
                  go_simp
                  all_goals with_reducible rfl
                try simp only [Act.put, List.setIfInBounds_toArray, List.set_cons_zero, List.set_cons_succ]
                refine wpAnyH_done (by kernel_rfl) ?_ _
                go_wp2_with (fail)
                exact bodyPost_ret (v := .int .i64 30) (by simp [results, Try.results35, go_sem]; try rfl) rfl ⟨ret_c HBad.out.symm, Hbwd.out.trans (HV4.out.mono Hbwd.out.size)⟩
              case true =>
                have HNx : Hid (x.es.all (okEg x) = (x.es.drop (k + 1)).all (okEg x)) := Lib.hid (by rw [HNx0.out, Bool.true_and, Bool.true_and, Bool.true_and])
                go_wp2_with (fail)
                refine wp_region_held_drew (S := fun w' => (Below ((wr.alloc (.cells #[.int .i64 ef, .int .i64 et, .slice sa Q sc] 61)).drew).heap.size ((wr.alloc (.cells #[.int .i64 ef, .int .i64 et, .slice sa Q sc] 61)).drew) w' ∧ w'.cell? ⟨BN, 0, none⟩ = some (.int .i64 xn) ∧ w'.cell? ⟨BN, 1, none⟩ = some (.int .i64 xs) ∧ w'.cell? ⟨BN, 2, none⟩ = some (.slice ea E ec) ∧ w'.cell? ⟨BN, 3, none⟩ = some (.slice (some ⟨b, off, none⟩) G gc) ∧ w'.cell? ⟨wr.heap.size, 0, none⟩ = some (.int .i64 ef) ∧ w'.cell? ⟨wr.heap.size, 1, none⟩ = some (.int .i64 et) ∧ w'.cell? ⟨wr.heap.size, 2, none⟩ = some (.slice sa Q sc))) (by kernel_rfl) ?_ (fun hHeld => ?_)
                · exact HSt.out _ (Below.refl _ _)
                refine wpAnyH_take (i := 0) (v := ?_) (gatL gatZ) (by kernel_rfl) (by kernel_rfl) (by kernel_rfl) (fun _ _ _ h => h) (Or.inl ⟨by rfl, ?_⟩) (by assumption) ?_
                rotate_left
                · intro w hSw
                  try dsimp only at hSw
                  go_simp
                  all_goals with_reducible rfl
                try simp only [Act.put, List.setIfInBounds_toArray, List.set_cons_zero, List.set_cons_succ]
                refine wpAnyH_take (i := 1) (v := ?_) (gatL (gatS gatZ)) (by kernel_rfl) (by kernel_rfl) (by kernel_rfl) (fun _ _ _ h => h) (Or.inl ⟨by rfl, ?_⟩) (by assumption) ?_
                rotate_left
                · intro w hSw
                  try dsimp only at hSw
                  go_simp
                  all_goals with_reducible rfl
                try simp only [Act.put, List.setIfInBounds_toArray, List.set_cons_zero, List.set_cons_succ]
                refine wpAnyH_take (i := 2) (v := ?_) (gatL (gatS (gatS gatZ))) (by kernel_rfl) (by kernel_rfl) (by kernel_rfl) (fun _ _ _ h => h) (Or.inl ⟨by rfl, ?_⟩) (by assumption) ?_
                rotate_left
                · intro w hSw
                  try dsimp only at hSw
                  go_simp
                  all_goals with_reducible rfl
                try simp only [Act.put, List.setIfInBounds_toArray, List.set_cons_zero, List.set_cons_succ]
                refine wpAnyH_ready (rs := [3]) (by kernel_rfl) (by simp) ?_
                refine AllReadyH.cons (gatL (gatS (gatS (gatS gatZ)))) (fun K hK => ?_) AllReadyH.nil
                go_simp
                go_at_call 57
                (with_reducible refine (Hq1.out _ hHeld.1).mono ?_)
                rintro e V1 ⟨rfl, hV1⟩
                have HV1 := Lib.hid hV1
                clear hV1
                dsimp only
                refine hK.out _ _ ?_ (fun hHeld => ?_)
                · exact HSt.out _ HV1.out
                clear hK K
                try simp only [Act.put, List.setIfInBounds_toArray, List.set_cons_zero, List.set_cons_succ]
                refine wpAnyH_take (i := 4) (v := ?_) (gatL (gatS (gatS (gatS (gatS gatZ))))) (by kernel_rfl) (by kernel_rfl) (by kernel_rfl) (fun _ _ _ h => h) (Or.inl ⟨by rfl, ?_⟩) (by assumption) ?_
                rotate_left
                · intro w hSw
                  try dsimp only at hSw
                  go_simp
                  all_goals with_reducible rfl
                try simp only [Act.put, List.setIfInBounds_toArray, List.set_cons_zero, List.set_cons_succ]
                refine wpAnyH_take (i := 5) (v := ?_) (gatL (gatS (gatS (gatS (gatS (gatS gatZ)))))) (by kernel_rfl) (by kernel_rfl) (by kernel_rfl) (fun _ _ _ h => h) (Or.inl ⟨by rfl, ?_⟩) (by assumption) ?_
                rotate_left
                · intro w hSw
                  try dsimp only at hSw
                  go_simp
                  all_goals with_reducible rfl
                try simp only [Act.put, List.setIfInBounds_toArray, List.set_cons_zero, List.set_cons_succ]
                refine wpAnyH_take (i := 6) (v := ?_) (gatL (gatS (gatS (gatS (gatS (gatS (gatS gatZ))))))) (by kernel_rfl) (by kernel_rfl) (by kernel_rfl) (fun _ _ _ h => h) (Or.inl ⟨by rfl, ?_⟩) (by assumption) ?_
                rotate_left
                · intro w hSw
                  try dsimp only at hSw
                  go_simp
                  all_goals with_reducible rfl
                try simp only [Act.put, List.setIfInBounds_toArray, List.set_cons_zero, List.set_cons_succ]
                refine wpAnyH_take (i := 7) (v := ?_) (gatL (gatS (gatS (gatS (gatS (gatS (gatS (gatS gatZ)))))))) (by kernel_rfl) (by kernel_rfl) (by kernel_rfl) (fun _ _ _ h => h) (Or.inl ⟨by rfl, ?_⟩) (by assumption) ?_
                rotate_left
                · intro w hSw
                  try dsimp only at hSw
                  go_simp
                  all_goals with_reducible rfl
                try simp only [Act.put, List.setIfInBounds_toArray, List.set_cons_zero, List.set_cons_succ]
                refine wpAnyH_take (i := 8) (v := ?_) (gatL (gatS (gatS (gatS (gatS (gatS (gatS (gatS (gatS gatZ))))))))) (by kernel_rfl) (by kernel_rfl) (by kernel_rfl) (fun _ _ _ h => h) (Or.inl ⟨by rfl, ?_⟩) (by assumption) ?_
                rotate_left
                · intro w hSw
                  try dsimp only at hSw
                  go_simp
                  all_goals with_reducible rfl
                try simp only [Act.put, List.setIfInBounds_toArray, List.set_cons_zero, List.set_cons_succ]
                refine wpAnyH_ready (rs := [9]) (by kernel_rfl) (by simp) ?_
                refine AllReadyH.cons (gatL (gatS (gatS (gatS (gatS (gatS (gatS (gatS (gatS (gatS gatZ)))))))))) (fun K hK => ?_) AllReadyH.nil
                go_simp
                go_at_call 57
                (with_reducible refine (Hq2.out _ hHeld.1).mono ?_)
                rintro e V2 ⟨rfl, hV2⟩
                have HV2 := Lib.hid hV2
                clear hV2
                dsimp only
                refine hK.out _ _ ?_ (fun hHeld => ?_)
                · exact HSt.out _ HV2.out
                clear hK K
                try simp only [Act.put, List.setIfInBounds_toArray, List.set_cons_zero, List.set_cons_succ]
                refine wpAnyH_take (i := 10) (v := ?_) (gatL (gatS (gatS (gatS (gatS (gatS (gatS (gatS (gatS (gatS (gatS gatZ))))))))))) (by kernel_rfl) (by kernel_rfl) (by kernel_rfl) (fun _ _ _ h => h) (Or.inl ⟨by rfl, ?_⟩) (by assumption) ?_
                rotate_left
                · intro w hSw
                  try dsimp only at hSw
                  go_simp
                  all_goals with_reducible rfl
                try simp only [Act.put, List.setIfInBounds_toArray, List.set_cons_zero, List.set_cons_succ]
                refine wpAnyH_take (i := 11) (v := ?_) (gatL (gatS (gatS (gatS (gatS (gatS (gatS (gatS (gatS (gatS (gatS (gatS gatZ)))))))))))) (by kernel_rfl) (by kernel_rfl) (by kernel_rfl) (fun _ _ _ h => h) (Or.inl ⟨by rfl, ?_⟩) (by assumption) ?_
                rotate_left
                · intro w hSw
                  try dsimp only at hSw
                  go_simp
                  all_goals with_reducible rfl
                try simp only [Act.put, List.setIfInBounds_toArray, List.set_cons_zero, List.set_cons_succ]
                refine wpAnyH_take (i := 12) (v := ?_) (gatL (gatS (gatS (gatS (gatS (gatS (gatS (gatS (gatS (gatS (gatS (gatS (gatS gatZ))))))))))))) (by kernel_rfl) (by kernel_rfl) (by kernel_rfl) (fun _ _ _ h => h) (Or.inl ⟨by rfl, ?_⟩) (by assumption) ?_
                rotate_left
                · intro w hSw
                  try dsimp only at hSw
                  go_simp
                  all_goals with_reducible rfl
                try simp only [Act.put, List.setIfInBounds_toArray, List.set_cons_zero, List.set_cons_succ]
                refine wpAnyH_take (i := 13) (v := ?_) (gatL (gatS (gatS (gatS (gatS (gatS (gatS (gatS (gatS (gatS (gatS (gatS (gatS (gatS gatZ)))))))))))))) (by kernel_rfl) (by kernel_rfl) (by kernel_rfl) (fun _ _ _ h => h) (Or.inl ⟨by rfl, ?_⟩) (by assumption) ?_
                rotate_left
                · intro w hSw
                  try dsimp only at hSw
                  go_simp
                  all_goals with_reducible rfl
                try simp only [Act.put, List.setIfInBounds_toArray, List.set_cons_zero, List.set_cons_succ]
                refine wpAnyH_take (i := 14) (v := ?_) (gatL (gatS (gatS (gatS (gatS (gatS (gatS (gatS (gatS (gatS (gatS (gatS (gatS (gatS (gatS gatZ))))))))))))))) (by kernel_rfl) (by kernel_rfl) (by kernel_rfl) (fun _ _ _ h => h) (Or.inl ⟨by rfl, ?_⟩) (by assumption) ?_
                rotate_left
                · intro w hSw
                  try dsimp only at hSw
                  go_simp
                  all_goals with_reducible rfl
                try simp only [Act.put, List.setIfInBounds_toArray, List.set_cons_zero, List.set_cons_succ]
                refine wpAnyH_take (i := 16) (v := ?_) (gatL (gatS (gatS (gatS (gatS (gatS (gatS (gatS (gatS (gatS (gatS (gatS (gatS (gatS (gatS (gatS (gatS gatZ))))))))))))))))) (by kernel_rfl) (by kernel_rfl) (by kernel_rfl) (fun _ _ _ h => h) (Or.inl ⟨by rfl, ?_⟩) (by assumption) ?_
                rotate_left
                · intro w hSw
                  try dsimp only at hSw
                  go_simp
                  all_goals with_reducible rfl
                try simp only [Act.put, List.setIfInBounds_toArray, List.set_cons_zero, List.set_cons_succ]
                refine wpAnyH_take (i := 17) (v := ?_) (gatL (gatS (gatS (gatS (gatS (gatS (gatS (gatS (gatS (gatS (gatS (gatS (gatS (gatS (gatS (gatS (gatS (gatS gatZ)))))))))))))))))) (by kernel_rfl) (by kernel_rfl) (by kernel_rfl) (fun _ _ _ h => h) (Or.inl ⟨by rfl, ?_⟩) (by assumption) ?_
                rotate_left
                · intro w hSw
                  try dsimp only at hSw
                  go_simp
                  all_goals with_reducible rfl
                try simp only [Act.put, List.setIfInBounds_toArray, List.set_cons_zero, List.set_cons_succ]
                refine wpAnyH_ready (rs := [15]) (by kernel_rfl) (by simp) ?_
                refine AllReadyH.cons (gatL (gatS (gatS (gatS (gatS (gatS (gatS (gatS (gatS (gatS (gatS (gatS (gatS (gatS (gatS (gatS gatZ)))))))))))))))) (fun K hK => ?_) AllReadyH.nil
                go_simp
                go_at_call 59
                (with_reducible refine (HSp.out _ hHeld.1).mono ?_)
                rintro e V3 ⟨⟨a5, c5, rfl, hs5⟩, hV3⟩
                have HV3 := Lib.hid hV3
                have HS5 := Lib.hid hs5
                clear hV3 hs5
                dsimp only
                refine hK.out _ _ ?_ (fun hHeld => ?_)
                · exact HSt.out _ HV3.out
                clear hK K
                try simp only [Act.put, List.setIfInBounds_toArray, List.set_cons_zero, List.set_cons_succ]
                refine wpAnyH_ready (rs := [18]) (by kernel_rfl) (by simp) ?_
                refine AllReadyH.cons (gatL (gatS (gatS (gatS (gatS (gatS (gatS (gatS (gatS (gatS (gatS (gatS (gatS (gatS (gatS (gatS (gatS (gatS (gatS gatZ))))))))))))))))))) (fun K hK => ?_) AllReadyH.nil
                go_simp
                go_at_call 58
                (with_reducible refine (HSm.out _ a5 c5 hHeld.1 HS5.out).mono ?_)
                rintro e V4 ⟨rfl, hV4⟩
                have HV4 := Lib.hid hV4
                clear hV4
                dsimp only
                refine hK.out _ _ ?_ (fun hHeld => ?_)
                · exact HSt.out _ HV4.out
                clear hK K
                try simp only [Act.put, List.setIfInBounds_toArray, List.set_cons_zero, List.set_cons_succ]
                refine wpAnyH_take (i := 19) (v := ?_) (gatL (gatS (gatS (gatS (gatS (gatS (gatS (gatS (gatS (gatS (gatS (gatS (gatS (gatS (gatS (gatS (gatS (gatS (gatS (gatS gatZ)))))))))))))))))))) (by kernel_rfl) (by kernel_rfl) (by kernel_rfl) (fun _ _ _ h => h) (Or.inl ⟨by rfl, ?_⟩) (by assumption) ?_
                rotate_left
                · intro w hSw
                  try dsimp only at hSw
                  go_simp
                  all_goals with_reducible rfl
                try simp only [Act.put, List.setIfInBounds_toArray, List.set_cons_zero, List.set_cons_succ]
                refine wpAnyH_take (i := 20) (v := ?_) (gatL (gatS (gatS (gatS (gatS (gatS (gatS (gatS (gatS (gatS (gatS (gatS (gatS (gatS (gatS (gatS (gatS (gatS (gatS (gatS (gatS gatZ))))))))))))))))))))) (by kernel_rfl) (by kernel_rfl) (by kernel_rfl) (fun _ _ _ h => h) (Or.inl ⟨by rfl, ?_⟩) (by assumption) ?_
                rotate_left
                · intro w hSw
                  try dsimp only at hSw
                  go_simp
                  all_goals with_reducible rfl
                try simp only [Act.put, List.setIfInBounds_toArray, List.set_cons_zero, List.set_cons_succ]
                refine wpAnyH_done (by kernel_rfl) ?_ _
                go_wp2_with (fail)
                exact ⟨⟨k + 1, by omega, by simp, HNx.out, Hbwd.out.trans (HV4.out.mono Hbwd.out.size), HBk.out _ HV4.out⟩, by simp [intOf]; omega⟩
        · obtain rfl : G = k := by omega
          have hkI : ¬ (G : Int) < (G : Int) := by omega
          have HBad : Hid (R = 0) := Lib.hid (by
            rw [HR1.out, Hall.out, List.drop_eq_nil_of_le (by rw [hG.out]; exact Nat.le_refl _), if_pos]
            rfl)
          go_wp2_with (fail)
          exact bodyPost_ret (v := .int .i64 0) (by simp [results, Try.results35, go_sem]; try rfl) rfl ⟨ret_c HBad.out.symm, hbr⟩
end Go.Proofs.Ytngbfjimmdkfeaa

