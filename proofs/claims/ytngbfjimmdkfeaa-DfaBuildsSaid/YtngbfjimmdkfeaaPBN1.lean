/- Texts joined: Fa Fb Fc Fd. -/
import Derived.Test.YtngbfjimmdkfeaaPBB
set_option linter.unusedVariables false
set_option linter.unusedSimpArgs false
namespace Go.Proofs.Ytngbfjimmdkfeaa
open Go.RowKit

/-- A slice of numbers reads as these. -/
structure Ints (w : World) (a : Option Addr) (cap : Nat) (l : List Int) : Prop where
  le : l.length ≤ cap
  max : cap ≤ 9223372036854775807
  nil_ : a = none → cap = 0
  at_ : ∀ i, i < l.length → ∃ b off, a = some ⟨b, off, none⟩
  cell : ∀ b off, a = some ⟨b, off, none⟩ → ∀ i, (h : i < l.length) → w.cell? ⟨b, off + i, none⟩ = some (.int .i64 l[i])
theorem cell_up {w w' : World} (hb : Below w.heap.size w w') {b off : Nat} {v : Value} (h : w.cell? ⟨b, off, none⟩ = some v) : w'.cell? ⟨b, off, none⟩ = some v := (hb.cell (p := ⟨b, off, none⟩) (World.block_lt_of_cell? w _ h)).trans h
theorem Ints.grown {w w' : World} {a : Option Addr} {cap : Nat} {l : List Int} (h : Ints w a cap l) (hb : Below w.heap.size w w') : Ints w' a cap l :=
  ⟨h.le, h.max, h.nil_, h.at_, fun b off e i hi => cell_up hb (h.cell b off e i hi)⟩
/-- An edge. -/
structure Eg where
  f : Int
  t : Int
  q : List Sp
/-- A slice of edges reads as these. -/
structure Egs (w : World) (a : Option Addr) (cap : Nat) (l : List Eg) : Prop where
  le : l.length ≤ cap
  max : cap ≤ 9223372036854775807
  nil_ : a = none → cap = 0
  at_ : ∀ i, i < l.length → ∃ b off, a = some ⟨b, off, none⟩
  cell : ∀ b off, a = some ⟨b, off, none⟩ → ∀ i, (h : i < l.length) → w.cell? ⟨b, off + i * 3, none⟩ = some (.int .i64 l[i].f) ∧ w.cell? ⟨b, off + i * 3 + 1, none⟩ = some (.int .i64 l[i].t) ∧ ∃ sa sc, w.cell? ⟨b, off + i * 3 + 2, none⟩ = some (.slice sa l[i].q.length sc) ∧ Sps w sa sc l[i].q
theorem Egs.grown {w w' : World} {a : Option Addr} {cap : Nat} {l : List Eg} (h : Egs w a cap l) (hb : Below w.heap.size w w') : Egs w' a cap l :=
  ⟨h.le, h.max, h.nil_, h.at_, fun b off e i hi => by
    obtain ⟨h1, h2, sa, sc, h3, h4⟩ := h.cell b off e i hi
    exact ⟨cell_up hb h1, cell_up hb h2, sa, sc, cell_up hb h3, h4.grown hb⟩⟩
/-- An automaton. -/
structure Nf where
  n : Int
  s : Int
  ends : List Int
  es : List Eg
/-- Where its lists lie. -/
structure NfL where
  ea : Option Addr
  ec : Nat
  ga : Option Addr
  gc : Nat
structure NfAt (w : World) (x : Nf) (p : NfL) : Prop where
  ends : Ints w p.ea p.ec x.ends
  es : Egs w p.ga p.gc x.es
theorem NfAt.grown {w w' : World} {x : Nf} {p : NfL} (h : NfAt w x p) (hb : Below w.heap.size w w') : NfAt w' x p := ⟨h.ends.grown hb, h.es.grown hb⟩
/-- A number is a state's. -/
def stB (x : Nf) (k : Int) : Bool := decide (0 ≤ k) && decide (k < x.n)
def linkB (x : Nf) : Bool := decide (x.n ≤ 2000) && stB x x.s && x.ends.all (stB x) && x.es.all (fun e => stB x e.f && stB x e.t)
/-- Whether it may be. -/
def nfB (x : Nf) : Bool := linkB x && x.es.all (fun e => ordB e.q)
end Go.Proofs.Ytngbfjimmdkfeaa

namespace Go.Proofs.Ytngbfjimmdkfeaa
open Go.RowKit Go.Shelf

attribute [local go_sem] Oper.semAt_some

set_option maxRecDepth 100000 in
set_option maxHeartbeats 1000000 in
theorem hasState_any (x : Nf) (p : NfL) (k : Int) (w : World) :
    Calls Try.prog 70 #[.agg #[.int .i64 x.n, .int .i64 x.s, .slice p.ea x.ends.length p.ec, .slice p.ga x.es.length p.gc], .int .i64 k] w fun e w' => e = .returned (.bool (stB x k)) ∧ Below w.heap.size w w' := by
  have hA0 := Blk.new w 32 #[.int .i64 x.n, .int .i64 x.s, .slice p.ea x.ends.length p.ec, .slice p.ga x.es.length p.gc]
  have hb0 : Below w.heap.size w (w.alloc (.cells #[.int .i64 x.n, .int .i64 x.s, .slice p.ea x.ends.length p.ec, .slice p.ga x.es.length p.gc] 32)) := (Below.refl _ w).alloc (Nat.le_refl _) _
  have x0 := hA0.cell 0
  have x1 := hA0.cell 1
  have x2 := hA0.cell 2
  have x3 := hA0.cell 3
  have xl := hA0.lt
  simp only [List.getElem?_cons_zero, List.getElem?_cons_succ] at x0 x1 x2 x3
  obtain ⟨R, hR⟩ : ∃ R, Hid (stB x k = R) := ⟨_, Lib.hid rfl⟩
  rw [hR.out]
  by_cases h0 : (0 : Int) ≤ k
  · by_cases h1 : k < x.n
    · have hT : Hid (R = true) := Lib.hid (by rw [← hR.out, stB, decide_eq_true h0, decide_eq_true h1]; rfl)
      go_enter Try.func70, Try.ntmps70
      go_wp2_with (fail)
      exact bodyPost_ret (v := .bool true) (by simp [results, Try.results70, go_sem]; try rfl) rfl ⟨ret_bool hT.out.symm, hb0⟩
    · have hT : Hid (R = false) := Lib.hid (by rw [← hR.out, stB, decide_eq_false h1, Bool.and_false])
      go_enter Try.func70, Try.ntmps70
      go_wp2_with (fail)
      exact bodyPost_ret (v := .bool false) (by simp [results, Try.results70, go_sem]; try rfl) rfl ⟨ret_bool hT.out.symm, hb0⟩
  · have hT : Hid (R = false) := Lib.hid (by rw [← hR.out, stB, decide_eq_false h0, Bool.false_and])
    go_enter Try.func70, Try.ntmps70
    go_wp2_with (fail)
    exact bodyPost_ret (v := .bool false) (by simp [results, Try.results70, go_sem]; try rfl) rfl ⟨ret_bool hT.out.symm, hb0⟩

set_option maxRecDepth 100000 in
set_option maxHeartbeats 1000000 in
theorem hasStates_any (x : Nf) (p : NfL) (l : List Int) (a : Option Addr) (cap : Nat) (w : World) (hl : Ints w a cap l) :
    Calls Try.prog 71 #[.agg #[.int .i64 x.n, .int .i64 x.s, .slice p.ea x.ends.length p.ec, .slice p.ga x.es.length p.gc], .slice a l.length cap] w fun e w' => e = .returned (.bool (l.all (stB x))) ∧ Below w.heap.size w w' := by
  have hlm : l.length ≤ cap ∧ cap ≤ 9223372036854775807 := ⟨hl.le, hl.max⟩
  have hA0 := Blk.new w 32 #[.int .i64 x.n, .int .i64 x.s, .slice p.ea x.ends.length p.ec, .slice p.ga x.es.length p.gc]
  have hb0 : Below w.heap.size w (w.alloc (.cells #[.int .i64 x.n, .int .i64 x.s, .slice p.ea x.ends.length p.ec, .slice p.ga x.es.length p.gc] 32)) := (Below.refl _ w).alloc (Nat.le_refl _) _
  obtain ⟨L, HL⟩ : ∃ L, Hid (l.length = L) := ⟨_, Lib.hid rfl⟩
  rw [HL.out] at hlm ⊢
  go_enter Try.func71, Try.ntmps71
  go_wp2_with (fail)
  go_loopw [6, 9] (fun _ iv wr => ∃ k : Nat, k ≤ L ∧ iv = .int .i64 (k : Int) ∧ (l.all (stB x) = (l.drop k).all (stB x)) ∧ Blk wr w.heap.size 32 [.int .i64 x.n, .int .i64 x.s, .slice p.ea x.ends.length p.ec, .slice p.ga x.es.length p.gc] ∧ Below w.heap.size w wr) (fun _ iv _ => L - (intOf iv).toNat)
  case atStart => exact ⟨0, Nat.zero_le _, rfl, rfl, hA0, hb0⟩
  case round =>
    obtain ⟨k, hk, rfl, hr, hA, hbr⟩ := hrel
    have HR := Lib.hid hr
    clear hr hA0 hb0
    have x0 := hA.cell 0
    have x1 := hA.cell 1
    have x2 := hA.cell 2
    have x3 := hA.cell 3
    have xl := hA.lt
    simp only [List.getElem?_cons_zero, List.getElem?_cons_succ] at x0 x1 x2 x3
    by_cases hlt : k < L
    · have hkI : (k : Int) < (L : Int) := by omega
      have hkI0 : (0 : Int) ≤ (k : Int) := by omega
      have hkl : k < l.length := by rw [HL.out]; exact hlt
      obtain ⟨b, off, rfl⟩ := hl.at_ k hkl
      have c0 := (hl.grown hbr).cell b off rfl k hkl
      have hdr : Hid (l.drop k = l[k] :: l.drop (k + 1)) := Lib.hid (List.drop_eq_getElem_cons hkl)
      obtain ⟨v, hv⟩ : ∃ v, Hid (l[k] = v) := ⟨_, Lib.hid rfl⟩
      rw [hv.out] at c0
      have hc := fun W => hasState_any x p v W
      obtain ⟨S, hS⟩ : ∃ S, Hid (stB x v = S) := ⟨_, Lib.hid rfl⟩
      rw [hS.out] at hc
      have Hc := Lib.hid hc
      clear hc
      go_wp2_with (fail)
      refine (Hc.out wr).mono ?_
      rintro e w3 ⟨rfl, hb3⟩
      have hb03 := hbr.trans (hb3.mono hbr.size)
      have hA3 := hA.below hb3 hA.lt
      cases S
      case false =>
        have hF : Hid (l.all (stB x) = false) := Lib.hid (by rw [HR.out, hdr.out, List.all_cons, hv.out, hS.out, Bool.false_and])
        go_wp2_with (fail)
        exact bodyPost_ret (v := .bool false) (by simp [results, Try.results71, go_sem]; try rfl) rfl ⟨ret_bool hF.out.symm, hb03⟩
      go_wp2_with (fail)
      exact ⟨⟨k + 1, by omega, by simp, by rw [HR.out, hdr.out, List.all_cons, hv.out, hS.out, Bool.true_and], hA3, hb03⟩, by simp [intOf]; omega⟩
    · obtain rfl : k = L := by omega
      have hkI : ¬ (k : Int) < (k : Int) := by omega
      have hT : Hid (l.all (stB x) = true) := Lib.hid (by rw [HR.out, List.drop_eq_nil_of_le (by rw [HL.out]; exact Nat.le_refl _)]; rfl)
      go_wp2_with (fail)
      exact bodyPost_ret (v := .bool true) (by simp [results, Try.results71, go_sem]; try rfl) rfl ⟨ret_bool hT.out.symm, hbr⟩
end Go.Proofs.Ytngbfjimmdkfeaa

namespace Go.Proofs.Ytngbfjimmdkfeaa
open Go.RowKit Go.Shelf

attribute [local go_sem] Oper.semAt_some

set_option maxRecDepth 100000 in
set_option maxHeartbeats 1000000 in
theorem linked_any (x : Nf) (p : NfL) (w : World) (hx : NfAt w x p) :
    Calls Try.prog 50 #[.agg #[.int .i64 x.n, .int .i64 x.s, .slice p.ea x.ends.length p.ec, .slice p.ga x.es.length p.gc]] w fun e w' => e = .returned (.bool (linkB x)) ∧ Below w.heap.size w w' := by
  obtain ⟨ea, ec, ga, gc⟩ := p
  dsimp only
  have hlm : x.es.length ≤ gc ∧ gc ≤ 9223372036854775807 := ⟨hx.es.le, hx.es.max⟩
  have hlm2 : x.ends.length ≤ ec ∧ ec ≤ 9223372036854775807 := ⟨hx.ends.le, hx.ends.max⟩
  have hen := hx.ends
  have hes := hx.es
  have Hk : ∀ k W, Calls Try.prog 70 #[.agg #[.int .i64 x.n, .int .i64 x.s, .slice ea x.ends.length ec, .slice ga x.es.length gc], .int .i64 k] W fun e w' => e = .returned (.bool (stB x k)) ∧ Below W.heap.size W w' := fun k W => hasState_any x ⟨ea, ec, ga, gc⟩ k W
  have HK := Lib.hid Hk
  clear Hk hx
  have hA0 := Blk.new w 32 #[.int .i64 x.n, .int .i64 x.s, .slice ea x.ends.length ec, .slice ga x.es.length gc]
  have hb0 : Below w.heap.size w (w.alloc (.cells #[.int .i64 x.n, .int .i64 x.s, .slice ea x.ends.length ec, .slice ga x.es.length gc] 32)) := (Below.refl _ w).alloc (Nat.le_refl _) _
  have x0 := hA0.cell 0
  have x1 := hA0.cell 1
  have x2 := hA0.cell 2
  have x3 := hA0.cell 3
  have xl := hA0.lt
  simp only [List.getElem?_cons_zero, List.getElem?_cons_succ] at x0 x1 x2 x3
  obtain ⟨S1, hS1⟩ : ∃ S, Hid (stB x x.s = S) := ⟨_, Lib.hid rfl⟩
  obtain ⟨S2, hS2⟩ : ∃ S, Hid (x.ends.all (stB x) = S) := ⟨_, Lib.hid rfl⟩
  obtain ⟨S3, hS3⟩ : ∃ S, Hid (x.es.all (fun e => stB x e.f && stB x e.t) = S) := ⟨_, Lib.hid rfl⟩
  obtain ⟨R, hRR⟩ : ∃ R, Hid (linkB x = R) := ⟨_, Lib.hid rfl⟩
  have hR : Hid (R = (decide (x.n ≤ 2000) && S1 && S2 && S3)) := Lib.hid (by rw [← hRR.out, linkB, hS1.out, hS2.out, hS3.out])
  rw [hRR.out]
  by_cases h20 : (2000 : Int) < x.n
  · have hF : Hid (R = false) := Lib.hid (by rw [hR.out, decide_eq_false (by omega), Bool.false_and, Bool.false_and, Bool.false_and])
    go_enter Try.func50, Try.ntmps50
    go_wp2_with (fail)
    exact bodyPost_ret (v := .bool false) (by simp [results, Try.results50, go_sem]; try rfl) rfl ⟨ret_bool hF.out.symm, hb0⟩
  have hR1 : Hid (R = (S1 && S2 && S3)) := Lib.hid (by rw [hR.out, decide_eq_true (by omega), Bool.true_and])
  have hc1 := HK.out x.s (w.alloc (.cells #[.int .i64 x.n, .int .i64 x.s, .slice ea x.ends.length ec, .slice ga x.es.length gc] 32))
  rw [hS1.out] at hc1
  have Hc1 := Lib.hid hc1
  clear hc1
  go_enter Try.func50, Try.ntmps50
  go_wp2_with (fail)
  refine Hc1.out.mono ?_
  rintro e w1 ⟨rfl, hb1⟩
  have hA1 := hA0.below hb1 hA0.lt
  have hb01 := hb0.trans (hb1.mono hb0.size)
  clear x0 x1 x2 x3 xl hA0 hb0 hb1
  have x0 := hA1.cell 0
  have x1 := hA1.cell 1
  have x2 := hA1.cell 2
  have x3 := hA1.cell 3
  have xl := hA1.lt
  simp only [List.getElem?_cons_zero, List.getElem?_cons_succ] at x0 x1 x2 x3
  cases S1
  · have hF : Hid (R = false) := Lib.hid (by rw [hR1.out, Bool.false_and, Bool.false_and])
    go_wp2_with (fail)
    exact bodyPost_ret (v := .bool false) (by simp [results, Try.results50, go_sem]; try rfl) rfl ⟨ret_bool hF.out.symm, hb01⟩
  have hR2 : Hid (R = (S2 && S3)) := Lib.hid (by rw [hR1.out, Bool.true_and])
  have hc2 := hasStates_any x ⟨ea, ec, ga, gc⟩ x.ends ea ec w1 (hen.grown hb01)
  rw [hS2.out] at hc2
  have Hc2 := Lib.hid hc2
  clear hc2
  go_wp2_with (fail)
  refine Hc2.out.mono ?_
  rintro e w2 ⟨rfl, hb2⟩
  have hA2 := hA1.below hb2 hA1.lt
  have hb02 := hb01.trans (hb2.mono hb01.size)
  clear x0 x1 x2 x3 xl hA1 hb01 hb2
  have x0 := hA2.cell 0
  have x1 := hA2.cell 1
  have x2 := hA2.cell 2
  have x3 := hA2.cell 3
  have xl := hA2.lt
  simp only [List.getElem?_cons_zero, List.getElem?_cons_succ] at x0 x1 x2 x3
  cases S2
  · have hF : Hid (R = false) := Lib.hid (by rw [hR2.out, Bool.false_and])
    go_wp2_with (fail)
    exact bodyPost_ret (v := .bool false) (by simp [results, Try.results50, go_sem]; try rfl) rfl ⟨ret_bool hF.out.symm, hb02⟩
  have hR3 : Hid (R = S3) := Lib.hid (by rw [hR2.out, Bool.true_and])
  obtain ⟨L, HL⟩ : ∃ L, Hid (x.es.length = L) := ⟨_, Lib.hid rfl⟩
  rw [HL.out] at hlm hA2 x3
  have HK : Hid (∀ k W, Calls Try.prog 70 #[.agg #[.int .i64 x.n, .int .i64 x.s, .slice ea x.ends.length ec, .slice ga L gc], .int .i64 k] W fun e w' => e = .returned (.bool (stB x k)) ∧ Below W.heap.size W w') := by rw [HL.out] at HK; exact HK
  go_wp2_with (fail)
  go_loopw [25] (fun iv wr => ∃ k : Nat, k ≤ L ∧ iv = .int .i64 (k : Int) ∧ (S3 = (x.es.drop k).all (fun e => stB x e.f && stB x e.t)) ∧ Blk wr w.heap.size 32 [.int .i64 x.n, .int .i64 x.s, .slice ea x.ends.length ec, .slice ga L gc] ∧ Below w.heap.size w wr) (fun iv _ => L - (intOf iv).toNat)
  case atStart => exact ⟨0, Nat.zero_le _, rfl, hS3.out.symm, hA2, hb02⟩
  case round =>
    obtain ⟨k, hk, rfl, hr, hA, hbr⟩ := hrel
    have HR := Lib.hid hr
    clear hr hA2 hb02 x0 x1 x2 x3 xl
    have x0 := hA.cell 0
    have x1 := hA.cell 1
    have x2 := hA.cell 2
    have x3 := hA.cell 3
    have xl := hA.lt
    simp only [List.getElem?_cons_zero, List.getElem?_cons_succ] at x0 x1 x2 x3
    by_cases hlt : k < L
    · have hkI : (k : Int) < (L : Int) := by omega
      have hkI0 : (0 : Int) ≤ (k : Int) := by omega
      have hkl : k < x.es.length := by rw [HL.out]; exact hlt
      obtain ⟨b, off, rfl⟩ := hes.at_ k hkl
      obtain ⟨c0, c1, sa, sc, c2, _⟩ := (hes.grown hbr).cell b off rfl k hkl
      have hdr : Hid (x.es.drop k = x.es[k] :: x.es.drop (k + 1)) := Lib.hid (List.drop_eq_getElem_cons hkl)
      obtain ⟨e, he⟩ : ∃ v, Hid (x.es[k] = v) := ⟨_, Lib.hid rfl⟩
      rw [he.out] at c0 c1 c2
      have hbl := World.block_lt_of_cell? wr _ c0
      have hE := Blk.new wr 61 #[.int .i64 e.f, .int .i64 e.t, .slice sa e.q.length sc]
      have hAe := hA.alloc (.cells #[.int .i64 e.f, .int .i64 e.t, .slice sa e.q.length sc] 61)
      have hbe := hbr.alloc hbr.size (.cells #[.int .i64 e.f, .int .i64 e.t, .slice sa e.q.length sc] 61)
      obtain ⟨T1, hT1⟩ : ∃ T, Hid (stB x e.f = T) := ⟨_, Lib.hid rfl⟩
      obtain ⟨T2, hT2⟩ : ∃ T, Hid (stB x e.t = T) := ⟨_, Lib.hid rfl⟩
      have hall : Hid (S3 = (T1 && T2 && (x.es.drop (k + 1)).all (fun e => stB x e.f && stB x e.t))) := Lib.hid (by rw [HR.out, hdr.out, List.all_cons, he.out, hT1.out, hT2.out])
      have hc1 := HK.out e.f (wr.alloc (.cells #[.int .i64 e.f, .int .i64 e.t, .slice sa e.q.length sc] 61))
      rw [hT1.out] at hc1
      have hc2 := fun W => HK.out e.t W
      rw [hT2.out] at hc2
      have Hc1 := Lib.hid hc1
      have Hc2 := Lib.hid hc2
      clear hc1 hc2
      go_wp2_with (fail)
      refine Hc1.out.mono ?_
      rintro e w3 ⟨rfl, hb3⟩
      have hA3 := hAe.below hb3 hAe.lt
      have hE3 := hE.below hb3 hE.lt
      have hb03 := hbe.trans (hb3.mono hbe.size)
      clear x0 x1 x2 x3 xl c0 c1 c2
      have x0 := hA3.cell 0
      have x1 := hA3.cell 1
      have x2 := hA3.cell 2
      have x3 := hA3.cell 3
      have xl := hA3.lt
      simp only [List.getElem?_cons_zero, List.getElem?_cons_succ] at x0 x1 x2 x3
      have y0 := hE3.cell 0
      have y1 := hE3.cell 1
      have y2 := hE3.cell 2
      simp only [List.getElem?_cons_zero, List.getElem?_cons_succ] at y0 y1 y2
      cases T1
      · have hF : Hid (R = false) := Lib.hid (by rw [hR3.out, hall.out, Bool.false_and, Bool.false_and])
        go_wp2_with (fail)
        exact bodyPost_ret (v := .bool false) (by simp [results, Try.results50, go_sem]; try rfl) rfl ⟨ret_bool hF.out.symm, hb03⟩
      go_wp2_with (fail)
      refine (Hc2.out w3).mono ?_
      rintro e w4 ⟨rfl, hb4⟩
      have hA4 := hA3.below hb4 hA3.lt
      have hb04 := hb03.trans (hb4.mono hb03.size)
      cases T2
      · have hF : Hid (R = false) := Lib.hid (by rw [hR3.out, hall.out, Bool.and_false, Bool.false_and])
        go_wp2_with (fail)
        exact bodyPost_ret (v := .bool false) (by simp [results, Try.results50, go_sem]; try rfl) rfl ⟨ret_bool hF.out.symm, hb04⟩
      go_wp2_with (fail)
      exact ⟨⟨k + 1, by omega, by simp, by rw [hall.out, Bool.true_and, Bool.true_and], hA4, hb04⟩, by simp [intOf]; omega⟩
    · obtain rfl : k = L := by omega
      have hkI : ¬ (k : Int) < (k : Int) := by omega
      have hT : Hid (R = true) := Lib.hid (by rw [hR3.out, HR.out, List.drop_eq_nil_of_le (by rw [HL.out]; exact Nat.le_refl _)]; rfl)
      go_wp2_with (fail)
      exact bodyPost_ret (v := .bool true) (by simp [results, Try.results50, go_sem]; try rfl) rfl ⟨ret_bool hT.out.symm, hbr⟩
end Go.Proofs.Ytngbfjimmdkfeaa

namespace Go.Proofs.Ytngbfjimmdkfeaa
open Go.RowKit Go.Shelf

attribute [local go_sem] Oper.semAt_some

/-- A program's function as a value. -/
abbrev fV (i : Nat) : Value := .func (.func i) #[] #[]
theorem nil_len {α : Type} (l : List α) : l.isEmpty = decide ((l.length : Int) = 0) := by cases l <;> simp; omega
theorem dis_eq (q : List Sp) : (!q.isEmpty && decide (checkE (Fo.pre 1 (.cons ⟨2, q⟩ .nil .nil)) ≠ 0)) = !ordB q := by
  cases q with
  | nil => rfl
  | cons s r => cases hq : ordB (s :: r) <;> simp [checkE, Fo.pre, plainB, Fo.len, hq]

set_option maxRecDepth 100000 in
set_option maxHeartbeats 1000000 in
theorem byNone_any (e : Eg) (sa : Option Addr) (sc : Nat) (w : World) :
    Calls Try.prog 73 #[.agg #[.int .i64 e.f, .int .i64 e.t, .slice sa e.q.length sc]] w fun r w' => r = .returned (.bool e.q.isEmpty) ∧ Below w.heap.size w w' := by
  rw [nil_len]
  have hA0 := Blk.new w 61 #[.int .i64 e.f, .int .i64 e.t, .slice sa e.q.length sc]
  have hb0 : Below w.heap.size w (w.alloc (.cells #[.int .i64 e.f, .int .i64 e.t, .slice sa e.q.length sc] 61)) := (Below.refl _ w).alloc (Nat.le_refl _) _
  obtain ⟨n, hn⟩ : ∃ n, Hid (e.q.length = n) := ⟨_, Lib.hid rfl⟩
  rw [hn.out] at hA0 hb0 ⊢
  have x0 := hA0.cell 0
  have x1 := hA0.cell 1
  have x2 := hA0.cell 2
  have xl := hA0.lt
  simp only [List.getElem?_cons_zero, List.getElem?_cons_succ] at x0 x1 x2
  by_cases h0 : (n : Int) = 0
  · have hT : Hid (decide ((n : Int) = 0) = true) := Lib.hid (decide_eq_true h0)
    rw [hT.out]
    obtain rfl : n = 0 := by omega
    clear h0
    go_enter Try.func73, Try.ntmps73
    go_wp2_with (fail)
    exact bodyPost_ret (v := .bool true) (by simp [results, Try.results73, go_sem]; try first | rfl | assumption | omega) rfl ⟨rfl, hb0⟩
  · rw [decide_eq_false h0]
    have h1 : ¬ n = 0 := by omega
    go_enter Try.func73, Try.ntmps73
    go_wp2_with (fail)
    exact bodyPost_ret (v := .bool false) (by simp [results, Try.results73, go_sem]; try first | rfl | assumption | omega) rfl ⟨rfl, hb0⟩

set_option maxRecDepth 100000 in
set_option maxHeartbeats 1000000 in
theorem disordered_any (e : Eg) (sa : Option Addr) (sc : Nat) (w : World) (hs : Sps w sa sc e.q) :
    Calls Try.prog 52 #[.agg #[.int .i64 e.f, .int .i64 e.t, .slice sa e.q.length sc]] w fun r w' => r = .returned (.bool (!ordB e.q)) ∧ Below w.heap.size w w' := by
  have hA0 := Blk.new w 61 #[.int .i64 e.f, .int .i64 e.t, .slice sa e.q.length sc]
  have hb0 : Below w.heap.size w (w.alloc (.cells #[.int .i64 e.f, .int .i64 e.t, .slice sa e.q.length sc] 61)) := (Below.refl _ w).alloc (Nat.le_refl _) _
  have x0 := hA0.cell 0
  have x1 := hA0.cell 1
  have x2 := hA0.cell 2
  have xl := hA0.lt
  simp only [List.getElem?_cons_zero, List.getElem?_cons_succ] at x0 x1 x2
  obtain ⟨R, hR⟩ : ∃ R, Hid ((!ordB e.q) = R) := ⟨_, Lib.hid rfl⟩
  have hD := Lib.hid (dis_eq e.q)
  rw [hR.out]
  obtain ⟨B, hB⟩ : ∃ R, Hid (e.q.isEmpty = R) := ⟨_, Lib.hid rfl⟩
  obtain ⟨C, hC⟩ : ∃ R, Hid (checkE (Fo.pre 1 (.cons ⟨2, e.q⟩ .nil .nil)) = R) := ⟨_, Lib.hid rfl⟩
  have hD2 : Hid (R = (!B && decide (C ≠ 0))) := Lib.hid (by rw [← hR.out, ← hD.out, hB.out, hC.out])
  have hc1 := byNone_any e sa sc (w.alloc (.cells #[.int .i64 e.f, .int .i64 e.t, .slice sa e.q.length sc] 61))
  rw [hB.out] at hc1
  have Hc1 := Lib.hid hc1
  have hc2 : ∀ W, Sps W sa sc e.q → Calls Try.prog 74 #[.agg #[.int .i64 2, .slice sa e.q.length sc, .slice none 0 0]] W fun r w' => r = .returned (.int .i64 (checkE (Fo.pre 1 (.cons ⟨2, e.q⟩ .nil .nil)))) ∧ Below W.heap.size W w' := fun W h => rcheck_any ⟨2, e.q⟩ .nil sa sc none 0 W h (Items.nil W) (by simp [Fo.size])
  rw [hC.out] at hc2
  have Hc2 := Lib.hid hc2
  clear hc1 hc2
  have hmx : e.q.length ≤ sc ∧ sc ≤ 9223372036854775807 := ⟨hs.le, hs.max⟩
  obtain ⟨n, hn⟩ : ∃ n, Hid (e.q.length = n) := ⟨_, Lib.hid rfl⟩
  rw [hn.out] at hA0 hb0 x2 Hc1 Hc2 hmx ⊢
  go_enter Try.func52, Try.ntmps52
  go_wp2_with (fail)
  refine Hc1.out.mono ?_
  rintro r w1 ⟨rfl, hb1⟩
  have hA1 := hA0.below hb1 hA0.lt
  have hb01 := hb0.trans (hb1.mono hb0.size)
  clear x0 x1 x2 xl hA0 hb0 hb1
  have x0 := hA1.cell 0
  have x1 := hA1.cell 1
  have x2 := hA1.cell 2
  have xl := hA1.lt
  simp only [List.getElem?_cons_zero, List.getElem?_cons_succ] at x0 x1 x2
  cases B
  · have hc2 := Hc2.out w1 (hs.grown hb01)
    have Hc2' := Lib.hid hc2
    clear hc2 hs
    go_wp2_with (fail)
    refine Hc2'.out.mono ?_
    rintro r w2 ⟨rfl, hb2⟩
    by_cases h0 : C = 0
    · have hF : Hid (R = false) := Lib.hid (by rw [hD2.out, h0]; rfl)
      subst h0
      go_wp2_with (fail)
      exact bodyPost_ret (v := .bool false) (by simp [results, Try.results52, go_sem]; try first | rfl | assumption | omega) rfl ⟨ret_bool hF.out.symm, hb01.trans (hb2.mono hb01.size)⟩
    · have hF : Hid (R = true) := Lib.hid (by rw [hD2.out, decide_eq_true h0]; rfl)
      go_wp2_with (fail)
      exact bodyPost_ret (v := .bool true) (by simp [results, Try.results52, go_sem]; try first | rfl | assumption | omega) rfl ⟨ret_bool hF.out.symm, hb01.trans (hb2.mono hb01.size)⟩
  · have hF : Hid (R = false) := Lib.hid (by rw [hD2.out]; rfl)
    clear hs
    go_wp2_with (fail)
    exact bodyPost_ret (v := .bool false) (by simp [results, Try.results52, go_sem]; try first | rfl | assumption | omega) rfl ⟨ret_bool hF.out.symm, hb01⟩

set_option maxRecDepth 100000 in
set_option maxHeartbeats 1000000 in
theorem index_any (l : List Eg) (a : Option Addr) (cap : Nat) (w : World) (hl : Egs w a cap l) :
    Calls Try.prog 72 #[.slice a l.length cap, fV 52] w fun r w' => (∃ i : Int, r = .returned (.int .i64 i) ∧ decide (0 ≤ i) = l.any (fun e => !ordB e.q)) ∧ Below w.heap.size w w' := by
  have hlm : l.length ≤ cap ∧ cap ≤ 9223372036854775807 := ⟨hl.le, hl.max⟩
  obtain ⟨L, HL⟩ : ∃ L, Hid (l.length = L) := ⟨_, Lib.hid rfl⟩
  rw [HL.out] at hlm ⊢
  obtain ⟨R, hR⟩ : ∃ R, Hid (l.any (fun e => !ordB e.q) = R) := ⟨_, Lib.hid rfl⟩
  rw [hR.out]
  go_enter Try.func72, Try.ntmps72
  go_wp2_with (fail)
  go_loopw [5, 8] (fun _ iv wr => ∃ k : Nat, k ≤ L ∧ iv = .int .i64 (k : Int) ∧ R = (l.drop k).any (fun e => !ordB e.q) ∧ Below w.heap.size w wr) (fun _ iv _ => L - (intOf iv).toNat)
  case atStart => exact ⟨0, Nat.zero_le _, rfl, hR.out.symm, Below.refl _ _⟩
  case round =>
    obtain ⟨k, hk, rfl, hr, hbr⟩ := hrel
    have HR := Lib.hid hr
    clear hr
    by_cases hlt : k < L
    · have hkI : (k : Int) < (L : Int) := by omega
      have hkI0 : (0 : Int) ≤ (k : Int) := by omega
      have hkl : k < l.length := by rw [HL.out]; exact hlt
      obtain ⟨b, off, rfl⟩ := hl.at_ k hkl
      obtain ⟨c0, c1, sa, sc, c2, hsp⟩ := (hl.grown hbr).cell b off rfl k hkl
      have hdr : Hid (l.drop k = l[k] :: l.drop (k + 1)) := Lib.hid (List.drop_eq_getElem_cons hkl)
      obtain ⟨e, he⟩ : ∃ v, Hid (l[k] = v) := ⟨_, Lib.hid rfl⟩
      rw [he.out] at c0 c1 c2 hsp
      have hbl := World.block_lt_of_cell? wr _ c0
      have hc := disordered_any e sa sc wr hsp
      obtain ⟨S, hS⟩ : ∃ S, Hid ((!ordB e.q) = S) := ⟨_, Lib.hid rfl⟩
      rw [hS.out] at hc
      have Hc := Lib.hid hc
      clear hc hsp
      go_wp2_with (fail)
      refine Hc.out.mono ?_
      rintro r w3 ⟨rfl, hb3⟩
      have hb03 := hbr.trans (hb3.mono hbr.size)
      cases S
      · go_wp2_with (fail)
        exact ⟨⟨k + 1, by omega, by simp, by rw [HR.out, hdr.out, List.any_cons, he.out, hS.out, Bool.false_or], hb03⟩, by simp [intOf]; omega⟩
      · have hF : Hid (R = true) := Lib.hid (by rw [HR.out, hdr.out, List.any_cons, he.out, hS.out, Bool.true_or])
        go_wp2_with (fail)
        exact bodyPost_ret (v := .int .i64 (k : Int)) (by simp [results, Try.results72, go_sem]; try first | rfl | assumption | omega) rfl ⟨⟨_, rfl, by rw [hF.out]; exact decide_eq_true hkI0⟩, hb03⟩
    · obtain rfl : k = L := by omega
      have hkI : ¬ (k : Int) < (k : Int) := by omega
      have hT : Hid (R = false) := Lib.hid (by rw [HR.out, List.drop_eq_nil_of_le (by rw [HL.out]; exact Nat.le_refl _)]; rfl)
      go_wp2_with (fail)
      exact bodyPost_ret (v := .int .i64 (-1)) (by simp [results, Try.results72, go_sem]; try first | rfl | assumption | omega) rfl ⟨⟨_, rfl, by rw [hT.out]; rfl⟩, hbr⟩

set_option maxRecDepth 100000 in
set_option maxHeartbeats 1000000 in
theorem contains_any (l : List Eg) (a : Option Addr) (cap : Nat) (w : World) (hl : Egs w a cap l) :
    Calls Try.prog 51 #[.slice a l.length cap, fV 52] w fun r w' => r = .returned (.bool (l.any (fun e => !ordB e.q))) ∧ Below w.heap.size w w' := by
  have Hc := Lib.hid (index_any l a cap w hl)
  obtain ⟨R, hR⟩ : ∃ R, Hid (l.any (fun e => !ordB e.q) = R) := ⟨_, Lib.hid rfl⟩
  rw [hR.out] at Hc ⊢
  obtain ⟨L, HL⟩ : ∃ L, Hid (l.length = L) := ⟨_, Lib.hid rfl⟩
  rw [HL.out] at Hc ⊢
  clear hl
  go_enter Try.func51, Try.ntmps51
  go_wp2_with (fail)
  refine Hc.out.mono ?_
  rintro r w1 ⟨⟨i, rfl, hi⟩, hb1⟩
  have HI := Lib.hid hi
  clear hi
  by_cases h0 : (0 : Int) ≤ i
  · have hF : Hid (R = true) := Lib.hid (by rw [← HI.out]; exact decide_eq_true h0)
    go_wp2_with (fail)
    exact bodyPost_ret (v := .bool true) (by simp [results, Try.results51, go_sem]; try first | rfl | assumption | omega) rfl ⟨ret_bool hF.out.symm, hb1⟩
  · have hF : Hid (R = false) := Lib.hid (by rw [← HI.out]; exact decide_eq_false h0)
    go_wp2_with (fail)
    exact bodyPost_ret (v := .bool false) (by simp [results, Try.results51, go_sem]; try first | rfl | assumption | omega) rfl ⟨ret_bool hF.out.symm, hb1⟩

theorem nf_eq (x : Nf) : nfB x = (linkB x && !(x.es.any (fun e => !ordB e.q))) := by rw [nfB, List.all_eq_not_any_not]

set_option maxRecDepth 100000 in
set_option maxHeartbeats 1000000 in
theorem ncheck_any (x : Nf) (p : NfL) (w : World) (hx : NfAt w x p) :
    Calls Try.prog 29 #[.agg #[.int .i64 x.n, .int .i64 x.s, .slice p.ea x.ends.length p.ec, .slice p.ga x.es.length p.gc]] w fun e w' => e = .returned (.int .i64 (if nfB x then 0 else 30)) ∧ Below w.heap.size w w' := by
  rw [nf_eq]
  have hlm : x.es.length ≤ p.gc ∧ p.gc ≤ 9223372036854775807 := ⟨hx.es.le, hx.es.max⟩
  have hA0 := Blk.new w 32 #[.int .i64 x.n, .int .i64 x.s, .slice p.ea x.ends.length p.ec, .slice p.ga x.es.length p.gc]
  have hb0 : Below w.heap.size w (w.alloc (.cells #[.int .i64 x.n, .int .i64 x.s, .slice p.ea x.ends.length p.ec, .slice p.ga x.es.length p.gc] 32)) := (Below.refl _ w).alloc (Nat.le_refl _) _
  have x0 := hA0.cell 0
  have x1 := hA0.cell 1
  have x2 := hA0.cell 2
  have x3 := hA0.cell 3
  have xl := hA0.lt
  simp only [List.getElem?_cons_zero, List.getElem?_cons_succ] at x0 x1 x2 x3
  have hc1 := linked_any x p (w.alloc (.cells #[.int .i64 x.n, .int .i64 x.s, .slice p.ea x.ends.length p.ec, .slice p.ga x.es.length p.gc] 32)) (hx.grown hb0)
  have hc2 : ∀ W, Below w.heap.size w W → _ := fun W h => contains_any x.es p.ga p.gc W (hx.es.grown h)
  obtain ⟨A, hA⟩ : ∃ R, Hid (linkB x = R) := ⟨_, Lib.hid rfl⟩
  obtain ⟨B, hB⟩ : ∃ R, Hid (x.es.any (fun e => !ordB e.q) = R) := ⟨_, Lib.hid rfl⟩
  rw [hA.out] at hc1 ⊢
  rw [hB.out] at hc2 ⊢
  have Hc1 := Lib.hid hc1
  have Hc2 := Lib.hid hc2
  clear hc1 hc2 hx
  go_enter Try.func29, Try.ntmps29
  go_wp2_with (fail)
  refine Hc1.out.mono ?_
  rintro r w1 ⟨rfl, hb1⟩
  have hA1 := hA0.below hb1 hA0.lt
  have hb01 := hb0.trans (hb1.mono hb0.size)
  clear x0 x1 x2 x3 xl hA0 hb0 hb1
  have x0 := hA1.cell 0
  have x1 := hA1.cell 1
  have x2 := hA1.cell 2
  have x3 := hA1.cell 3
  have xl := hA1.lt
  simp only [List.getElem?_cons_zero, List.getElem?_cons_succ] at x0 x1 x2 x3
  cases A
  · go_wp2_with (fail)
    exact bodyPost_ret (v := .int .i64 30) (by simp [results, Try.results29, go_sem]; try first | rfl | assumption | omega) rfl ⟨rfl, hb01⟩
  have Hc2' := Lib.hid (Hc2.out w1 hb01)
  go_wp2_with (fail)
  refine Hc2'.out.mono ?_
  rintro r w2 ⟨rfl, hb2⟩
  cases B
  · go_wp2_with (fail)
    exact bodyPost_ret (v := .int .i64 0) (by simp [results, Try.results29, go_sem]; try first | rfl | assumption | omega) rfl ⟨rfl, hb01.trans (hb2.mono hb01.size)⟩
  · go_wp2_with (fail)
    exact bodyPost_ret (v := .int .i64 30) (by simp [results, Try.results29, go_sem]; try first | rfl | assumption | omega) rfl ⟨rfl, hb01.trans (hb2.mono hb01.size)⟩
end Go.Proofs.Ytngbfjimmdkfeaa

