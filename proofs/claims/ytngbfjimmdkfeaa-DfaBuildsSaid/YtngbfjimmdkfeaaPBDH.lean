/- Texts joined: Es Et Eu Ev Ew Ex. -/
import Derived.Test.YtngbfjimmdkfeaaPBDA
import Derived.Test.YtngbfjimmdkfeaaPBK3
import Derived.Test.YtngbfjimmdkfeaaPBW1
import Derived.Test.YtngbfjimmdkfeaaPBN4
import Derived.Test.YtngbfjimmdkfeaaPBV1
set_option linter.unusedVariables false
set_option linter.unusedSimpArgs false
namespace Go.Proofs.Ytngbfjimmdkfeaa
open Go.RowKit Go.Shelf

attribute [local go_sem] Oper.semAt_some

set_option maxRecDepth 100000 in
set_option maxHeartbeats 2000000 in
theorem refAcc_any (x : Nf) (p : NfL) (s : List Nat) (sa : Option Addr) (sc : Nat) (w : World) (hx : NfAt w x p) (hs : IntsN w sa sc s) (he : ∀ e ∈ x.ends, 0 ≤ e) :
    Calls Try.prog 41 #[.agg #[.int .i64 x.n, .int .i64 x.s, .slice p.ea x.ends.length p.ec, .slice p.ga x.es.length p.gc], .slice sa s.length sc] w fun e w' => e = .returned (.int .i64 (accA s x.ends 0)) ∧ Below w.heap.size w w' := by
  have hE1 := hx.ends.le
  have hE2 := hx.ends.max
  have hG1 := hx.es.le
  have hG2 := hx.es.max
  have hsl : s.length ≤ sc ∧ sc ≤ 9223372036854775807 := ⟨by have := hs.le; rw [List.length_map] at this; exact this, hs.max⟩
  have Hx := Lib.hid hx
  have HI := Lib.hid (fun (V : World) (h : Below w.heap.size w V) (v : Nat) => inI_any s sa sc v V (Ints.grown hs h))
  clear hx hs
  obtain ⟨ea, ec, ga, gc⟩ := p
  dsimp only at *
  obtain ⟨R, hR⟩ : ∃ R, Hid (accA s x.ends 0 = R) := ⟨_, Lib.hid rfl⟩
  obtain ⟨E, hE⟩ : ∃ E, Hid (x.ends.length = E) := ⟨_, Lib.hid rfl⟩
  obtain ⟨G, hG⟩ : ∃ G, Hid (x.es.length = G) := ⟨_, Lib.hid rfl⟩
  obtain ⟨xn, hn⟩ : ∃ n, Hid (x.n = n) := ⟨_, Lib.hid rfl⟩
  obtain ⟨xs, hs⟩ : ∃ n, Hid (x.s = n) := ⟨_, Lib.hid rfl⟩
  obtain ⟨S, hS⟩ : ∃ n, Hid (s.length = n) := ⟨_, Lib.hid rfl⟩
  rw [hS.out] at hsl HI
  rw [hE.out] at hE1
  rw [hG.out] at hG1
  rw [hE.out, hG.out, hn.out, hs.out, hR.out, hS.out]
  have hA0 := Blk.new w 32 #[.int .i64 xn, .int .i64 xs, .slice ea E ec, .slice ga G gc]
  have hb0 : Below w.heap.size w (w.alloc (.cells #[.int .i64 xn, .int .i64 xs, .slice ea E ec, .slice ga G gc] 32)) := (Below.refl _ w).alloc (Nat.le_refl _) _
  have x2 := hA0.cell 2
  have xl := hA0.lt
  simp only [List.getElem?_cons_zero, List.getElem?_cons_succ] at x2
  have HN := Lib.hid he
  clear he
  go_enter Try.func41, Try.ntmps41
  go_wp2_with (fail)
  go_loopw [5, 6, 10] (fun _ _ iv wr => ∃ k : Nat, k ≤ E ∧ iv = .int .i64 (k : Int) ∧ Hid (R = accA s (x.ends.drop k) k) ∧ Below w.heap.size w wr) (fun _ _ iv _ => E - (intOf iv).toNat)
  case atStart => exact ⟨0, Nat.zero_le _, rfl, Lib.hid hR.out.symm, hb0⟩
  case round =>
    obtain ⟨k, hk, rfl, HK, hbr⟩ := hrel
    clear x2 xl
    by_cases hlt : k < E
    · have hkI : (k : Int) < (E : Int) := by omega
      have hkI0 : (0 : Int) ≤ (k : Int) := by omega
      have hkl : k < x.ends.length := by rw [hE.out]; exact hlt
      obtain ⟨b, off, rfl⟩ := Hx.out.ends.at_ k hkl
      have c0 := (Hx.out.ends.grown hbr).cell b off rfl k hkl
      have hdr : Hid (R = accA s (x.ends[k] :: x.ends.drop (k + 1)) k) := Lib.hid (by rw [HK.out, List.drop_eq_getElem_cons hkl])
      have hnn := HN.out _ (List.getElem_mem hkl)
      obtain ⟨v, hv⟩ : ∃ v, Hid (x.ends[k] = v) := ⟨_, Lib.hid rfl⟩
      rw [hv.out] at c0 hdr hnn
      obtain ⟨v, rfl⟩ : ∃ u : Nat, v = (u : Int) := ⟨v.toNat, by omega⟩
      have hbl := World.block_lt_of_cell? _ _ c0
      have HC := Lib.hid (HI.out wr hbr v)
      obtain ⟨q, hq⟩ : ∃ q, Hid (decide (v ∈ s) = q) := ⟨_, Lib.hid rfl⟩
      rw [hq.out] at HC
      have HBr := Lib.hid hbr
      clear hbr
      go_wp2_with (fail)
      refine HC.out.mono ?_
      rintro e w2 ⟨rfl, rfl⟩
      cases q
      case true =>
        have HF : Hid (R = (k : Int)) := Lib.hid (by rw [hdr.out, accA, Int.toNat_natCast, if_pos (of_decide_eq_true hq.out)])
        go_wp2_with (fail)
        exact bodyPost_ret (v := .int .i64 (k : Int)) (by simp [results, Try.results41, go_sem]; try rfl) rfl ⟨by rw [HF.out], HBr.out⟩
      case false =>
        have HF : Hid (R = accA s (x.ends.drop (k + 1)) (k + 1)) := Lib.hid (by rw [hdr.out, accA, Int.toNat_natCast, if_neg (of_decide_eq_false hq.out)])
        go_wp2_with (fail)
        exact ⟨⟨k + 1, by omega, by simp, HF, HBr.out⟩, by simp [intOf]; omega⟩
    · obtain rfl : E = k := by omega
      have hkI : ¬ (E : Int) < (E : Int) := by omega
      have HF : Hid (R = -1) := Lib.hid (by rw [HK.out, List.drop_eq_nil_of_le (by rw [hE.out]; exact Nat.le_refl _)]; rfl)
      have HBr := Lib.hid hbr
      clear hbr
      go_wp2_with (fail)
      exact bodyPost_ret (v := .int .i64 (-1)) (by simp [results, Try.results41, go_sem]; try rfl) rfl ⟨by rw [HF.out], HBr.out⟩
/-- A set's numbers, and where they lie. -/
structure NlD where
  l : List Nat
  a : Option Addr
  c : Nat
abbrev NlD.v (d : NlD) : Value := .slice d.a d.l.length d.c
/-- Sets lie there. -/
structure Sts (w : World) (a : Option Addr) (cap : Nat) (rs : List NlD) : Prop where
  le : rs.length ≤ cap
  max : cap ≤ 9223372036854775807
  nil_ : a = none → cap = 0
  at_ : ∀ i, i < rs.length → ∃ b off, a = some ⟨b, off, none⟩
  cell : ∀ b off, a = some ⟨b, off, none⟩ → ∀ i, (h : i < rs.length) → w.cell? ⟨b, off + i, none⟩ = some (.slice rs[i].a rs[i].l.length rs[i].c)
  ints : ∀ r ∈ rs, IntsN w r.a r.c r.l
theorem Sts.grown {w w' : World} {a : Option Addr} {cap : Nat} {rs : List NlD} (h : Sts w a cap rs) (hb : Below w.heap.size w w') : Sts w' a cap rs :=
  ⟨h.le, h.max, h.nil_, h.at_, fun b off e i hi => cell_up hb (h.cell b off e i hi), fun r hr => (h.ints r hr).grown hb⟩
/-- Where a list stands, from a place on. -/
def fdR (s : List Nat) : List (List Nat) → Nat → Int
  | [], _ => -1
  | g :: r, i => if g = s then (i : Int) else fdR s r (i + 1)
theorem fdR_is (s : List Nat) : ∀ (all : List (List Nat)) (k : Nat), fdR s all k = match idxA all s with | some i => ((k + i : Nat) : Int) | none => -1
  | [], _ => rfl
  | g :: r, k => by
    unfold fdR idxA
    rw [List.findIdx?_cons]
    by_cases h : g = s
    · simp [h]
    · have ih := fdR_is s r (k + 1)
      unfold idxA at ih
      simp only [h, decide_false, if_false, Bool.false_eq_true]
      rw [ih]
      rcases List.findIdx? (fun g => decide (g = s)) r with _ | i
      · rfl
      · simp only [Option.map_some]
        rw [show k + 1 + i = k + (i + 1) by omega]
theorem map_nat {a b : List Nat} : decide (a.map (fun v : Nat => (v : Int)) = b.map (fun v : Nat => (v : Int))) = decide (a = b) := by
  refine decide_eq_decide.2 ⟨fun h => ?_, fun h => by rw [h]⟩
  induction a generalizing b with
  | nil =>
    cases b with
    | nil => rfl
    | cons y b => simp at h
  | cons x a ih =>
    cases b with
    | nil => simp at h
    | cons y b =>
      simp only [List.map_cons, List.cons.injEq] at h
      rw [ih h.2, show x = y by omega]

set_option maxRecDepth 100000 in
set_option maxHeartbeats 2000000 in
theorem refFind_any (rs : List NlD) (a : Option Addr) (cap : Nat) (s : List Nat) (sa : Option Addr) (sc : Nat) (w : World) (hr : Sts w a cap rs) (hs : IntsN w sa sc s) :
    Calls Try.prog 39 #[.slice a rs.length cap, .slice sa s.length sc] w fun e w' => e = .returned (.int .i64 (fdR s (rs.map NlD.l) 0)) ∧ Below w.heap.size w w' := by
  have hrl : rs.length ≤ cap ∧ cap ≤ 9223372036854775807 := ⟨hr.le, hr.max⟩
  have hsl : s.length ≤ sc ∧ sc ≤ 9223372036854775807 := ⟨by have := hs.le; rw [List.length_map] at this; exact this, hs.max⟩
  have Hr := Lib.hid hr
  have Hs := Lib.hid hs
  have hSl : Hid ((s.map (fun v : Nat => (v : Int))).length = s.length) := Lib.hid (List.length_map _)
  clear hr hs
  obtain ⟨R, hR⟩ : ∃ R, Hid (fdR s (rs.map NlD.l) 0 = R) := ⟨_, Lib.hid rfl⟩
  obtain ⟨S, hS⟩ : ∃ n, Hid (s.length = n) := ⟨_, Lib.hid rfl⟩
  obtain ⟨N, hN⟩ : ∃ n, Hid (rs.length = n) := ⟨_, Lib.hid rfl⟩
  rw [hS.out] at hSl
  rw [hS.out, hN.out, hR.out]
  rw [hS.out] at hsl
  rw [hN.out] at hrl
  go_enter Try.func39, Try.ntmps39
  go_wp2_with (fail)
  go_loopw [5, 6, 9] (fun _ _ iv wr => ∃ k : Nat, k ≤ N ∧ iv = .int .i64 (k : Int) ∧ Hid (R = fdR s ((rs.map NlD.l).drop k) k) ∧ Below w.heap.size w wr) (fun _ _ iv _ => N - (intOf iv).toNat)
  case atStart => exact ⟨0, Nat.zero_le _, rfl, Lib.hid hR.out.symm, Below.refl _ w⟩
  case round =>
    obtain ⟨k, hk, rfl, HK, hbr⟩ := hrel
    by_cases hlt : k < N
    · have hkI : (k : Int) < (N : Int) := by omega
      have hkI0 : (0 : Int) ≤ (k : Int) := by omega
      have hkl : k < rs.length := by rw [hN.out]; exact hlt
      obtain ⟨b, off, rfl⟩ := Hr.out.at_ k hkl
      have c0 := (Hr.out.grown hbr).cell b off rfl k hkl
      have hin := (Hr.out.ints _ (List.getElem_mem hkl)).grown hbr
      have hdr : Hid (R = fdR s (rs[k].l :: (rs.map NlD.l).drop (k + 1)) k) := Lib.hid (by
        rw [HK.out, List.drop_eq_getElem_cons (by rw [List.length_map]; exact hkl), List.getElem_map])
      obtain ⟨d, hd⟩ : ∃ v, Hid (rs[k] = v) := ⟨_, Lib.hid rfl⟩
      rw [hd.out] at c0 hin hdr
      obtain ⟨dl, da, dc⟩ := d
      dsimp only at c0 hin hdr
      have hbl := World.block_lt_of_cell? _ _ c0
      have hcall := sameInts_any da sa dc sc _ _ wr hin (Ints.grown Hs.out hbr)
      rw [map_nat, hSl.out, List.length_map] at hcall
      obtain ⟨D, hD⟩ : ∃ n, Hid (dl.length = n) := ⟨_, Lib.hid rfl⟩
      rw [hD.out] at hcall c0
      have HC := Lib.hid hcall
      obtain ⟨q, hq⟩ : ∃ q, Hid (decide (dl = s) = q) := ⟨_, Lib.hid rfl⟩
      rw [hq.out] at HC
      have HBr := Lib.hid hbr
      clear hbr hin hcall
      go_wp2_with (fail)
      refine HC.out.mono ?_
      rintro e w2 ⟨rfl, hb2⟩
      have HB2 := Lib.hid (HBr.out.trans (hb2.mono HBr.out.size))
      clear hb2
      cases q
      case true =>
        have HF : Hid (R = (k : Int)) := Lib.hid (by rw [hdr.out, fdR, if_pos (of_decide_eq_true hq.out)])
        go_wp2_with (fail)
        exact bodyPost_ret (v := .int .i64 (k : Int)) (by simp [results, Try.results39, go_sem]; try rfl) rfl ⟨by rw [HF.out], HB2.out⟩
      case false =>
        have HF : Hid (R = fdR s ((rs.map NlD.l).drop (k + 1)) (k + 1)) := Lib.hid (by rw [hdr.out, fdR, if_neg (of_decide_eq_false hq.out)])
        go_wp2_with (fail)
        exact ⟨⟨k + 1, by omega, by simp, HF, HB2.out⟩, by simp [intOf]; omega⟩
    · obtain rfl : N = k := by omega
      have hkI : ¬ (N : Int) < (N : Int) := by omega
      have HF : Hid (R = -1) := Lib.hid (by rw [HK.out, List.drop_eq_nil_of_le (by rw [List.length_map, hN.out]; exact Nat.le_refl _)]; rfl)
      have HBr := Lib.hid hbr
      clear hbr
      go_wp2_with (fail)
      exact bodyPost_ret (v := .int .i64 (-1)) (by simp [results, Try.results39, go_sem]; try rfl) rfl ⟨by rw [HF.out], HBr.out⟩
end Go.Proofs.Ytngbfjimmdkfeaa

namespace Go.Proofs.Ytngbfjimmdkfeaa
open Go.RowKit Go.Shelf

attribute [local go_sem] Oper.semAt_some

/-- A slice lies in no block ahead of one. -/
def FrA (X : Nat) (a : Option Addr) : Prop := ∀ b off, a = some ⟨b, off, none⟩ → X ≤ b

set_option maxRecDepth 100000 in
set_option maxHeartbeats 2000000 in
theorem refWithF_any (l : List Nat) (n : Nat) (a : Option Addr) (cap : Nat) (w : World) (hl : IntsN w a cap l) (hll : l.length ≤ 1000000) (hn : n ≤ 1000000000) (hm : ∀ v ∈ l, v ≤ 1000000000) :
    Calls Try.prog 28 #[.slice a l.length cap, .int .i64 (n : Int)] w fun e w' => (∃ oa oc, e = .returned (.slice oa (withP l n).length oc) ∧ IntsN w' oa oc (withP l n) ∧ (oa = a ∨ FrA w.heap.size oa)) ∧ Below w.heap.size w w' := by
  have hle := hl.le
  have hmx := hl.max
  rw [List.length_map] at hle
  have HI := Lib.hid (inI_any l a cap n w hl)
  obtain ⟨L, HL⟩ : ∃ L, Hid (l.length = L) := ⟨_, Lib.hid rfl⟩
  obtain ⟨B, hB⟩ : ∃ B, Hid (decide (n ∈ l) = B) := ⟨_, Lib.hid rfl⟩
  rw [hB.out, HL.out] at HI
  rw [HL.out] at hle hll ⊢
  have hnI : (n : Int) ≤ 1000000000 := by omega
  have hnI0 : (0 : Int) ≤ (n : Int) := by omega
  have Hl := Lib.hid hl
  have Hm := Lib.hid hm
  clear hl hm
  go_enter Try.func28, Try.ntmps28
  go_wp2_with (fail)
  refine HI.out.mono ?_
  rintro e w1 ⟨rfl, rfl⟩
  cases B
  case true =>
    have HW : Hid (withP l n = l) := Lib.hid (by rw [withP, if_pos (of_decide_eq_true hB.out)])
    go_wp2_with (fail)
    exact bodyPost_ret (v := .slice a L cap) (by simp [results, Try.results28, go_sem]; try rfl) rfl ⟨⟨a, cap, by rw [HW.out, HL.out], by rw [HW.out]; exact Hl.out, .inl rfl⟩, Below.refl _ _⟩
  have HW : Hid (withP l n = l.filter (fun a => decide (a < n)) ++ [n] ++ l.filter (fun a => decide (n < a))) := Lib.hid (by rw [withP, if_neg (of_decide_eq_false hB.out)])
  obtain ⟨BW, hBW⟩ : ∃ n, Hid (w1.heap.size = n) := ⟨_, Lib.hid rfl⟩
  go_wp2_with (fail)
  go_loopw [5, 7, 16] (fun ov _ iv wr => ∃ (k : Nat) (ra : Option Addr) (rc : Nat) (r : List Nat), k ≤ L ∧ iv = .int .i64 (k : Int) ∧ ov = .slice ra r.length rc ∧ OwnI wr w1.heap.size ra r.length rc r ∧ r = (l.take k).filter (fun a => decide (a < n)) ∧ r.length ≤ k ∧ Below w1.heap.size w1 wr) (fun _ _ iv _ => L - (intOf iv).toNat)
  case atStart => exact ⟨0, none, 0, [], Nat.zero_le _, rfl, rfl, World.ownsRow_nil _ _ _ _, rfl, Nat.le_refl _, Below.refl _ _⟩
  case round =>
    obtain ⟨k, ra, rc, r, hk, rfl, rfl, hor, hr, hrl, hbr⟩ := hrel
    have Hr := Lib.hid hr
    clear hr
    by_cases hlt : k < L
    · have hkI : (k : Int) < (L : Int) := by omega
      have hkI0 : (0 : Int) ≤ (k : Int) := by omega
      have hkl : k < l.length := by rw [HL.out]; exact hlt
      obtain ⟨b, off, rfl⟩ := Hl.out.at_ k (by rw [List.length_map]; exact hkl)
      have c0 := (Hl.out.grown hbr).cell b off rfl k (by rw [List.length_map]; exact hkl)
      rw [List.getElem_map] at c0
      have hvm := Hm.out _ (List.getElem_mem hkl)
      have Hts := Lib.hid (take_step hkl (fun a => decide (a < n)))
      obtain ⟨v, hv⟩ : ∃ v, Hid (l[k] = v) := ⟨_, Lib.hid rfl⟩
      rw [hv.out] at c0 hvm Hts
      have hbl := World.block_lt_of_cell? _ _ c0
      have hwfs : (Lit.int .i64 (v : Int)).wf = true := WalkArith.wf_i64 (by omega)
      by_cases hlv : v < n
      · have hlI : (v : Int) < (n : Int) := by omega
        obtain ⟨ra', rc', w', hr6, ho6, hg6, hn6⟩ := run_pushI wr 23 v (.int .i64 (v : Int)) rfl hor (by omega) hbr.size
        have Hr6 := Lib.hid hr6
        have HQ : Hid (OwnI w' w1.heap.size ra' (r ++ [v]).length rc' (r ++ [v]) ∧ (r ++ [v]) = (l.take (k + 1)).filter (fun a => decide (a < n)) ∧ (r ++ [v]).length ≤ k + 1 ∧ Below w1.heap.size w1 w') := Lib.hid ⟨by rw [List.length_append]; exact ho6, by rw [Hts.out, ← Hr.out, if_pos (decide_eq_true hlv)], by rw [List.length_append]; exact Nat.add_le_add_right hrl 1, hbr.grown hg6 hbr.size (fun i e => (hor.typ i e).1)⟩
        clear hr6 ho6 hg6 hn6 hor hbr
        go_wp2_with (at_builtin; refine wpList_append_run rfl _ _ 23 23 rfl _ _ _ _ rfl rfl Hr6.out ?_)
        exact ⟨⟨k + 1, ra', rc', r ++ [v], by omega, by simp, by simp, HQ.out⟩, by simp [intOf]; omega⟩
      · have hlI : ¬ (v : Int) < (n : Int) := by omega
        have HQ : Hid (OwnI wr w1.heap.size ra r.length rc r ∧ r = (l.take (k + 1)).filter (fun a => decide (a < n)) ∧ r.length ≤ k + 1 ∧ Below w1.heap.size w1 wr) := Lib.hid ⟨hor, by rw [Hts.out, ← Hr.out, if_neg (by simpa using hlv), List.append_nil], by omega, hbr⟩
        clear hor hbr
        go_wp2_with (fail)
        exact ⟨⟨k + 1, ra, rc, r, by omega, by simp, rfl, HQ.out⟩, by simp [intOf]; omega⟩
    · obtain rfl : L = k := by omega
      have hkI : ¬ (L : Int) < (L : Int) := by omega
      have Hr0 : Hid (r = l.filter (fun a => decide (a < n))) := Lib.hid (by rw [Hr.out, List.take_of_length_le (by rw [HL.out]; exact Nat.le_refl _)])
      obtain ⟨ra', rc', w', hr6, ho6, hg6, hn6⟩ := run_pushI wr 23 n (.int .i64 (n : Int)) rfl hor (by omega) hbr.size
      have Hr6 := Lib.hid hr6
      have HO6 : Hid (OwnI w' w1.heap.size ra' (r ++ [n]).length rc' (r ++ [n])) := Lib.hid (by rw [List.length_append]; exact ho6)
      have Hb6 := Lib.hid (hbr.grown hg6 hbr.size (fun i e => (hor.typ i e).1))
      clear hr6 ho6 hg6 hn6 hor hbr Hr
      obtain ⟨A, hA⟩ : ∃ A, Hid (r ++ [n] = A) := ⟨_, Lib.hid rfl⟩
      have hAl : A.length ≤ L + 1 := by rw [← hA.out, List.length_append]; exact Nat.add_le_add_right hrl 1
      have hAr : r.length + 1 = A.length := by rw [← hA.out, List.length_append]; rfl
      rw [hA.out] at HO6
      rw [hAr] at Hr6
      clear hAr
      go_wp2_with (at_builtin; refine wpList_append_run rfl _ _ 23 23 rfl _ _ _ _ rfl rfl Hr6.out ?_)
      go_loopw [5, 9, 34] (fun ov _ iv wr => ∃ (k : Nat) (ra : Option Addr) (rc : Nat) (r : List Nat), k ≤ L ∧ iv = .int .i64 (k : Int) ∧ ov = .slice ra r.length rc ∧ OwnI wr w1.heap.size ra r.length rc r ∧ r = A ++ (l.take k).filter (fun a => decide (n < a)) ∧ r.length ≤ L + 1 + k ∧ Below w1.heap.size w1 wr) (fun _ _ iv _ => L - (intOf iv).toNat)
      case atStart => exact ⟨0, ra', rc', A, Nat.zero_le _, rfl, rfl, HO6.out, by simp, hAl, Hb6.out⟩
      case round =>
        obtain ⟨k, ra, rc, r, hk, rfl, rfl, hor, hr, hrl, hbr⟩ := hrel
        have Hr := Lib.hid hr
        clear hr
        by_cases hlt : k < L
        · have hkI : (k : Int) < (L : Int) := by omega
          have hkI0 : (0 : Int) ≤ (k : Int) := by omega
          have hkl : k < l.length := by rw [HL.out]; exact hlt
          obtain ⟨b, off, rfl⟩ := Hl.out.at_ k (by rw [List.length_map]; exact hkl)
          have c0 := (Hl.out.grown hbr).cell b off rfl k (by rw [List.length_map]; exact hkl)
          rw [List.getElem_map] at c0
          have hvm := Hm.out _ (List.getElem_mem hkl)
          have Hts := Lib.hid (take_step hkl (fun a => decide (n < a)))
          obtain ⟨v, hv⟩ : ∃ v, Hid (l[k] = v) := ⟨_, Lib.hid rfl⟩
          rw [hv.out] at c0 hvm Hts
          have hbl := World.block_lt_of_cell? _ _ c0
          have hwfs : (Lit.int .i64 (v : Int)).wf = true := WalkArith.wf_i64 (by omega)
          by_cases hlv : n < v
          · have hlI : (n : Int) < (v : Int) := by omega
            obtain ⟨ra', rc', w', hr6, ho6, hg6, hn6⟩ := run_pushI wr 23 v (.int .i64 (v : Int)) rfl hor (by omega) hbr.size
            have Hr6 := Lib.hid hr6
            have HQ : Hid (OwnI w' w1.heap.size ra' (r ++ [v]).length rc' (r ++ [v]) ∧ (r ++ [v]) = A ++ (l.take (k + 1)).filter (fun a => decide (n < a)) ∧ (r ++ [v]).length ≤ L + 1 + (k + 1) ∧ Below w1.heap.size w1 w') := Lib.hid ⟨by rw [List.length_append]; exact ho6, by rw [Hts.out, ← List.append_assoc, ← Hr.out, if_pos (decide_eq_true hlv)], by rw [List.length_append]; exact Nat.add_le_add_right hrl 1, hbr.grown hg6 hbr.size (fun i e => (hor.typ i e).1)⟩
            clear hr6 ho6 hg6 hn6 hor hbr
            go_wp2_with (at_builtin; refine wpList_append_run rfl _ _ 23 23 rfl _ _ _ _ rfl rfl Hr6.out ?_)
            exact ⟨⟨k + 1, ra', rc', r ++ [v], by omega, by simp, by simp, HQ.out⟩, by simp [intOf]; omega⟩
          · have hlI : ¬ (n : Int) < (v : Int) := by omega
            have HQ : Hid (OwnI wr w1.heap.size ra r.length rc r ∧ r = A ++ (l.take (k + 1)).filter (fun a => decide (n < a)) ∧ r.length ≤ L + 1 + (k + 1) ∧ Below w1.heap.size w1 wr) := Lib.hid ⟨hor, by rw [Hts.out, if_neg (by simpa using hlv), List.append_nil]; exact Hr.out, by omega, hbr⟩
            clear hor hbr
            go_wp2_with (fail)
            exact ⟨⟨k + 1, ra, rc, r, by omega, by simp, rfl, HQ.out⟩, by simp [intOf]; omega⟩
        · obtain rfl : L = k := by omega
          have hkI : ¬ (L : Int) < (L : Int) := by omega
          have HR : Hid (withP l n = r) := Lib.hid (by rw [HW.out, Hr.out, ← hA.out, Hr0.out, List.take_of_length_le (by rw [HL.out]; exact Nat.le_refl _)])
          have HQ := Lib.hid (And.intro (And.intro hor.ints (show FrA w1.heap.size ra from fun b off e => (hor.typ b (by rw [e]; rfl)).1)) hbr)
          clear hor hbr
          go_wp2_with (fail)
          exact bodyPost_ret (v := .slice ra r.length rc) (by simp [results, Try.results28, go_sem]; try rfl) rfl ⟨⟨ra, rc, by rw [HR.out], by rw [HR.out]; exact HQ.out.1.1, .inr HQ.out.1.2⟩, HQ.out.2⟩
end Go.Proofs.Ytngbfjimmdkfeaa

namespace Go.Proofs.Ytngbfjimmdkfeaa
open Go.RowKit Go.Shelf

attribute [local go_sem] Oper.semAt_some

set_option maxRecDepth 100000 in
set_option maxHeartbeats 4000000 in
theorem refCloseF_any (x : Nf) (p : NfL) (set : List Nat) (a : Option Addr) (cap : Nat) (w : World) (hx : NfAt w x p) (hl : linkB x = true) (hs : IntsN w a cap set) (hr : Rising set) (hlt : ∀ v ∈ set, v < x.n.toNat) :
    Calls Try.prog 37 #[.agg #[.int .i64 x.n, .int .i64 x.s, .slice p.ea x.ends.length p.ec, .slice p.ga x.es.length p.gc], .slice a set.length cap] w fun e w' => (∃ oa oc out, e = .returned (.slice oa out.length oc) ∧ IntsN w' oa oc out ∧ Rising out ∧ (∀ v, v ∈ out ↔ Rn x (· ∈ set) v) ∧ ∀ v ∈ out, v < x.n.toNat) ∧ Below w.heap.size w w' ∧ ∀ oa n oc, e = .returned (.slice oa n oc) → FrA w.heap.size oa := by
  have hn : x.n.toNat ≤ 2000 := by
    unfold linkB at hl
    simp only [Bool.and_eq_true, decide_eq_true_eq] at hl
    omega
  have hC0 : CloI x set set := ⟨hr, fun _ h => h, fun _ h => .base h, hlt⟩
  have hsl := hC0.len
  have hsle := hs.le
  have hsmx := hs.max
  rw [List.length_map] at hsle
  have hG1 := hx.es.le
  have hG2 := hx.es.max
  have Hx := Lib.hid hx
  have HL := Lib.hid hl
  obtain ⟨ea, ec, ga, gc⟩ := p
  dsimp only at *
  obtain ⟨N, hN⟩ : ∃ N, Hid (x.n.toNat = N) := ⟨_, Lib.hid rfl⟩
  obtain ⟨E, hE⟩ : ∃ E, Hid (x.ends.length = E) := ⟨_, Lib.hid rfl⟩
  obtain ⟨G, hG⟩ : ∃ G, Hid (x.es.length = G) := ⟨_, Lib.hid rfl⟩
  obtain ⟨xn, hxn⟩ : ∃ n, Hid (x.n = n) := ⟨_, Lib.hid rfl⟩
  obtain ⟨xs, hxs⟩ : ∃ n, Hid (x.s = n) := ⟨_, Lib.hid rfl⟩
  rw [hN.out] at hn hsl
  rw [hG.out] at hG1
  have hA0 := Blk.new w 32 #[.int .i64 xn, .int .i64 xs, .slice ea E ec, .slice ga G gc]
  have hb0 : Below w.heap.size w (w.alloc (.cells #[.int .i64 xn, .int .i64 xs, .slice ea E ec, .slice ga G gc] 32)) := (Below.refl _ w).alloc (Nat.le_refl _) _
  obtain ⟨a1, c1, w1, hr1, ho1, hb1⟩ := run_appI (w.alloc (.cells #[.int .i64 xn, .int .i64 xs, .slice ea E ec, .slice ga G gc] 32)) 23 a cap set (hs.grown hb0) (by omega)
  have Hr1 := Lib.hid hr1
  have HF1 : Hid (FrA w.heap.size a1) := Lib.hid (fun b off e => Nat.le_trans hb0.size ((ho1.typ b (by rw [e]; rfl)).1))
  have hA1 := hA0.below hb1 hA0.lt
  have hbw1 := hb0.trans (hb1.mono hb0.size)
  have hI1 : IntsN w1 a1 c1 set := ho1.ints
  have HC0 := Lib.hid hC0
  obtain ⟨S, hS⟩ : ∃ S, Hid (set.length = S) := ⟨_, Lib.hid rfl⟩
  have HI1 := Lib.hid hI1
  rw [hS.out] at Hr1
  suffices hgoal : Calls Try.prog 37 #[.agg #[.int .i64 xn, .int .i64 xs, .slice ea E ec, .slice ga G gc], .slice a S cap] w fun e w' => ∃ oa oc out, e = .returned (.slice oa out.length oc) ∧ (IntsN w' oa oc out ∧ CloI x set out ∧ Shut x x.es.length out) ∧ Below w.heap.size w w' ∧ FrA w.heap.size oa by
    rw [hxn.out, hxs.out, hE.out, hG.out, hS.out]
    exact hgoal.mono (fun e w' ⟨oa, oc, out, h1, ⟨h2, h3, h4⟩, h5, h6⟩ => ⟨⟨oa, oc, out, h1, h2, h3.ris, h4.all h3, by rw [← hxn.out]; exact h3.lt⟩, h5, fun oa' n oc' he => (by rw [h1] at he; simp only [Ending.returned.injEq, Value.slice.injEq] at he; rw [← he.1]; exact h6)⟩)
  rw [hG.out]
  clear hx hs hr hlt hl hC0 hr1 ho1 hb1 hb0 hA0 hI1
  obtain ⟨B1, hB1⟩ : ∃ n, Hid (w.heap.size = n) := ⟨_, Lib.hid rfl⟩
  rw [hB1.out] at hA1 HF1
  have HA1 := Lib.hid hA1
  have Hbw1 := Lib.hid hbw1
  clear hA1 hbw1
  go_enter Try.func37, Try.ntmps37
  go_wp2_with (at_builtin; refine wpList_append_run rfl _ _ 23 23 rfl _ _ _ _ rfl rfl Hr1.out ?_)
  simp only [hB1.out]
  go_loopw [5, 6, 8, 16] (fun ov _ _ _ wr => ∃ (ra : Option Addr) (rc : Nat) (out : List Nat), ov = .slice ra out.length rc ∧ (IntsN wr ra rc out ∧ CloI x set out) ∧ Below w.heap.size w wr ∧ Blk wr B1 32 [.int .i64 xn, .int .i64 xs, .slice ea E ec, .slice ga G gc] ∧ FrA B1 ra) (fun ov _ _ _ _ => N - slLen ov)
  case atStart => exact ⟨a1, c1, set, by rw [hS.out], ⟨HI1.out, HC0.out⟩, Hbw1.out, HA1.out, HF1.out⟩
  case round =>
    obtain ⟨ra, rc, o0, rfl, hIC, hbr, hA, hFr⟩ := hrel
    have HFr := Lib.hid hFr
    have HIC := Lib.hid hIC
    have Hbr := Lib.hid hbr
    have HA := Lib.hid hA
    have ho0 := hIC.2.len
    rw [hN.out] at ho0
    have x3 := hA.cell 3
    have xl := hA.lt
    simp only [List.getElem?_cons_zero, List.getElem?_cons_succ] at x3
    clear hIC hbr hA hFr
    obtain ⟨O, hO⟩ : ∃ O, Hid (o0.length = O) := ⟨_, Lib.hid rfl⟩
    rw [hO.out] at ho0
    simp only [hO.out]
    have hOI : (O : Int) ≤ 2000 := by omega
    go_wp2_with (fail)
    go_loopw [5, 8, 16] (fun ov _ iv wr' => ∃ (k : Nat) (ra : Option Addr) (rc : Nat) (out : List Nat), k ≤ G ∧ iv = .int .i64 (k : Int) ∧ ov = .slice ra out.length rc ∧ (IntsN wr' ra rc out ∧ PasI x set o0 k out) ∧ Below w.heap.size w wr' ∧ Blk wr' B1 32 [.int .i64 xn, .int .i64 xs, .slice ea E ec, .slice ga G gc] ∧ FrA B1 ra) (fun _ _ iv _ => G - (intOf iv).toNat)
    case atStart => exact ⟨0, ra, rc, o0, Nat.zero_le _, rfl, by rw [hO.out], ⟨HIC.out.1, HIC.out.2, Nat.le_refl _, fun _ => ⟨rfl, fun j hj => by omega⟩⟩, Hbr.out, HA.out, HFr.out⟩
    case round =>
      obtain ⟨k, ra, rc, out, hk, rfl, rfl, hIP, hbr, hA, hFr⟩ := hrel
      have HFr := Lib.hid hFr
      clear hFr
      have hol := hIP.2.cl.len
      rw [hN.out] at hol
      have hole := hIP.2.le
      rw [hO.out] at hole
      have hoc := hIP.1.le
      have hocm := hIP.1.max
      rw [List.length_map] at hoc
      have x3 := hA.cell 3
      have xl := hA.lt
      simp only [List.getElem?_cons_zero, List.getElem?_cons_succ] at x3
      by_cases hlt : k < G
      · have hkI : (k : Int) < (G : Int) := by omega
        have hkI0 : (0 : Int) ≤ (k : Int) := by omega
        have hkl : k < x.es.length := by rw [hG.out]; exact hlt
        obtain ⟨b, off, rfl⟩ := Hx.out.es.at_ k hkl
        obtain ⟨c0, c1, sa, sc, c2, hsp⟩ := ((Hx.out.es.grown hbr).cell b off rfl k hkl)
        obtain ⟨⟨f, hf, hfn⟩, ⟨t, ht, htn⟩⟩ := link_ends HL.out (List.getElem_mem hkl)
        have hek := List.getElem?_eq_getElem hkl
        obtain ⟨v, hv⟩ : ∃ v, Hid (x.es[k] = v) := ⟨_, Lib.hid rfl⟩
        rw [hv.out] at c0 c1 c2 hsp hf ht hek
        obtain ⟨ef, et, q⟩ := v
        dsimp only at c0 c1 c2 hsp hf ht
        subst hf ht
        have hbl := World.block_lt_of_cell? _ _ c0
        have hql : q.length ≤ sc ∧ sc ≤ 9223372036854775807 := ⟨hsp.le, hsp.max⟩
        have Hek := Lib.hid hek
        have HP := Lib.hid hIP.2
        have hbd := (Below.refl wr.heap.size wr).alloc (Nat.le_refl _) (.cells #[.int .i64 (f : Int), .int .i64 (t : Int), .slice sa q.length sc] 61)
        have HId := Lib.hid (hIP.1.grown hbd)
        have HB := Lib.hid (hbr.trans (hbd.mono hbr.size))
        have HAd := Lib.hid (hA.below hbd hA.lt)
        have hA5 := Blk.new wr 61 #[.int .i64 (f : Int), .int .i64 (t : Int), .slice sa q.length sc]
        obtain ⟨Q, hQ⟩ : ∃ Q, Hid (q.length = Q) := ⟨_, Lib.hid rfl⟩
        rw [hQ.out] at c2 hql hA5 HId HB HAd
        have Hfn := Lib.hid hfn
        have Htn := Lib.hid htn
        have hwf1 : (Lit.int .i64 (f : Int)).wf = true := WalkArith.wf_i64 (by rw [hN.out] at hfn; omega)
        have hwf2 : (Lit.int .i64 (t : Int)).wf = true := WalkArith.wf_i64 (by rw [hN.out] at htn; omega)
        have z0 := hA5.cell 0
        have z1 := hA5.cell 1
        have z2 := hA5.cell 2
        have zl := hA5.lt
        simp only [List.getElem?_cons_zero, List.getElem?_cons_succ] at z0 z1 z2
        have Hno : Hid (Q ≠ 0 ∨ f ∉ out → PasI x set o0 (k + 1) out) := Lib.hid (fun h => ⟨HP.out.cl, HP.out.le, fun he => by
          obtain ⟨e1, e2⟩ := HP.out.eq he
          refine ⟨e1, e2.next Hek.out (fun hq a b ha hb hm => ?_)⟩
          dsimp only at hq ha hb
          subst hq
          have h0 : Q = 0 := by rw [← hQ.out]; rfl
          have hfa : f = a := by omega
          subst hfa
          rw [← e1] at hm
          exact absurd hm (h.resolve_left (fun h => h h0))⟩)
        clear hek hfn htn hbd hbr hA hsp hIP hA5
        by_cases hq0 : Q = 0
        · subst hq0
          have HIn := Lib.hid (inI_any out ra rc f _ HId.out)
          obtain ⟨B, hB⟩ : ∃ B, Hid (decide (f ∈ out) = B) := ⟨_, Lib.hid rfl⟩
          rw [hB.out] at HIn
          obtain ⟨OL, hOL⟩ : ∃ n, Hid (out.length = n) := ⟨_, Lib.hid rfl⟩
          rw [hOL.out] at HIn hol hole hoc
          simp only [hOL.out]
          go_wp2_with (fail)
          refine HIn.out.mono ?_
          rintro e w5 ⟨rfl, rfl⟩
          cases B
          case false =>
            have HN := Lib.hid (Hno.out (.inr (of_decide_eq_false hB.out)))
            go_wp2_with (fail)
            exact ⟨⟨k + 1, ra, rc, out, by omega, by simp, by rw [hOL.out], ⟨HId.out, HN.out⟩, HB.out, HAd.out, HFr.out⟩, by simp [intOf]; omega⟩
          case true =>
            have HWi := Lib.hid (refWithF_any out t ra rc _ HId.out (by rw [hOL.out]; omega) (by have := Htn.out; rw [hN.out] at this; omega) (fun v hv => by have := HP.out.cl.lt v hv; rw [hN.out] at this; omega))
            have HN : Hid (PasI x set o0 (k + 1) (withP out t)) := Lib.hid (by
              have hfo : f ∈ out := of_decide_eq_true hB.out
              have hq0 : q = [] := List.length_eq_zero_iff.1 hQ.out
              refine ⟨HP.out.cl.add hfo ⟨_, List.mem_of_getElem? Hek.out, hq0, rfl, rfl⟩ Htn.out, ?_, fun he => ?_⟩
              · have := HP.out.le
                rcases withP_len out t with ⟨_, h⟩ | h <;> rw [h] <;> omega
              · have h1 := HP.out.le
                rcases withP_len out t with ⟨hto, h⟩ | h
                · rw [h] at he ⊢
                  obtain ⟨e1, e2⟩ := HP.out.eq he
                  refine ⟨e1, e2.next Hek.out (fun _ a b ha hb _ => ?_)⟩
                  dsimp only at ha hb
                  have : t = b := by omega
                  rw [← e1, ← this]; exact hto
                · rw [h] at he; omega)
            rw [hOL.out] at HWi
            go_wp2_with (fail)
            refine HWi.out.mono ?_
            rintro e w6 ⟨⟨oa, oc, rfl, hi6, hf6⟩, hb6⟩
            have HF6 : Hid (FrA B1 oa) := Lib.hid (hf6.elim (fun e => e ▸ HFr.out) (fun h b off e => Nat.le_trans (by have := HB.out.size; rw [hB1.out] at this; exact this) (h b off e)))
            have HI6 := Lib.hid hi6
            have HB6 := Lib.hid (HB.out.trans (hb6.mono HB.out.size))
            have HA6 := Lib.hid (HAd.out.below hb6 HAd.out.lt)
            clear hi6 hb6 hf6 HWi
            go_wp2_with (fail)
            exact ⟨⟨k + 1, oa, oc, withP out t, by omega, by simp, rfl, ⟨HI6.out, HN.out⟩, HB6.out, HA6.out, HF6.out⟩, by simp [intOf]; omega⟩
        · have hqI : ¬ (Q : Int) = 0 := by omega
          have HN := Lib.hid (Hno.out (.inl hq0))
          go_wp2_with (fail)
          exact ⟨⟨k + 1, ra, rc, out, by omega, by simp, rfl, ⟨HId.out, HN.out⟩, HB.out, HAd.out, HFr.out⟩, by simp [intOf]; omega⟩
      · obtain rfl : G = k := by omega
        have hkI : ¬ (G : Int) < (G : Int) := by omega
        have HIP := Lib.hid hIP
        have HB := Lib.hid hbr
        have HAd := Lib.hid hA
        obtain ⟨OL, hOL⟩ : ∃ n, Hid (out.length = n) := ⟨_, Lib.hid rfl⟩
        rw [hOL.out] at hol hole hoc
        simp only [hOL.out]
        clear hIP hbr hA x3 xl
        by_cases heq : OL = O
        · subst heq
          have HR : Hid (∃ oa oc out', Ending.returned (.slice ra OL rc) = .returned (.slice oa out'.length oc) ∧ (IntsN wr oa oc out' ∧ CloI x set out' ∧ Shut x G out') ∧ Below w.heap.size w wr ∧ FrA w.heap.size oa) := Lib.hid ⟨ra, rc, out, by rw [hOL.out], ⟨HIP.out.1, HIP.out.2.cl, by
            obtain ⟨e1, e2⟩ := HIP.out.2.eq (by rw [hOL.out, hO.out])
            rw [e1]; exact e2⟩, HB.out, by rw [hB1.out]; exact HFr.out⟩
          go_wp2_with (fail)
          exact bodyPost_ret (v := .slice ra OL rc) (by simp [results, Try.results37, go_sem]; try rfl) rfl HR.out
        · have hqI : ¬ (OL : Int) = (O : Int) := by omega
          go_wp2_with (fail)
          exact ⟨⟨ra, rc, out, by rw [hOL.out], ⟨HIP.out.1, HIP.out.2.cl⟩, HB.out, HAd.out, HFr.out⟩, by simp [slLen]; omega⟩
end Go.Proofs.Ytngbfjimmdkfeaa

namespace Go.Proofs.Ytngbfjimmdkfeaa
open Go.RowKit Go.Shelf

attribute [local go_sem] Oper.semAt_some

set_option maxRecDepth 100000 in
set_option maxHeartbeats 4000000 in
theorem refStepF_any (x : Nf) (p : NfL) (set : List Nat) (a : Option Addr) (cap c : Nat) (w : World) (hx : NfAt w x p) (hl : linkB x = true) (hs : IntsN w a cap set) (hr : Rising set) (hlt : ∀ v ∈ set, v < x.n.toNat) (hc : c < 256) :
    Calls Try.prog 38 #[.agg #[.int .i64 x.n, .int .i64 x.s, .slice p.ea x.ends.length p.ec, .slice p.ga x.es.length p.gc], .slice a set.length cap, .int .u8 (c : Int)] w fun e w' => ∃ oa oc out, e = .returned (.slice oa out.length oc) ∧ (IntsN w' oa oc out ∧ Rising out ∧ (∀ v, v ∈ out ↔ Rn x (fun b => ∃ a, Rn x (· ∈ set) a ∧ bstep x c a b) v) ∧ ∀ v ∈ out, v < x.n.toNat) ∧ Below w.heap.size w w' ∧ FrA w.heap.size oa := by
  have hn : x.n.toNat ≤ 2000 := by
    unfold linkB at hl
    simp only [Bool.and_eq_true, decide_eq_true_eq] at hl
    omega
  have hG1 := hx.es.le
  have hG2 := hx.es.max
  have Hx := Lib.hid hx
  have HL := Lib.hid hl
  have HCl := Lib.hid (fun (W : World) (s : List Nat) (sa : Option Addr) (sc : Nat) (h1 : NfAt W x p) (h2 : IntsN W sa sc s) (h3 : Rising s) (h4 : ∀ v ∈ s, v < x.n.toNat) => refCloseF_any x p s sa sc W h1 hl h2 h3 h4)
  obtain ⟨ea, ec, ga, gc⟩ := p
  dsimp only at *
  have hb0 : Below w.heap.size w (w.alloc (.cells #[.int .i64 x.n, .int .i64 x.s, .slice ea x.ends.length ec, .slice ga x.es.length gc] 32)) := (Below.refl _ w).alloc (Nat.le_refl _) _
  have HC1 := Lib.hid (HCl.out _ set a cap (hx.grown hb0) (hs.grown hb0) hr hlt)
  obtain ⟨N, hN⟩ : ∃ N, Hid (x.n.toNat = N) := ⟨_, Lib.hid rfl⟩
  obtain ⟨E, hE⟩ : ∃ E, Hid (x.ends.length = E) := ⟨_, Lib.hid rfl⟩
  obtain ⟨G, hG⟩ : ∃ G, Hid (x.es.length = G) := ⟨_, Lib.hid rfl⟩
  obtain ⟨xn, hxn⟩ : ∃ n, Hid (x.n = n) := ⟨_, Lib.hid rfl⟩
  obtain ⟨xs, hxs⟩ : ∃ n, Hid (x.s = n) := ⟨_, Lib.hid rfl⟩
  obtain ⟨S, hS⟩ : ∃ S, Hid (set.length = S) := ⟨_, Lib.hid rfl⟩
  have hcI : (c : Int) ≤ 255 := by omega
  have hcI0 : (0 : Int) ≤ (c : Int) := by omega
  obtain ⟨T, hT⟩ : ∃ T : List Nat → Prop, Hid (T = fun out => Rising out ∧ (∀ v, v ∈ out ↔ Rn x (fun b => ∃ a, Rn x (· ∈ set) a ∧ bstep x c a b) v) ∧ ∀ v ∈ out, v < x.n.toNat) := ⟨_, Lib.hid rfl⟩
  suffices hgoal : Calls Try.prog 38 #[.agg #[.int .i64 xn, .int .i64 xs, .slice ea E ec, .slice ga G gc], .slice a S cap, .int .u8 (c : Int)] w fun e w' => ∃ oa oc out, e = .returned (.slice oa out.length oc) ∧ (IntsN w' oa oc out ∧ T out) ∧ Below w.heap.size w w' ∧ FrA w.heap.size oa by
    rw [hS.out, ← hxn.out, ← hxs.out, ← hE.out, ← hG.out, hT.out] at *
    exact hgoal
  rw [hN.out] at hn
  rw [hG.out] at hG1
  rw [hE.out, hG.out, hxn.out, hxs.out, hS.out] at HC1
  rw [hE.out, hG.out, hxn.out, hxs.out] at hb0 HCl
  have hA0 := Blk.new w 32 #[.int .i64 xn, .int .i64 xs, .slice ea E ec, .slice ga G gc]
  have x0 := hA0.cell 0
  have x1 := hA0.cell 1
  have x2 := hA0.cell 2
  have x3 := hA0.cell 3
  have xl := hA0.lt
  simp only [List.getElem?_cons_zero, List.getElem?_cons_succ] at x0 x1 x2 x3
  clear hx hs hr hlt hl
  go_enter Try.func38, Try.ntmps38
  go_wp2_with (fail)
  refine HC1.out.mono ?_
  rintro e w1 ⟨⟨sa1, sc1, s1, rfl, hi1, hr1, hm1, hl1⟩, hb1, _⟩
  have hm1' : ∀ v ∈ s1, v < N := fun v hv => by have := hl1 v hv; rw [← hxn.out, hN.out] at this; exact this
  have hs1l : s1.length ≤ N := rising_len s1 0 N hr1 (fun v hv => ⟨Nat.zero_le _, hm1' v hv⟩)
  have hA1 := hA0.below hb1 hA0.lt
  have hbw1 := hb0.trans (hb1.mono hb0.size)
  have Hm1 := Lib.hid hm1
  have Hi1 := Lib.hid hi1
  have HA1 := Lib.hid hA1
  have Hbw1 := Lib.hid hbw1
  have hi1l := hi1.le
  have hi1m := hi1.max
  rw [List.length_map] at hi1l
  clear x0 x1 x2 x3 xl hA0 hb0 hb1 HC1 hi1 hr1 hm1 hl1 hA1 hbw1 hm1'
  obtain ⟨B1, hB1⟩ : ∃ n, Hid (w.heap.size = n) := ⟨_, Lib.hid rfl⟩
  rw [hB1.out] at HA1
  obtain ⟨S1, hS1⟩ : ∃ n, Hid (s1.length = n) := ⟨_, Lib.hid rfl⟩
  rw [hS1.out] at hi1l hs1l
  simp only [hB1.out, hS1.out]
  have x3 := HA1.out.cell 3
  have xl := HA1.out.lt
  simp only [List.getElem?_cons_zero, List.getElem?_cons_succ] at x3
  go_wp2_with (fail)
  go_loopw [7, 9, 16] (fun ov _ iv wr' => ∃ (k : Nat) (ra : Option Addr) (rc : Nat) (out : List Nat), k ≤ G ∧ iv = .int .i64 (k : Int) ∧ ov = .slice ra out.length rc ∧ (IntsN wr' ra rc out ∧ LedTo x c s1 k out) ∧ Below w1.heap.size w1 wr') (fun _ _ iv _ => G - (intOf iv).toNat)
  case atStart => exact ⟨0, none, 0, [], Nat.zero_le _, rfl, rfl, ⟨Ints.nil _, List.Pairwise.nil, fun v h => (by cases h), fun v h => (by cases h), fun j hj => by omega⟩, Below.refl _ _⟩
  case round =>
    obtain ⟨k, ra, rc, out, hk, rfl, rfl, hIP, hbr⟩ := hrel
    have hol := rising_len out 0 _ hIP.2.ris (fun v hv => ⟨Nat.zero_le _, hIP.2.lt v hv⟩)
    rw [hN.out] at hol
    have hoc := hIP.1.le
    have hocm := hIP.1.max
    rw [List.length_map] at hoc
    have Hbw := Lib.hid (Hbw1.out.trans (hbr.mono Hbw1.out.size))
    have hA := HA1.out.below hbr HA1.out.lt
    clear x3 xl
    have x0 := hA.cell 0
    have x1 := hA.cell 1
    have x2 := hA.cell 2
    have x3 := hA.cell 3
    have xl := hA.lt
    simp only [List.getElem?_cons_zero, List.getElem?_cons_succ] at x0 x1 x2 x3
    by_cases hlt : k < G
    · have hkI : (k : Int) < (G : Int) := by omega
      have hkI0 : (0 : Int) ≤ (k : Int) := by omega
      have hkl : k < x.es.length := by rw [hG.out]; exact hlt
      obtain ⟨b, off, rfl⟩ := Hx.out.es.at_ k hkl
      obtain ⟨c0, c1, sa, sc, c2, hsp⟩ := ((Hx.out.es.grown Hbw.out).cell b off rfl k hkl)
      obtain ⟨⟨f, hf, hfn⟩, ⟨t, ht, htn⟩⟩ := link_ends HL.out (List.getElem_mem hkl)
      have hek := List.getElem?_eq_getElem hkl
      obtain ⟨v, hv⟩ : ∃ v, Hid (x.es[k] = v) := ⟨_, Lib.hid rfl⟩
      rw [hv.out] at c0 c1 c2 hsp hf ht hek
      obtain ⟨ef, et, q⟩ := v
      dsimp only at c0 c1 c2 hsp hf ht
      subst hf ht
      have hbl := World.block_lt_of_cell? _ _ c0
      have hql : q.length ≤ sc ∧ sc ≤ 9223372036854775807 := ⟨hsp.le, hsp.max⟩
      have Hek := Lib.hid hek
      have HP := Lib.hid hIP.2
      have hbd := (Below.refl wr.heap.size wr).alloc (Nat.le_refl _) (.cells #[.int .i64 (f : Int), .int .i64 (t : Int), .slice sa q.length sc] 61)
      have HId := Lib.hid (hIP.1.grown hbd)
      have HB := Lib.hid (hbr.trans (hbd.mono hbr.size))
      have HIn := Lib.hid (in_any sa sc q c hc _ (hsp.grown hbd))
      have hA5 := Blk.new wr 61 #[.int .i64 (f : Int), .int .i64 (t : Int), .slice sa q.length sc]
      obtain ⟨Q, hQ⟩ : ∃ Q, Hid (q.length = Q) := ⟨_, Lib.hid rfl⟩
      obtain ⟨OL, hOL⟩ : ∃ n, Hid (out.length = n) := ⟨_, Lib.hid rfl⟩
      obtain ⟨C, hC⟩ : ∃ C, Hid (inSp q c = C) := ⟨_, Lib.hid rfl⟩
      rw [hQ.out] at c2 hql hA5 HId HB HIn
      rw [hC.out] at HIn
      rw [hOL.out] at hol hoc
      simp only [hOL.out]
      have Htn := Lib.hid htn
      have hwf1 : (Lit.int .i64 (f : Int)).wf = true := WalkArith.wf_i64 (by rw [hN.out] at hfn; omega)
      have hwf2 : (Lit.int .i64 (t : Int)).wf = true := WalkArith.wf_i64 (by rw [hN.out] at htn; omega)
      have z0 := hA5.cell 0
      have z1 := hA5.cell 1
      have z2 := hA5.cell 2
      have zl := hA5.lt
      simp only [List.getElem?_cons_zero, List.getElem?_cons_succ] at z0 z1 z2
      have HA5 := Lib.hid hA5
      clear hek hfn htn hbd hbr hA hsp hIP hA5
      go_wp2_with (fail)
      refine HIn.out.mono ?_
      rintro e w5 ⟨rfl, hb5⟩
      have HI5 := Lib.hid (HId.out.grown hb5)
      have HB5 := Lib.hid (HB.out.trans (hb5.mono HB.out.size))
      have hA6 := HA5.out.below hb5 HA5.out.lt
      clear z0 z1 z2 zl hb5 HIn
      have z0 := hA6.cell 0
      have z1 := hA6.cell 1
      have z2 := hA6.cell 2
      have zl := hA6.lt
      simp only [List.getElem?_cons_zero, List.getElem?_cons_succ] at z0 z1 z2
      cases C
      case false =>
        have HN : Hid (LedTo x c s1 (k + 1) out) := Lib.hid (HP.out.skip Hek.out (fun h => by have := hC.out; dsimp only at h; rw [this] at h; cases h))
        clear hA6
        go_wp2_with (fail)
        exact ⟨⟨k + 1, ra, rc, out, by omega, by simp, by rw [hOL.out], ⟨HI5.out, HN.out⟩, HB5.out⟩, by simp [intOf]; omega⟩
      case true =>
        have HIi := Lib.hid (inI_any s1 sa1 sc1 f w5 (Hi1.out.grown HB5.out))
        obtain ⟨B, hB⟩ : ∃ B, Hid (decide (f ∈ s1) = B) := ⟨_, Lib.hid rfl⟩
        rw [hB.out, hS1.out] at HIi
        clear hA6
        go_wp2_with (fail)
        refine HIi.out.mono ?_
        rintro e w6 ⟨rfl, rfl⟩
        cases B
        case false =>
          have HN : Hid (LedTo x c s1 (k + 1) out) := Lib.hid (HP.out.skip Hek.out (fun _ a b ha _ hm => by
            dsimp only at ha
            have : f = a := by omega
            subst this
            exact absurd hm (of_decide_eq_false hB.out)))
          go_wp2_with (fail)
          exact ⟨⟨k + 1, ra, rc, out, by omega, by simp, by rw [hOL.out], ⟨HI5.out, HN.out⟩, HB5.out⟩, by simp [intOf]; omega⟩
        case true =>
          have HWi := Lib.hid (refWith_any out t ra rc _ HI5.out (by rw [hOL.out]; omega) (by have := Htn.out; rw [hN.out] at this; omega) (fun v hv => by have := HP.out.lt v hv; rw [hN.out] at this; omega))
          have HN : Hid (LedTo x c s1 (k + 1) (withP out t)) := Lib.hid (HP.out.add Hek.out hC.out rfl rfl (of_decide_eq_true hB.out) Htn.out)
          rw [hOL.out] at HWi
          go_wp2_with (fail)
          refine HWi.out.mono ?_
          rintro e w7 ⟨⟨oa, oc, rfl, hi6⟩, hb6⟩
          have HI6 := Lib.hid hi6
          have HB6 := Lib.hid (HB5.out.trans (hb6.mono HB5.out.size))
          clear hi6 hb6 HWi
          go_wp2_with (fail)
          exact ⟨⟨k + 1, oa, oc, withP out t, by omega, by simp, rfl, ⟨HI6.out, HN.out⟩, HB6.out⟩, by simp [intOf]; omega⟩
    · obtain rfl : G = k := by omega
      have hkI : ¬ (G : Int) < (G : Int) := by omega
      have HC2 := Lib.hid (HCl.out wr out ra rc (Hx.out.grown Hbw.out) hIP.1 hIP.2.ris (fun v hv => by rw [← hxn.out]; exact hIP.2.lt v hv))
      have HP := Lib.hid hIP.2
      obtain ⟨OL, hOL⟩ : ∃ n, Hid (out.length = n) := ⟨_, Lib.hid rfl⟩
      rw [hOL.out] at hol hoc HC2
      simp only [hOL.out]
      clear hIP hbr hA
      go_wp2_with (fail)
      refine HC2.out.mono ?_
      rintro e w8 ⟨⟨oa, oc, o2, rfl, hi8, hr8, hm8, hl8⟩, hb8, hf8⟩
      have HR : Hid (∃ oa' oc' out', Ending.returned (.slice oa o2.length oc) = .returned (.slice oa' out'.length oc') ∧ (IntsN w8 oa' oc' out' ∧ T out') ∧ Below w.heap.size w w8 ∧ FrA w.heap.size oa') := Lib.hid ⟨oa, oc, o2, rfl, ⟨hi8, by
        rw [hT.out]
        refine ⟨hr8, fun v => ?_, fun v hv => by rw [hxn.out]; exact hl8 v hv⟩
        rw [hm8 v]
        refine Rn.congr (fun b => ?_) v
        have h9 := HP.out
        rw [← hG.out] at h9
        rw [h9.all b]
        exact ⟨fun ⟨a, h1, h2⟩ => ⟨a, (Hm1.out a).1 h1, h2⟩, fun ⟨a, h1, h2⟩ => ⟨a, (Hm1.out a).2 h1, h2⟩⟩⟩, Hbw.out.trans (hb8.mono Hbw.out.size), fun b off e => Nat.le_trans Hbw.out.size (hf8 _ _ _ rfl b off e)⟩
      clear hi8 hr8 hm8 hl8 hb8 hf8 HC2
      go_wp2_with (fail)
      exact bodyPost_ret (v := .slice oa o2.length oc) (by simp [results, Try.results38, go_sem]; try rfl) rfl HR.out
end Go.Proofs.Ytngbfjimmdkfeaa

namespace Go.Proofs.Ytngbfjimmdkfeaa
open Go.RowKit Go.Shelf Go.Maps

attribute [local go_sem] Oper.semAt_some

theorem run_pushMv (w : World) (ty : TypeId) {base : Nat} (d : MvD) (m : Mv) (hd : OwnMv w base d) (hl : d.l.length ≤ 1000) (hbase : base ≤ w.heap.size) :
    ∃ d' : MvD, ∃ w', (Builtin.append_ #[58, 58] ty #[.slice d.a d.l.length d.c, .slice (some ⟨w.heap.size, 0, none⟩) 1 1]).run Try.prog (w.alloc (.cells #[.int .u8 (m.lo : Int), .int .u8 (m.hi : Int), .int .i64 m.to] 57)) = .ok (.slice d'.a (d.l.length + 1) d'.c) w' ∧ d'.l = d.l ++ [m] ∧ OwnMv w' base d' ∧ KpM (fun g => d.v.ownBlock = some g) w w' ∧ ∀ g, d'.v.ownBlock = some g → d.v.ownBlock = some g ∨ w.heap.size ≤ g := by
  obtain ⟨g, cap', w', h1, h2, h3, h4, h5⟩ := run_pushL w 58 ty 57 (.agg #[.int .u8 0, .int .u8 0, .int .i64 0]) 3 16 Try.underlying58 info_move rfl (by decide) m.cells rfl (by intro u hu; simp only [Mv.cells, List.mem_cons, List.not_mem_nil, or_false] at hu; rcases hu with rfl | rfl | rfl <;> rfl) hd (by omega) (by unfold maxLen; omega) hbase
  refine ⟨⟨d.l ++ [m], some ⟨g, 0, none⟩, cap'⟩, w', h1, rfl, ?_, KpM.one h3 (fun g e => .inl e), fun g' e => ?_⟩
  · unfold OwnMv
    simp only [List.length_append, List.length_cons, List.length_nil, List.flatMap_append, List.flatMap_cons, List.flatMap_nil, List.append_nil]
    exact h2
  · have : g = g' := by simpa [Value.ownBlock] using e
    subst this
    exact h4
theorem flat_set (l0 : List Mv) (y : Mv) (c : Nat) : ((l0 ++ [y]).flatMap Mv.cells).set (l0.length * 3 + 1) (.int .u8 (c : Int)) = (l0 ++ [(⟨y.lo, c, y.to⟩ : Mv)]).flatMap Mv.cells := by
  rw [List.flatMap_append, List.flatMap_append, List.set_append_right _ _ (by rw [cells_len]; omega), cells_len, show l0.length * 3 + 1 - l0.length * 3 = 1 by omega]
  rfl

set_option maxRecDepth 100000 in
set_option maxHeartbeats 2000000 in
theorem refLay_any (w : World) (base : Nat) (d : MvD) (c : Nat) (tq : Int) (hd : OwnMv w base d) (hbase : base ≤ w.heap.size) (hc : c < 256) (ht : tq ≠ -1) (hl : d.l.length ≤ 1000) (hs : ∀ m ∈ d.l, m.hi < 256) :
    Calls Try.prog 40 #[.slice d.a d.l.length d.c, .int .u8 (c : Int), .int .i64 tq] w fun e w' => ∃ d' : MvD, e = .returned (.slice d'.a d'.l.length d'.c) ∧ d'.l = pushM d.l c tq ∧ OwnMv w' base d' ∧ KpM (fun g => d.v.ownBlock = some g) w w' ∧ ∀ g, d'.v.ownBlock = some g → d.v.ownBlock = some g ∨ w.heap.size ≤ g := by
  obtain ⟨l, a, cap⟩ := d
  have hcI : (c : Int) < 256 := by omega
  have hcI0 : (0 : Int) ≤ (c : Int) := by omega
  have hle := ownW_le hd
  obtain ⟨d2, w2, hr2, e2, ho2, hk2, hg2⟩ := run_pushMv w 58 ⟨l, a, cap⟩ ⟨c, c, tq⟩ hd hl hbase
  dsimp only at *
  rcases List.eq_nil_or_concat l with rfl | ⟨l0, y, rfl⟩
  · have HP : Hid (∃ d' : MvD, Ending.returned (.slice d2.a (0 + 1) d2.c) = .returned (.slice d'.a d'.l.length d'.c) ∧ d'.l = pushM [] c tq ∧ OwnMv w2 base d' ∧ KpM (fun g => (Value.slice a 0 cap).ownBlock = some g) w w2 ∧ ∀ g, d'.v.ownBlock = some g → (Value.slice a 0 cap).ownBlock = some g ∨ w.heap.size ≤ g) := Lib.hid ⟨d2, by rw [e2]; rfl, by rw [e2, push_nil c ht]; rfl, ho2, hk2, hg2⟩
    have Hr2 := Lib.hid hr2
    clear hd hr2 e2 ho2 hk2 hg2
    simp only [List.length_nil] at hle hl Hr2 ⊢
    go_enter Try.func40, Try.ntmps40
    go_wp2_with (at_builtin; refine wpList_append_run rfl _ _ 58 58 rfl _ _ _ _ rfl rfl Hr2.out ?_)
    exact bodyPost_ret (v := .slice d2.a (0 + 1) d2.c) (by simp [results, Try.results40, go_sem]; try rfl) rfl HP.out
  · rw [List.concat_eq_append] at *
    obtain ⟨g, rfl, hgb⟩ := own_some hd (by rw [List.length_append]; simp)
    have hM : (l0 ++ [y]).length = l0.length + 1 := by rw [List.length_append]; rfl
    have Hd := Lib.hid hd
    unfold OwnMv at hd
    dsimp only [MvD.v] at hd
    rw [hM] at hd hle hl hr2
    obtain ⟨m0, m1, m2⟩ := row_move hd (k := l0.length) (by rw [hM]; omega)
    rw [List.getElem_append_right (Nat.le_refl _)] at m0 m1 m2
    simp only [Nat.sub_self, List.getElem_cons_zero] at m0 m1 m2
    have hy := hs y (by simp)
    obtain ⟨M, hMM⟩ : ∃ M, Hid (l0.length = M) := ⟨_, Lib.hid rfl⟩
    have hb1 := World.block_lt_of_cell? _ _ m1
    rw [hMM.out] at m0 m1 m2 hle hl hr2
    rw [hM, hMM.out]
    have hfz : w.frozen? ⟨g, M * 3, none⟩ = false := own_frozen hd
    have HO2 := Lib.hid ho2
    have Hk2 := Lib.hid hk2
    have Hg2 := Lib.hid hg2
    have He2 := Lib.hid e2
    have Hr2 := Lib.hid hr2
    have bg : g < w.heap.size := hb1
    clear ho2 hk2 hg2 hr2 hd e2
    by_cases h2 : y.to = tq ∧ y.hi + 1 = c
    · obtain ⟨a3, c3, w3, hr3, ho3, hg3, hb3⟩ := run_appM w 58 ⟨l0 ++ [y], some ⟨g, 0, none⟩, cap⟩ (World.ownsRow_nil w base 57 3) Hd.out (by dsimp only; rw [hM, hMM.out]; omega) hbase
      dsimp only at hr3 ho3 hb3
      rw [hM, hMM.out, Nat.zero_add] at hr3 ho3 hb3
      rw [List.nil_append] at ho3
      obtain ⟨g3, rfl, hgb3⟩ := own_some ho3 (by omega)
      have hn3 : g3 = w.heap.size := by
        rcases hb3 with e | e
        · cases e
        · simpa [Value.ownBlock] using e
      obtain ⟨z0, z1, z2⟩ := row_move (k := l0.length) (l := l0 ++ [y]) ho3 (by rw [hM]; omega)
      rw [List.getElem_append_right (Nat.le_refl _)] at z0 z1 z2
      simp only [Nat.sub_self, List.getElem_cons_zero] at z0 z1 z2
      rw [hMM.out] at z0 z1 z2
      have hfz := own_frozen (j := M * 3 + 1) ho3
      have hbl := World.block_lt_of_cell? _ _ z1
      have hrow := own_setc ho3 (M * 3 + 1) (.int .u8 (c : Int))
      have e5 := flat_set l0 y c
      rw [hMM.out] at e5
      rw [e5, h2.1] at hrow
      have HP : Hid (∃ d' : MvD, Ending.returned (.slice (some ⟨g3, 0, none⟩) (M + 1) c3) = .returned (.slice d'.a d'.l.length d'.c) ∧ d'.l = pushM (l0 ++ [y]) c tq ∧ OwnMv (w3.setCell ⟨g3, M * 3 + 1, none⟩ (.int .u8 (c : Int))) base d' ∧ KpM (fun g_1 => ({ l := l0 ++ [y], a := some ⟨g, 0, none⟩, c := cap } : MvD).v.ownBlock = some g_1) w (w3.setCell ⟨g3, M * 3 + 1, none⟩ (.int .u8 (c : Int))) ∧ ∀ g_1, d'.v.ownBlock = some g_1 → ({ l := l0 ++ [y], a := some ⟨g, 0, none⟩, c := cap } : MvD).v.ownBlock = some g_1 ∨ w.heap.size ≤ g_1) := Lib.hid (by
        refine ⟨⟨l0 ++ [⟨y.lo, c, tq⟩], some ⟨g3, 0, none⟩, c3⟩, ?_, (push_more l0 y ht h2).symm, ?_, ?_, fun g' e => .inr ?_⟩
        · simp only [List.length_append, List.length_cons, List.length_nil, hMM.out]
        · unfold OwnMv
          simp only [List.length_append, List.length_cons, List.length_nil, hMM.out]
          exact hrow
        · exact (KpM.one hg3 (fun g e => by cases e)).step (grownBy_set w3 g3 _ _) (fun g e => .inr (by injection e with e; omega))
        · have : g3 = g' := by simpa [Value.ownBlock] using e
          omega)
      have Hr3 := Lib.hid hr3
      have hty : y.to = tq := h2.1
      have hyI : (y.hi : Int) = (c : Int) - 1 := by omega
      have hyb : ((y.hi : Int) == (c : Int) - 1) = true := by rw [beq_iff_eq]; omega
      have htb : (y.to == tq) = true := by rw [beq_iff_eq]; omega
      clear ho3 hg3 hb3 hrow hr3 e5 h2 z0 z2 hn3
      go_enter Try.func40, Try.ntmps40
      go_wp2_with (at_builtin; refine wpList_append_run rfl _ _ 58 58 rfl _ _ _ _ rfl rfl Hr3.out ?_)
      exact bodyPost_ret (v := .slice (some ⟨g3, 0, none⟩) (M + 1) c3) (by simp [results, Try.results40, go_sem]; try rfl) rfl HP.out
    · have HP : Hid (∃ d' : MvD, Ending.returned (.slice d2.a (M + 1 + 1) d2.c) = .returned (.slice d'.a d'.l.length d'.c) ∧ d'.l = pushM (l0 ++ [y]) c tq ∧ OwnMv w2 base d' ∧ KpM (fun g_1 => ({ l := l0 ++ [y], a := some ⟨g, 0, none⟩, c := cap } : MvD).v.ownBlock = some g_1) w w2 ∧ ∀ g_1, d'.v.ownBlock = some g_1 → ({ l := l0 ++ [y], a := some ⟨g, 0, none⟩, c := cap } : MvD).v.ownBlock = some g_1 ∨ w.heap.size ≤ g_1) := Lib.hid ⟨d2, by rw [He2.out]; simp only [List.length_append, List.length_cons, List.length_nil, hMM.out], by rw [He2.out, push_new l0 y ht h2], HO2.out, Hk2.out, Hg2.out⟩
      by_cases h3 : y.to = tq
      · have hyb : ((y.hi : Int) == (c : Int) - 1) = false := by rw [beq_eq_false_iff_ne]; omega
        have htb : (y.to == tq) = true := by rw [beq_iff_eq]; omega
        clear h2
        go_enter Try.func40, Try.ntmps40
        go_wp2_with (at_builtin; refine wpList_append_run rfl _ _ 58 58 rfl _ _ _ _ rfl rfl Hr2.out ?_)
        exact bodyPost_ret (v := .slice d2.a (M + 1 + 1) d2.c) (by simp [results, Try.results40, go_sem]; try rfl) rfl HP.out
      · have htb : (y.to == tq) = false := by rw [beq_eq_false_iff_ne]; exact h3
        clear h2
        go_enter Try.func40, Try.ntmps40
        go_wp2_with (at_builtin; refine wpList_append_run rfl _ _ 58 58 rfl _ _ _ _ rfl rfl Hr2.out ?_)
        exact bodyPost_ret (v := .slice d2.a (M + 1 + 1) d2.c) (by simp [results, Try.results40, go_sem]; try rfl) rfl HP.out
end Go.Proofs.Ytngbfjimmdkfeaa

namespace Go.Proofs.Ytngbfjimmdkfeaa
open Go.RowKit Go.Shelf Go.Maps

attribute [local go_sem] Oper.semAt_some

/-- Where what is done may turn. -/
def TrnJ (T : Nat → Bool) (es : List Eg) (q : List Sp) : Prop := ∀ c, c < 257 → (T c = true ↔ c = 0 ∨ (∃ e ∈ es, ∃ p ∈ e.q, c = p.lo.toNat ∨ c = p.hi.toNat + 1) ∨ ∃ p ∈ q, c = p.lo.toNat ∨ c = p.hi.toNat + 1)
theorem trn_span {T : Nat → Bool} {es : List Eg} {q : List Sp} {p : Sp} (h : TrnJ T es q) : TrnJ (fun c => if c = p.hi.toNat + 1 then true else if c = p.lo.toNat then true else T c) es (q ++ [p]) := fun c hc => by
  have e : (∃ m ∈ q ++ [p], c = m.lo.toNat ∨ c = m.hi.toNat + 1) ↔ (∃ m ∈ q, c = m.lo.toNat ∨ c = m.hi.toNat + 1) ∨ (c = p.lo.toNat ∨ c = p.hi.toNat + 1) := by
    constructor
    · rintro ⟨m, hm, h⟩
      rcases List.mem_append.1 hm with h1 | h1
      · exact .inl ⟨m, h1, h⟩
      · rw [List.mem_singleton] at h1
        subst h1
        exact .inr h
    · rintro (⟨m, hm, h⟩ | h)
      · exact ⟨m, List.mem_append_left _ hm, h⟩
      · exact ⟨p, by simp, h⟩
  dsimp only
  rw [e, ← or_assoc, ← or_assoc, or_assoc (a := c = 0), ← h c hc]
  by_cases e1 : c = p.hi.toNat + 1
  · rw [if_pos e1]; simp [e1]
  · rw [if_neg e1]
    by_cases e2 : c = p.lo.toNat
    · rw [if_pos e2]; simp [e2]
    · rw [if_neg e2]; simp [e1, e2]
theorem trn_edge {T : Nat → Bool} {es : List Eg} {e : Eg} (h : TrnJ T es e.q) : TrnJ T (es ++ [e]) [] := fun c hc => by
  rw [h c hc]
  constructor
  · rintro (h1 | ⟨m, hm, h1⟩ | h1)
    · exact .inl h1
    · exact .inr (.inl ⟨m, List.mem_append_left _ hm, h1⟩)
    · exact .inr (.inl ⟨e, by simp, h1⟩)
  · rintro (h1 | ⟨m, hm, h1⟩ | ⟨p, hp, _⟩)
    · exact .inl h1
    · rcases List.mem_append.1 hm with h2 | h2
      · exact .inr (.inl ⟨m, h2, h1⟩)
      · rw [List.mem_singleton] at h2
        subst h2
        exact .inr (.inr h1)
    · cases hp
/-- Spans lie in no block of flags. -/
theorem Sps.keptA {w w' : World} {a : Option Addr} {cap g : Nat} {q : List Sp} {T : Nat → Bool} (h : Sps w a cap q) (hB : BlkA w g 4 257 (fun i => .bool (T i))) (hg : w.grownBy w' (some g)) : Sps w' a cap q := by
  have key : ∀ b off, a = some ⟨b, off, none⟩ → ∀ i (h : i < q.length), b ≠ g := fun b off e i hi hbg => by
    subst hbg
    have c := (h.cell b off e i hi).1
    obtain ⟨cs, h1, h2, h3⟩ := hB
    have hc : cs[off + i * 2]? = some (.int .u8 ((q[i]).lo.toNat : Int)) := by
      simpa [World.cell?, h1] using c
    have hlt := (Array.getElem?_eq_some_iff.1 hc).1
    rw [h3 _ (by omega)] at hc
    cases hc
  have up : ∀ {b off : Nat} {v : Value}, b ≠ g → w.cell? ⟨b, off, none⟩ = some v → w'.cell? ⟨b, off, none⟩ = some v := fun {b off v} hb hc => by
    have hl := World.block_lt_of_cell? w _ hc
    exact (World.cell?_of_block (a := ⟨b, off, none⟩) (hg.block b hl (fun e => by injection e with e; exact hb e))).trans hc
  exact ⟨h.le, h.max, h.nil_, h.at_, fun b off e i hi => ⟨up (key b off e i hi) (h.cell b off e i hi).1, up (key b off e i hi) (h.cell b off e i hi).2⟩⟩
abbrev bG (T : Nat → Bool) : Nat → Value := fun i => .bool (T i)
theorem bG_set (T : Nat → Bool) (a b i : Nat) : (if i = b then Value.bool true else if i = a then Value.bool true else bG T i) = bG (fun c => if c = b then true else if c = a then true else T c) i := by
  show _ = Value.bool (if i = b then true else if i = a then true else T i)
  by_cases h : i = b
  · rw [if_pos h, if_pos h]
  · rw [if_neg h, if_neg h]
    by_cases h2 : i = a
    · rw [if_pos h2, if_pos h2]
    · rw [if_neg h2, if_neg h2]

set_option maxRecDepth 100000 in
set_option maxHeartbeats 2000000 in
theorem refBytes_any (x : Nf) (p : NfL) (w : World) (hx : NfAt w x p) :
    Calls Try.prog 36 #[.agg #[.int .i64 x.n, .int .i64 x.s, .slice p.ea x.ends.length p.ec, .slice p.ga x.es.length p.gc]] w fun e w' => ∃ (g : Nat), e = .returned (.slice (some ⟨g, 0, none⟩) 257 257) ∧ ∃ (T : Nat → Bool), BlkA w' g 4 257 (bG T) ∧ w.heap.size ≤ g ∧ TrnJ T x.es [] ∧ Below w.heap.size w w' := by
  have hE1 := hx.ends.le
  have hE2 := hx.ends.max
  have hG1 := hx.es.le
  have hG2 := hx.es.max
  have Hx := Lib.hid hx
  clear hx
  obtain ⟨ea, ec, ga, gc⟩ := p
  dsimp only at *
  obtain ⟨E, hE⟩ : ∃ E, Hid (x.ends.length = E) := ⟨_, Lib.hid rfl⟩
  obtain ⟨G, hG⟩ : ∃ G, Hid (x.es.length = G) := ⟨_, Lib.hid rfl⟩
  obtain ⟨xn, hn⟩ : ∃ n, Hid (x.n = n) := ⟨_, Lib.hid rfl⟩
  obtain ⟨xs, hs⟩ : ∃ n, Hid (x.s = n) := ⟨_, Lib.hid rfl⟩
  rw [hE.out] at hE1
  rw [hG.out] at hG1
  rw [hE.out, hG.out, hn.out, hs.out]
  have hA0 := Blk.new w 32 #[.int .i64 xn, .int .i64 xs, .slice ea E ec, .slice ga G gc]
  have hb0 : Below w.heap.size w (w.alloc (.cells #[.int .i64 xn, .int .i64 xs, .slice ea E ec, .slice ga G gc] 32)) := (Below.refl _ w).alloc (Nat.le_refl _) _
  generalize hW0 : w.alloc (.cells #[.int .i64 xn, .int .i64 xs, .slice ea E ec, .slice ga G gc] 32) = W0 at hA0 hb0
  go_enter Try.func36, Try.ntmps36
  go_upto_region 2 with (at_make; refine wpList_make_B _ rfl _ _ rfl _ 257 rfl rfl (by rfl) (by omega) ?_; intro w2 hrow hg2 hz2)
  obtain ⟨g, hg⟩ : ∃ g, Hid (W0.heap.size = g) := ⟨_, Lib.hid rfl⟩
  have hgw : w.heap.size < g := by rw [← hg.out]; exact hA0.lt
  have hBk : BlkA w2 g 4 257 (bG (fun _ => false)) := by
    rw [← hg.out]
    exact ⟨_, hrow, by rw [List.size_toArray, List.length_replicate], fun i hi => by rw [List.getElem?_toArray, List.getElem?_replicate, if_pos hi]⟩
  have hA2 := hA0.kept hg2 (by simp)
  have hbw2 : Below w.heap.size w w2 := hb0.grown hg2 hb0.size (fun g e => by cases e)
  rw [hg.out]
  have y0 := hBk.cell (j := 0) (by omega)
  have yf := hBk.frozen 0
  have yl := hBk.lt
  dsimp only [bG] at y0
  have hA3 := hA2.setOther (b' := g) (j := 0) (by omega) (.bool true)
  have hB3 := hBk.set (j := 0) (by omega) (.bool true)
  have hbw3 : Below w.heap.size w (w2.setCell ⟨g, 0, none⟩ (.bool true)) := hbw2.grown (grownBy_set w2 g 0 _) hbw2.size (fun i e => by injection e with e; omega)
  have x3 := hA3.cell 3
  have xl := hA3.lt
  simp only [List.getElem?_cons_zero, List.getElem?_cons_succ] at x3
  have HT0 : Hid (TrnJ (fun c => if c = 0 then true else false) [] []) := Lib.hid (fun c _ => by simp)
  have HB3 : Hid (BlkA (w2.setCell ⟨g, 0, none⟩ (.bool true)) g 4 257 (bG (fun c => if c = 0 then true else false))) := Lib.hid (hB3.congr (fun i _ => by
    show _ = Value.bool (if i = 0 then true else false)
    by_cases h : i = 0
    · rw [if_pos h, if_pos h]
    · rw [if_neg h, if_neg h]))
  have Hbw3 := Lib.hid hbw3
  clear hrow hg2 hz2 hW0 hA0 hb0 hBk hA2 hbw2 hA3 hB3 hbw3
  obtain ⟨X, hX⟩ : ∃ X, Hid (w.heap.size = X) := ⟨_, Lib.hid rfl⟩
  rw [hX.out] at Hbw3 hgw
  simp only [hX.out] at x3 xl ⊢
  go_wp2_with (fail)
  go_loopw [5, 14] (fun _ iv wr => ∃ (k : Nat) (T : Nat → Bool), k ≤ G ∧ iv = .int .i64 (k : Int) ∧ (BlkA wr g 4 257 (bG T) ∧ TrnJ T (x.es.take k) []) ∧ Below X w wr) (fun _ iv _ => G - (intOf iv).toNat)
  case atStart => exact ⟨0, _, Nat.zero_le _, rfl, ⟨HB3.out, HT0.out⟩, Hbw3.out⟩
  case round =>
    obtain ⟨k, T, hk, rfl, hBT, hbr⟩ := hrel
    clear x3 xl y0 yf yl
    by_cases hlt : k < G
    · have hkI : (k : Int) < (G : Int) := by omega
      have hkI0 : (0 : Int) ≤ (k : Int) := by omega
      have hkl : k < x.es.length := by rw [hG.out]; exact hlt
      obtain ⟨b, off, rfl⟩ := Hx.out.es.at_ k hkl
      have hbr' : Below w.heap.size w wr := by rw [hX.out]; exact hbr
      obtain ⟨c0, c1, sa, sc, c2, hsp⟩ := ((Hx.out.es.grown hbr').cell b off rfl k hkl)
      have htk : Hid (x.es.take (k + 1) = x.es.take k ++ [x.es[k]]) := Lib.hid (by rw [List.take_add_one, List.getElem?_eq_getElem hkl]; rfl)
      obtain ⟨v, hv⟩ : ∃ v, Hid (x.es[k] = v) := ⟨_, Lib.hid rfl⟩
      rw [hv.out] at c0 c1 c2 hsp htk
      obtain ⟨ef, et, q⟩ := v
      dsimp only at c0 c1 c2 hsp
      have hbl := World.block_lt_of_cell? _ _ c0
      have hql : q.length ≤ sc ∧ sc ≤ 9223372036854775807 := ⟨hsp.le, hsp.max⟩
      obtain ⟨Q, hQ⟩ : ∃ Q, Hid (q.length = Q) := ⟨_, Lib.hid rfl⟩
      rw [hQ.out] at c2 hql
      have hbd := (Below.refl wr.heap.size wr).alloc (Nat.le_refl _) (.cells #[.int .i64 ef, .int .i64 et, .slice sa Q sc] 61)
      have HB := Lib.hid (hbr.trans (hbd.mono (by rw [← hX.out]; exact hbr.size)))
      have HSp := Lib.hid (hsp.grown hbd)
      have HBT := Lib.hid (And.intro (hBT.1.below hbd hBT.1.lt) hBT.2)
      have hA5 := Blk.new wr 61 #[.int .i64 ef, .int .i64 et, .slice sa Q sc]
      have z2 := hA5.cell 2
      have zl := hA5.lt
      simp only [List.getElem?_cons_zero, List.getElem?_cons_succ] at z2
      obtain ⟨W1, hW1⟩ : ∃ W, Hid (wr.alloc (.cells #[.int .i64 ef, .int .i64 et, .slice sa Q sc] 61) = W) := ⟨_, Lib.hid rfl⟩
      rw [hW1.out] at HB HSp HBT z2 zl
      clear hbd hbr hbr' hsp hBT hA5
      have hW1' := hW1.out
      go_wp2_with (fail)
      go_loopw [7, 21] (fun _ iv wr => ∃ (j : Nat) (T : Nat → Bool), j ≤ Q ∧ iv = .int .i64 (j : Int) ∧ (BlkA wr g 4 257 (bG T) ∧ TrnJ T (x.es.take k) (q.take j)) ∧ Below X w wr ∧ Sps wr sa sc q) (fun _ iv _ => Q - (intOf iv).toNat)
      case atStart => exact ⟨0, T, Nat.zero_le _, rfl, HBT.out, HB.out, HSp.out⟩
      case round =>
        obtain ⟨j, T, hj, rfl, hBT, hbr, hsp⟩ := hrel
        clear z2 zl c0 c1 c2 hbl hW1'
        by_cases hlj : j < Q
        · have hjI : (j : Int) < (Q : Int) := by omega
          have hjI0 : (0 : Int) ≤ (j : Int) := by omega
          have hjl : j < q.length := by rw [hQ.out]; exact hlj
          obtain ⟨b3, off3, rfl⟩ := hsp.at_ j hjl
          obtain ⟨c0, c1⟩ := hsp.cell b3 off3 rfl j hjl
          have htj : Hid (q.take (j + 1) = q.take j ++ [q[j]]) := Lib.hid (by rw [List.take_add_one, List.getElem?_eq_getElem hjl]; rfl)
          obtain ⟨p, hp⟩ : ∃ v, Hid (q[j] = v) := ⟨_, Lib.hid rfl⟩
          rw [hp.out] at c0 c1 htj
          have hlo := p.lo.toNat_lt
          have hhi := p.hi.toNat_lt
          have hbl := World.block_lt_of_cell? _ _ c0
          have HN0 := Lib.hid (trn_span (p := p) hBT.2)
          obtain ⟨a, ha⟩ : ∃ n, Hid (p.lo.toNat = n) := ⟨_, Lib.hid rfl⟩
          obtain ⟨z, hz⟩ : ∃ n, Hid (p.hi.toNat = n) := ⟨_, Lib.hid rfl⟩
          rw [ha.out, hz.out] at HN0
          rw [ha.out] at c0 hlo
          rw [hz.out] at c1 hhi
          rw [← htj.out] at HN0
          have hbd := (Below.refl wr.heap.size wr).alloc (Nat.le_refl _) (.cells #[.int .u8 (a : Int), .int .u8 (z : Int)] 55)
          have hS1 := Blk.new wr 55 #[.int .u8 (a : Int), .int .u8 (z : Int)]
          have hB1 := hBT.1.below hbd hBT.1.lt
          have hne : g ≠ wr.heap.size := by have := hBT.1.lt; omega
          have hsp1 := hsp.grown hbd
          have hbr1 := hbr.trans (hbd.mono (by rw [← hX.out]; exact hbr.size))
          obtain ⟨W2, hW2⟩ : ∃ W, Hid (wr.alloc (.cells #[.int .u8 (a : Int), .int .u8 (z : Int)] 55) = W) := ⟨_, Lib.hid rfl⟩
          have hW2' := hW2.out
          rw [hW2.out] at hS1 hB1 hsp1 hbr1
          obtain ⟨N2, hN2⟩ : ∃ n, Hid (wr.heap.size = n) := ⟨_, Lib.hid rfl⟩
          rw [hN2.out] at hS1 hne
          have hS2 := hS1.setOther (b' := g) (j := a) (Ne.symm hne) (.bool true)
          have hB2 := hB1.set (j := a) (by omega) (.bool true)
          have hB3 := (hB2.set (j := z + 1) (by omega) (.bool true)).congr (fun i _ => bG_set T a (z + 1) i)
          have hgr := grownBy_trans (grownBy_set W2 g a (.bool true)) (grownBy_set _ g (z + 1) (.bool true)) (fun i e => .inl e)
          have Hbr3 : Hid (Below X w ((W2.setCell ⟨g, a, none⟩ (.bool true)).setCell ⟨g, z + 1, none⟩ (.bool true))) := Lib.hid (hbr1.grown hgr (by rw [← hX.out]; exact hbr1.size) (fun i e => by injection e with e; omega))
          have HB3 := Lib.hid hB3
          have HS3 : Hid (Sps ((W2.setCell ⟨g, a, none⟩ (.bool true)).setCell ⟨g, z + 1, none⟩ (.bool true)) (some ⟨b3, off3, none⟩) sc q) := Lib.hid (hsp1.keptA hB1 hgr)
          have s0 := hS1.cell 0
          have s1 := hS2.cell 1
          have sl := hS1.lt
          have sl2 := hS2.lt
          simp only [List.getElem?_cons_zero, List.getElem?_cons_succ] at s0 s1
          have t0 := hB1.cell (j := a) (by omega)
          have t1 := hB2.cell (j := z + 1) (by omega)
          have tf := hB1.frozen a
          have tf2 := hB2.frozen (z + 1)
          have tl := hB1.lt
          have tl2 := hB2.lt
          have haI : (a : Int) < 257 := by omega
          have haI0 : (0 : Int) ≤ (a : Int) := by omega
          have hzI : (z : Int) + 1 < 257 := by omega
          have hzI0 : (0 : Int) ≤ (z : Int) + 1 := by omega
          have hzI1 : (z : Int) < 256 := by omega
          have HN2 := hN2.out
          clear hbd hS1 hB1 hsp1 hbr1 hS2 hB2 hB3 hgr hbr hsp hBT
          go_wp2_with (fail)
          exact ⟨⟨j + 1, _, by omega, by simp, ⟨HB3.out, HN0.out⟩, Hbr3.out, HS3.out⟩, by simp [intOf]; omega⟩
        · obtain rfl : Q = j := by omega
          have hjI : ¬ (Q : Int) < (Q : Int) := by omega
          have HN0 : Hid (TrnJ T (x.es.take (k + 1)) []) := Lib.hid (by
            rw [htk.out]
            refine trn_edge ?_
            have := hBT.2
            rwa [List.take_of_length_le (i := Q) (l := q) (by rw [hQ.out]; exact Nat.le_refl _)] at this)
          have HB0 := Lib.hid hBT.1
          have Hbr0 := Lib.hid hbr
          clear hBT hbr hsp
          go_wp2_with (fail)
          exact ⟨⟨k + 1, T, by omega, by simp, ⟨HB0.out, HN0.out⟩, Hbr0.out⟩, by simp [intOf]; omega⟩
    · obtain rfl : G = k := by omega
      have hkI : ¬ (G : Int) < (G : Int) := by omega
      have HF : Hid (∃ (g' : Nat), Ending.returned (.slice (some ⟨g, 0, none⟩) 257 257) = .returned (.slice (some ⟨g', 0, none⟩) 257 257) ∧ ∃ (T : Nat → Bool), BlkA wr g' 4 257 (bG T) ∧ w.heap.size ≤ g' ∧ TrnJ T x.es [] ∧ Below w.heap.size w wr) := Lib.hid ⟨g, rfl, T, hBT.1, by rw [hX.out]; omega, by
        have := hBT.2
        rwa [List.take_of_length_le (by rw [hG.out]; exact Nat.le_refl _)] at this, by rw [hX.out]; exact hbr⟩
      clear hBT hbr
      go_wp2_with (fail)
      exact bodyPost_ret (v := .slice (some ⟨g, 0, none⟩) 257 257) (by simp [results, Try.results36, go_sem]; try rfl) rfl HF.out
end Go.Proofs.Ytngbfjimmdkfeaa

