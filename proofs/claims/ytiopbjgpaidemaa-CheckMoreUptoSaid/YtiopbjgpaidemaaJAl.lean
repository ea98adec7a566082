/- Texts joined: It Iu. -/
import Derived.Test.YtiopbjgpaidemaaJAk
set_option linter.unusedVariables false
set_option linter.unusedSimpArgs false
namespace Go.Proofs.Ytiopbjgpaidemaa
open Go.RowKit

attribute [local go_sem] Oper.semAt_some

/-- Whether a number is a token's or a rule's. -/
def okN (t n : Nat) (x : Int) : Bool := !(decide (x < -(n : Int)) || decide ((t : Int) ≤ x))
def numsB (p : CfP) : Bool := p.alts.all (fun r => r.all (fun a => a.all (okN p.toks.length p.names.length)))
/-- The name of a number. -/
def nmP (ts ns : List ByteArray) (x : Int) : ByteArray := if x < 0 then ns.getD (-1 - x).toNat ⟨#[]⟩ else ts.getD x.toNat ⟨#[]⟩
theorem okN_iff {t n : Nat} {x : Int} : okN t n x = true ↔ -(n : Int) ≤ x ∧ x < (t : Int) := by
  unfold okN
  simp only [Bool.not_eq_true', Bool.or_eq_false_iff, decide_eq_false_iff_not]
  omega

set_option maxRecDepth 100000 in
set_option maxHeartbeats 2000000 in
theorem nameOf_any (d : CfD) (x : Int) (w : World) (hd : CfAt w d) (hx : okN d.toks.length d.names.length x = true) (hs : d.toks.length ≤ 1000000000 ∧ d.names.length ≤ 1000000000) :
    Calls Try.prog 123 #[d.v, .int .i64 x] w fun e w' => e = .returned (.string (nmP d.toks d.names x)) ∧ Below w.heap.size w w' := by
  obtain ⟨xt, xta, xtc, xn, xna, xnc, xa, xaa, xac⟩ := d
  obtain ⟨hx1, hx2, hx3, hx4⟩ := hd
  obtain ⟨h1, h2⟩ := okN_iff.1 hx
  dsimp only [CfD.v] at *
  have hb1 : Below w.heap.size w (w.alloc (.cells #[.slice xta xt.length xtc, .slice xna xn.length xnc, .slice xaa xa.length xac] 41)) := (Below.refl _ w).alloc (Nat.le_refl _) _
  have hA := Blk.new w 41 #[.slice xta xt.length xtc, .slice xna xn.length xnc, .slice xaa xa.length xac]
  have htm : xt.length ≤ xtc ∧ xtc ≤ 9223372036854775807 := ⟨by have := hx1.le; rwa [List.length_map] at this, hx1.max⟩
  have hnm : xn.length ≤ xnc ∧ xnc ≤ 9223372036854775807 := ⟨by have := hx2.le; rwa [List.length_map] at this, hx2.max⟩
  have Hb1 := Lib.hid hb1
  by_cases h0 : x < 0
  · obtain ⟨k, hk⟩ : ∃ k : Nat, x = -1 - (k : Int) := ⟨(-1 - x).toNat, by omega⟩
    have hkl : k < xn.length := by omega
    have hv : Hid (nmP xt xn x = xn[k]) := Lib.hid (by
      unfold nmP
      rw [if_pos h0, show (-1 - x).toNat = k by omega, List.getD_eq_getElem?_getD, List.getElem?_eq_getElem hkl]; rfl)
    obtain ⟨b, off, rfl⟩ := hx2.at_ k (by rw [List.length_map]; exact hkl)
    have c0 := (hx2.grown hb1).cell b off rfl k (by rw [List.length_map]; exact hkl)
    rw [List.getElem_map] at c0
    obtain ⟨e, he⟩ : ∃ v, Hid (xn[k] = v) := ⟨_, Lib.hid rfl⟩
    rw [he.out] at c0 hv
    rw [hv.out]
    obtain ⟨T1, HT1⟩ : ∃ L, Hid (xt.length = L) := ⟨_, Lib.hid rfl⟩
    obtain ⟨N1, HN1⟩ : ∃ L, Hid (xn.length = L) := ⟨_, Lib.hid rfl⟩
    obtain ⟨L1, HL1⟩ : ∃ L, Hid (xa.length = L) := ⟨_, Lib.hid rfl⟩
    rw [HT1.out, HN1.out, HL1.out] at hA Hb1 c0 ⊢
    rw [HN1.out] at hnm hkl hs
    have hbl := World.block_lt_of_cell? _ _ c0
    have x1 := hA.cell 1
    have xl := hA.lt
    simp only [List.getElem?_cons_zero, List.getElem?_cons_succ] at x1
    have e1 : (-1 : Int) - x = (k : Int) := by omega
    have e2 : (k : Int) < (N1 : Int) := by omega
    have e3 : (0 : Int) ≤ (k : Int) := by omega
    have hxb : -1000000000 ≤ x := by omega
    subst hk
    have e4 : IntKind.i64.wrap (-1 - (-1 - (k : Int))) = (k : Int) := by rw [show (-1 : Int) - (-1 - (k : Int)) = (k : Int) by omega]; exact IntWalk.i64_in _ (by omega)
    have H1 := Lib.hid h1
    have H2 := Lib.hid h2
    clear hx hx1 hx2 hx3 hx4 hb1 hA h1 h2 e1 htm
    go_enter Try.func123, Try.ntmps123
    go_wp2_with (fail)
    exact bodyPost_ret (v := .string e) (by simp [results, Try.results123, go_sem]; try first | rfl | assumption | omega) rfl ⟨rfl, Hb1.out⟩
  · obtain ⟨k, rfl⟩ : ∃ k : Nat, x = (k : Int) := ⟨x.toNat, by omega⟩
    have hkl : k < xt.length := by omega
    have hv : Hid (nmP xt xn (k : Int) = xt[k]) := Lib.hid (by
      unfold nmP
      rw [if_neg h0, Int.toNat_natCast, List.getD_eq_getElem?_getD, List.getElem?_eq_getElem hkl]; rfl)
    obtain ⟨b, off, rfl⟩ := hx1.at_ k (by rw [List.length_map]; exact hkl)
    have c0 := (hx1.grown hb1).cell b off rfl k (by rw [List.length_map]; exact hkl)
    rw [List.getElem_map] at c0
    obtain ⟨e, he⟩ : ∃ v, Hid (xt[k] = v) := ⟨_, Lib.hid rfl⟩
    rw [he.out] at c0 hv
    rw [hv.out]
    obtain ⟨T1, HT1⟩ : ∃ L, Hid (xt.length = L) := ⟨_, Lib.hid rfl⟩
    obtain ⟨N1, HN1⟩ : ∃ L, Hid (xn.length = L) := ⟨_, Lib.hid rfl⟩
    obtain ⟨L1, HL1⟩ : ∃ L, Hid (xa.length = L) := ⟨_, Lib.hid rfl⟩
    rw [HT1.out, HN1.out, HL1.out] at hA Hb1 c0 ⊢
    rw [HT1.out] at htm hkl hs
    have hbl := World.block_lt_of_cell? _ _ c0
    have x1 := hA.cell 0
    have xl := hA.lt
    simp only [List.getElem?_cons_zero, List.getElem?_cons_succ] at x1
    have e2 : (k : Int) < (T1 : Int) := by omega
    have e3 : (0 : Int) ≤ (k : Int) := by omega
    clear hx hx1 hx2 hx3 hx4 hb1 hA h1 h2 hnm
    go_enter Try.func123, Try.ntmps123
    go_wp2_with (fail)
    exact bodyPost_ret (v := .string e) (by simp [results, Try.results123, go_sem]; try first | rfl | assumption | omega) rfl ⟨rfl, Hb1.out⟩

set_option maxRecDepth 100000 in
theorem backName_any (W : World) (vb : Nat) (d : CfD) (x : Int) (hv : Blk W vb 41 [.slice d.ta d.toks.length d.tc, .slice d.na d.names.length d.nc, .slice d.aa d.alts.length d.ac]) (hd : CfAt W d) (hx : okN d.toks.length d.names.length x = true) (hs : d.toks.length ≤ 1000000000 ∧ d.names.length ≤ 1000000000) :
    Calls Try.prog 122 #[.int .i64 x, .pointer (some ⟨vb, 0, none⟩)] W fun e w' => e = .returned (.string (nmP d.toks d.names x)) ∧ Below W.heap.size W w' := by
  have Hc := Lib.hid (nameOf_any d x W hd hx hs)
  have v0 := hv.cell 0
  have v1 := hv.cell 1
  have v2 := hv.cell 2
  have vl := hv.lt
  simp only [List.getElem?_cons_zero, List.getElem?_cons_succ] at v0 v1 v2
  obtain ⟨q, hq⟩ : ∃ q, Hid (nmP d.toks d.names x = q) := ⟨_, Lib.hid rfl⟩
  rw [hq.out] at Hc ⊢
  dsimp only [CfD.v] at Hc
  obtain ⟨T1, HT1⟩ : ∃ L, Hid (d.toks.length = L) := ⟨_, Lib.hid rfl⟩
  obtain ⟨N1, HN1⟩ : ∃ L, Hid (d.names.length = L) := ⟨_, Lib.hid rfl⟩
  obtain ⟨L1, HL1⟩ : ∃ L, Hid (d.alts.length = L) := ⟨_, Lib.hid rfl⟩
  rw [HT1.out, HN1.out, HL1.out] at Hc
  rw [HT1.out] at v0
  rw [HN1.out] at v1
  rw [HL1.out] at v2
  clear hv hd hx
  go_enter Try.func122, Try.ntmps122
  go_wp2_with (fail)
  refine Hc.out.mono ?_
  rintro e w3 ⟨rfl, hb3⟩
  have Hb3 := Lib.hid hb3
  clear hb3
  go_wp2_with (fail)
  exact bodyPost_ret (v := .string q) (by simp [results, Try.results122, go_sem]; try first | rfl | assumption | omega) rfl ⟨rfl, Hb3.out⟩

set_option maxRecDepth 100000 in
set_option maxHeartbeats 4000000 in
theorem areNumbers_any (d : CfD) (w : World) (hd : CfAt w d) (hs : d.toks.length ≤ 1000000000 ∧ d.names.length ≤ 1000000000) :
    Calls Try.prog 120 #[d.v] w fun e w' => e = .returned (.bool (numsB d.p)) ∧ Below w.heap.size w w' := by
  obtain ⟨xt, xta, xtc, xn, xna, xnc, xa, xaa, xac⟩ := d
  obtain ⟨hx1, hx2, hx3, hx4⟩ := hd
  dsimp only [CfD.v] at *
  have hb1 : Below w.heap.size w (w.alloc (.cells #[.slice xta xt.length xtc, .slice xna xn.length xnc, .slice xaa xa.length xac] 41)) := (Below.refl _ w).alloc (Nat.le_refl _) _
  have hA := Blk.new w 41 #[.slice xta xt.length xtc, .slice xna xn.length xnc, .slice xaa xa.length xac]
  have hxm : xa.length ≤ xac ∧ xac ≤ 9223372036854775807 := ⟨by have := hx3.le; rwa [List.length_map] at this, hx3.max⟩
  obtain ⟨R, hR⟩ : ∃ R, Hid (numsB (CfD.p ⟨xt, xta, xtc, xn, xna, xnc, xa, xaa, xac⟩) = R) := ⟨_, Lib.hid rfl⟩
  rw [hR.out]
  obtain ⟨OK, hOK⟩ : ∃ q, Hid (okN xt.length xn.length = q) := ⟨_, Lib.hid rfl⟩
  have hR0 : Hid (R = xa.all (fun r => r.ds.all (fun a => a.l.all OK))) := Lib.hid (by
    rw [← hR.out, ← hOK.out]
    simp only [numsB, CfD.p, List.all_map]
    congr 1
    funext r
    simp only [Function.comp, IrD.p, List.all_map]
    rfl)
  obtain ⟨T1, HT1⟩ : ∃ L, Hid (xt.length = L) := ⟨_, Lib.hid rfl⟩
  obtain ⟨N1, HN1⟩ : ∃ L, Hid (xn.length = L) := ⟨_, Lib.hid rfl⟩
  obtain ⟨L, HL⟩ : ∃ L, Hid (xa.length = L) := ⟨_, Lib.hid rfl⟩
  rw [HT1.out, HN1.out] at hOK hs
  rw [HT1.out, HN1.out, HL.out] at hA hb1 ⊢
  rw [HL.out] at hxm
  have HX3 := Lib.hid hx3
  have HX4 := Lib.hid hx4
  have x2 := hA.cell 2
  have xl := hA.lt
  simp only [List.getElem?_cons_zero, List.getElem?_cons_succ] at x2
  have HA := Lib.hid hA
  have Hb1 := Lib.hid hb1
  obtain ⟨bx, hbx⟩ : ∃ q, Hid (w.heap.size = q) := ⟨_, Lib.hid rfl⟩
  clear hA hb1 hx1 hx2 hx3 hx4
  go_enter Try.func120, Try.ntmps120
  go_wp2_with (fail)
  rw [hbx.out] at HA xl ⊢
  generalize hV : World.alloc w _ = V at HA Hb1 x2 xl ⊢
  clear hV
  go_loopw [12] (fun iv wr => ∃ (k : Nat), k ≤ L ∧ iv = .int .i64 (k : Int) ∧ Hid (R = (xa.drop k).all (fun r => r.ds.all (fun a => a.l.all OK))) ∧ wr = V) (fun iv _ => L - (intOf iv).toNat)
  case atStart => exact ⟨0, Nat.zero_le _, rfl, hR0, rfl⟩
  case round =>
    clear x2 xl
    obtain ⟨k, hk, rfl, HR, hwr⟩ := hrel
    subst hwr
    by_cases hlt : k < L
    · have hkI : (k : Int) < (L : Int) := by omega
      have hkI0 : (0 : Int) ≤ (k : Int) := by omega
      have hkl : k < xa.length := by rw [HL.out]; exact hlt
      obtain ⟨b, off, ha⟩ := HX3.out.at_ k (by rw [List.length_map]; exact hkl)
      have c0 := (HX3.out.grown Hb1.out).cell b off ha k (by rw [List.length_map]; exact hkl)
      rw [List.getElem_map] at c0
      have hm : xa[k] ∈ xa := List.getElem_mem hkl
      have hdr : Hid (xa.drop k = xa[k] :: xa.drop (k + 1)) := Lib.hid (List.drop_eq_getElem_cons hkl)
      obtain ⟨e, he⟩ : ∃ v, Hid (xa[k] = v) := ⟨_, Lib.hid rfl⟩
      rw [he.out] at c0 hm hdr
      obtain ⟨ed, ea, ec⟩ := e
      change _ = some (Value.slice ea ed.length ec) at c0
      have hal : AltsI w ea ec ed := HX4.out _ hm
      have hdm : ed.length ≤ ec ∧ ec ≤ 9223372036854775807 := ⟨by have := hal.row.le; rwa [List.length_map] at this, hal.row.max⟩
      have Hal := Lib.hid hal
      have hbl := World.block_lt_of_cell? wr _ c0
      have HR2 : Hid (R = (ed.all (fun a => a.l.all OK) && (xa.drop (k + 1)).all (fun r => r.ds.all (fun a => a.l.all OK)))) := Lib.hid (by rw [HR.out, hdr.out]; rfl)
      obtain ⟨D, hD⟩ : ∃ q, Hid (ed.length = q) := ⟨_, Lib.hid rfl⟩
      rw [hD.out] at c0 hdm
      subst ha
      clear hm hal HR hdr
      go_wp2_with (fail)
      go_loopw [18] (fun jv wv => ∃ (j : Nat), j ≤ D ∧ jv = .int .i64 (j : Int) ∧ Hid (R = ((ed.drop j).all (fun a => a.l.all OK) && (xa.drop (k + 1)).all (fun r => r.ds.all (fun a => a.l.all OK)))) ∧ wv = wr) (fun jv _ => D - (intOf jv).toNat)
      case atStart => exact ⟨0, Nat.zero_le _, rfl, HR2, rfl⟩
      case round =>
        clear HR2 c0 hbl
        obtain ⟨j, hj, rfl, HR, hwv⟩ := hrel
        subst hwv
        by_cases hltj : j < D
        · have hjI : (j : Int) < (D : Int) := by omega
          have hjI0 : (0 : Int) ≤ (j : Int) := by omega
          have hjl : j < ed.length := by rw [hD.out]; exact hltj
          obtain ⟨b2, off2, ha2⟩ := Hal.out.row.at_ j (by rw [List.length_map]; exact hjl)
          have c0 := (Hal.out.row.grown Hb1.out).cell b2 off2 ha2 j (by rw [List.length_map]; exact hjl)
          rw [List.getElem_map] at c0
          have hm : ed[j] ∈ ed := List.getElem_mem hjl
          have hdr : Hid (ed.drop j = ed[j] :: ed.drop (j + 1)) := Lib.hid (List.drop_eq_getElem_cons hjl)
          obtain ⟨e, he⟩ : ∃ v, Hid (ed[j] = v) := ⟨_, Lib.hid rfl⟩
          rw [he.out] at c0 hm hdr
          obtain ⟨el, ela, elc⟩ := e
          change _ = some (Value.slice ela el.length elc) at c0
          have hnd : Ints w ela elc el := Hal.out.nms _ hm
          have hem : el.length ≤ elc ∧ elc ≤ 9223372036854775807 := ⟨by have := hnd.le; rwa [List.length_map] at this, hnd.max⟩
          have Hnd := Lib.hid hnd
          have hbl := World.block_lt_of_cell? _ _ c0
          obtain ⟨rest, hrest⟩ : ∃ q, Hid (((ed.drop (j + 1)).all (fun a => a.l.all OK) && (xa.drop (k + 1)).all (fun r => r.ds.all (fun a => a.l.all OK))) = q) := ⟨_, Lib.hid rfl⟩
          have HR2 : Hid (R = (el.all OK && rest)) := Lib.hid (by rw [HR.out, hdr.out, ← hrest.out]; simp [List.all_cons, Bool.and_assoc])
          obtain ⟨E, hE⟩ : ∃ q, Hid (el.length = q) := ⟨_, Lib.hid rfl⟩
          rw [hE.out] at c0 hem
          subst ha2
          clear hm hnd HR hdr
          go_wp2_with (fail)
          go_loopw [24] (fun mv wv => ∃ (m : Nat), m ≤ E ∧ mv = .int .i64 (m : Int) ∧ Hid (R = ((el.drop m).all OK && rest)) ∧ wv = wr) (fun mv _ => E - (intOf mv).toNat)
          case atStart => exact ⟨0, Nat.zero_le _, rfl, HR2, rfl⟩
          case round =>
            clear HR2 c0 hbl
            obtain ⟨m, hm, rfl, HR, hwv⟩ := hrel
            subst hwv
            by_cases hltm : m < E
            · have hmI : (m : Int) < (E : Int) := by omega
              have hmI0 : (0 : Int) ≤ (m : Int) := by omega
              have hml : m < el.length := by rw [hE.out]; exact hltm
              obtain ⟨b3, off3, ha3⟩ := Hnd.out.at_ m (by rw [List.length_map]; exact hml)
              have c0 := (Hnd.out.grown Hb1.out).cell b3 off3 ha3 m (by rw [List.length_map]; exact hml)
              rw [List.getElem_map] at c0
              have hdr : Hid (el.drop m = el[m] :: el.drop (m + 1)) := Lib.hid (List.drop_eq_getElem_cons hml)
              obtain ⟨n, hn⟩ : ∃ v, Hid (el[m] = v) := ⟨_, Lib.hid rfl⟩
              rw [hn.out] at c0 hdr
              have hbl := World.block_lt_of_cell? _ _ c0
              have x0 := HA.out.cell 0
              have x1 := HA.out.cell 1
              have xl := HA.out.lt
              simp only [List.getElem?_cons_zero, List.getElem?_cons_succ] at x0 x1
              have hneg : IntKind.i64.wrap (-(N1 : Int)) = -(N1 : Int) := IntWalk.i64_in _ (by omega)
              have hN0 : (0 : Int) ≤ (N1 : Int) := by omega
              have hNb : (N1 : Int) ≤ 1000000000 := by omega
              have HR2 : Hid (R = (OK n && ((el.drop (m + 1)).all OK && rest))) := Lib.hid (by rw [HR.out, hdr.out, List.all_cons, Bool.and_assoc])
              subst ha3
              clear HR hdr
              by_cases h1 : n < -(N1 : Int)
              · have hF : Hid (R = false) := Lib.hid (by rw [HR2.out, ← hOK.out]; unfold okN; rw [decide_eq_true h1]; rfl)
                go_wp2_with (fail)
                exact bodyPost_ret (v := .bool false) (by simp [results, Try.results120, go_sem]; try first | rfl | assumption | omega) rfl ⟨by rw [hF.out], Hb1.out⟩
              · by_cases h2 : (T1 : Int) ≤ n
                · have hF : Hid (R = false) := Lib.hid (by rw [HR2.out, ← hOK.out]; unfold okN; rw [decide_eq_true h2]; simp)
                  have h2b : n ≥ (T1 : Int) := h2
                  go_wp2_with (fail)
                  exact bodyPost_ret (v := .bool false) (by simp [results, Try.results120, go_sem]; try first | rfl | assumption | omega) rfl ⟨by rw [hF.out], Hb1.out⟩
                · have hT : Hid (R = ((el.drop (m + 1)).all OK && rest)) := Lib.hid (by rw [HR2.out, ← hOK.out]; unfold okN; rw [decide_eq_false h1, decide_eq_false h2]; rfl)
                  have h2b : ¬ n ≥ (T1 : Int) := h2
                  go_wp2_with (fail)
                  exact ⟨⟨m + 1, by omega, by go_num, hT, by first | rfl | trivial⟩, by simp [intOf]; omega⟩
            · obtain rfl : m = E := by omega
              have hmI : ¬ (m : Int) < (m : Int) := by omega
              have hT : Hid (R = rest) := Lib.hid (by rw [HR.out, List.drop_eq_nil_of_le (by rw [hE.out]; exact Nat.le_refl _)]; rfl)
              go_wp2_with (fail)
              exact ⟨⟨j + 1, by omega, by go_num, Lib.hid (by rw [hT.out, hrest.out]), by first | rfl | trivial⟩, by simp [intOf]; omega⟩
        · obtain rfl : j = D := by omega
          have hjI : ¬ (j : Int) < (j : Int) := by omega
          have hT : Hid (R = (xa.drop (k + 1)).all (fun r => r.ds.all (fun a => a.l.all OK))) := Lib.hid (by rw [HR.out, List.drop_eq_nil_of_le (by rw [hD.out]; exact Nat.le_refl _)]; rfl)
          go_wp2_with (fail)
          exact ⟨⟨k + 1, by omega, by go_num, hT, by first | rfl | trivial⟩, by simp [intOf]; omega⟩
    · obtain rfl : k = L := by omega
      have hkI : ¬ (k : Int) < (k : Int) := by omega
      have hT : Hid (R = true) := Lib.hid (by rw [HR.out, List.drop_eq_nil_of_le (by rw [HL.out]; exact Nat.le_refl _)]; rfl)
      go_wp2_with (fail)
      exact bodyPost_ret (v := .bool true) (by simp [results, Try.results120, go_sem]; try first | rfl | assumption | omega) rfl ⟨by rw [hT.out], Hb1.out⟩
end Go.Proofs.Ytiopbjgpaidemaa

namespace Go.Proofs.Ytiopbjgpaidemaa
open Go.RowKit Go.Maps

attribute [local go_sem] Oper.semAt_some

/-- Why there is no grammar; 0: there is one. -/
def backE (p : CfP) : Int := if p.names.length = p.alts.length then if numsB p = true then 0 else 1 else 1
/-- Rules by names. -/
def backR (ts ns : List ByteArray) : List ByteArray → List (List (List Int)) → List Rl
  | n :: l, a :: al => (n, a.map (fun x => x.map (nmP ts ns))) :: backR ts ns l al
  | _, _ => []
def backG (p : CfP) : List Rl := backR p.toks p.names p.names p.alts
/-- What Back answers. -/
def BackQ (w : World) (E : Int) (G : List Rl) (e : Ending) (W' : World) : Prop := ∃ (rs : List RlD) (a : Option Addr) (c : Nat), e = .returned (.tuple #[.agg #[.slice a rs.length c], .int .i64 E]) ∧ Rls W' a c rs ∧ grP rs = (if E = 0 then G else []) ∧ Below w.heap.size w W'
theorem backR_take (ts ns : List ByteArray) : ∀ (l : List ByteArray) (al : List (List (List Int))) (k : Nat) (h1 : k < l.length) (h2 : k < al.length), backR ts ns (l.take (k + 1)) (al.take (k + 1)) = backR ts ns (l.take k) (al.take k) ++ [(l[k], al[k].map (fun x => x.map (nmP ts ns)))]
  | n :: l, a :: al, 0, _, _ => by cases l <;> cases al <;> rfl
  | n :: l, a :: al, k + 1, h1, h2 => by
    have := backR_take ts ns l al k (by simpa using h1) (by simpa using h2)
    simp only [List.take_succ_cons, backR, List.getElem_cons_succ, List.cons_append]
    rw [this]
/-- What Back keeps while it turns numbers into names. -/
structure BkSt (w1 wr : World) (cb : Nat) (p : CfP) (k : Nat) (ga : Option Addr) (gc : Nat) (rs : List RlD) : Prop where
  box : Blk wr cb 24 [.slice ga k gc]
  row : OwnR wr cb ga gc rs
  len : rs.length = k
  ins : ∀ r ∈ rs, OwnXS wr cb r.a r.c r.ds
  is_ : grP rs = backR p.toks p.names (p.names.take k) (p.alts.take k)
  frm : Below cb w1 wr

set_option maxRecDepth 100000 in
set_option maxHeartbeats 16000000 in
theorem back_any (d : CfD) (w : World) (hd : CfAt w d) (hs : d.toks.length ≤ 1000000 ∧ d.names.length ≤ 1000000 ∧ ∀ r ∈ d.alts, r.ds.length ≤ 1000000 ∧ ∀ a ∈ r.ds, a.l.length ≤ 1000000) :
    Calls Try.prog 95 #[d.v] w (BackQ w (backE d.p) (backG d.p)) := by
  have hat := hd
  obtain ⟨xt, xta, xtc, xn, xna, xnc, xa, xaa, xac⟩ := d
  obtain ⟨hx1, hx2, hx3, hx4⟩ := hd
  have hP : Hid (CfD.p ⟨xt, xta, xtc, xn, xna, xnc, xa, xaa, xac⟩ = ⟨xt, xn, xa.map IrD.p⟩) := Lib.hid rfl
  dsimp only [CfD.v] at *
  have hb1 : Below w.heap.size w (w.alloc (.cells #[.slice xta xt.length xtc, .slice xna xn.length xnc, .slice xaa xa.length xac] 41)) := (Below.refl _ w).alloc (Nat.le_refl _) _
  have hA := Blk.new w 41 #[.slice xta xt.length xtc, .slice xna xn.length xnc, .slice xaa xa.length xac]
  have hb2 := hb1.trans (((Below.refl _ (w.alloc (.cells #[.slice xta xt.length xtc, .slice xna xn.length xnc, .slice xaa xa.length xac] 41))).alloc (Nat.le_refl _) (.cells #[.slice none 0 0] 24)).mono hb1.size)
  have hA2 := hA.alloc (.cells #[.slice none 0 0] 24)
  have hO := Blk.new (w.alloc (.cells #[.slice xta xt.length xtc, .slice xna xn.length xnc, .slice xaa xa.length xac] 41)) 24 #[.slice none 0 0]
  rw [show (w.alloc (.cells #[.slice xta xt.length xtc, .slice xna xn.length xnc, .slice xaa xa.length xac] 41)).heap.size = w.heap.size + 1 by simp] at hO
  have hxm : xa.length ≤ xac ∧ xac ≤ 9223372036854775807 := ⟨by have := hx3.le; rwa [List.length_map] at this, hx3.max⟩
  have hnm : xn.length ≤ xnc ∧ xnc ≤ 9223372036854775807 := ⟨by have := hx2.le; rwa [List.length_map] at this, hx2.max⟩
  have Har := Lib.hid (fun W (hb : Below w.heap.size w W) => areNumbers_any ⟨xt, xta, xtc, xn, xna, xnc, xa, xaa, xac⟩ W (hat.grown hb) (by dsimp only; omega))
  have Hat := Lib.hid hat
  rw [hP.out] at Har ⊢
  obtain ⟨P, hPP⟩ : ∃ q, Hid ((⟨xt, xn, xa.map IrD.p⟩ : CfP) = q) := ⟨_, Lib.hid rfl⟩
  have hPt : Hid (P.toks = xt ∧ P.names = xn ∧ P.alts = xa.map IrD.p) := Lib.hid (by rw [← hPP.out]; exact ⟨rfl, rfl, rfl⟩)
  rw [hPP.out] at Har ⊢
  obtain ⟨NB, hNB⟩ : ∃ q, Hid (numsB P = q) := ⟨_, Lib.hid rfl⟩
  rw [hNB.out] at Har
  obtain ⟨Q, hQ⟩ : ∃ Q, Hid (BackQ w (backE P) (backG P) = Q) := ⟨_, Lib.hid rfl⟩
  rw [hQ.out]
  obtain ⟨T1, HT1⟩ : ∃ L, Hid (xt.length = L) := ⟨_, Lib.hid rfl⟩
  obtain ⟨N1, HN1⟩ : ∃ L, Hid (xn.length = L) := ⟨_, Lib.hid rfl⟩
  obtain ⟨L, HL⟩ : ∃ L, Hid (xa.length = L) := ⟨_, Lib.hid rfl⟩
  dsimp only [CfD.v] at Har
  rw [HT1.out, HN1.out, HL.out] at hA hb1 hb2 hA2 hO Har ⊢
  rw [HN1.out] at hnm
  rw [HL.out] at hxm
  rw [HT1.out, HN1.out] at hs
  have Har' : Hid (∀ W, Below w.heap.size w W → Calls Try.prog 120 #[.agg #[.slice xta T1 xtc, .slice xna N1 xnc, .slice xaa L xac]] W fun e w' => e = .returned (.bool NB) ∧ Below W.heap.size W w') := Har
  have HX2 := Lib.hid hx2
  have HX3 := Lib.hid hx3
  have HX4 := Lib.hid hx4
  have Hs := Lib.hid hs.2.2
  have HA := Lib.hid hA2
  have HO := Lib.hid hO
  have Hb2 := Lib.hid hb2
  have x0 := hA2.cell 0
  have x1 := hA2.cell 1
  have x2 := hA2.cell 2
  have xl := hA2.lt
  have o0 := hO.cell 0
  have ol := hO.lt
  have of_ := hO.frozen 0
  simp only [List.getElem?_cons_zero, List.getElem?_cons_succ] at x0 x1 x2 o0
  obtain ⟨bx, hbx⟩ : ∃ q, Hid (w.heap.size = q) := ⟨_, Lib.hid rfl⟩
  have hbW : bx ≤ w.heap.size := by rw [hbx.out]; exact Nat.le_refl _
  have hlo : w.heap.size ≤ bx + 1 := by rw [hbx.out]; omega
  clear Har hA hb1 hA2 hO hb2 hx1 hx2 hx3 hx4 hat
  by_cases h1 : N1 = L
  case neg =>
    have hEE : Hid (backE P = 1) := Lib.hid (by unfold backE; exact if_neg (by rw [hPt.out.2.1, hPt.out.2.2, List.length_map, HN1.out, HL.out]; exact h1))
    have hne : ((N1 : Int) != (L : Int)) = true := by rw [bne_iff_ne]; omega
    have HN := Lib.hid h1
    clear h1
    go_enter Try.func95, Try.ntmps95
    go_wp2_with (fail)
    rw [hbx.out] at HO ol ⊢
    generalize hV : World.alloc (World.alloc w _) _ = V at HO Hb2 ⊢
    have y0 := HO.out.cell 0
    simp only [List.getElem?_cons_zero] at y0
    refine bodyPost_ret (v := .tuple #[.agg #[.slice none 0 0], .int .i64 1]) (by simp [results, Try.results95, go_sem, y0]; try first | rfl | assumption | omega) rfl ?_
    rw [← hQ.out, hEE.out]
    exact ⟨[], none, 0, rfl, Rls.nil _, by rw [if_neg (by decide)]; rfl, Hb2.out⟩
  case pos =>
  subst h1
  have heq : ((N1 : Int) != (N1 : Int)) = false := by simp
  go_enter Try.func95, Try.ntmps95
  go_wp2_with (fail)
  have Hc1 := Lib.hid (Har'.out _ Hb2.out)
  rw [hbx.out] at HA HO ⊢
  generalize hV : World.alloc (World.alloc w _) _ = V at HA HO Hb2 Hc1 ⊢
  clear hV x0 x1 x2 xl o0 ol of_
  refine Hc1.out.mono ?_
  clear Hc1
  rintro e w3 ⟨rfl, hb3⟩
  have HA3 := Lib.hid (HA.out.below hb3 HA.out.lt)
  have HO3 := Lib.hid (HO.out.below hb3 HO.out.lt)
  have Hb3 := Lib.hid (Hb2.out.trans (hb3.mono Hb2.out.size))
  clear hb3 HA HO Hb2
  have o0 := HO3.out.cell 0
  have ol := HO3.out.lt
  have of_ := HO3.out.frozen 0
  simp only [List.getElem?_cons_zero] at o0
  cases NB
  case false =>
    have hEE : Hid (backE P = 1) := Lib.hid (by unfold backE; rw [hNB.out]; split <;> rfl)
    go_wp2_with (fail)
    have hR := HO3.out.set 0 (.slice none 0 0)
    have hB := Hb3.out.setCell (show w.heap.size ≤ (⟨bx + 1, 0, none⟩ : Addr).block from hlo) (.slice none 0 0)
    generalize hW : World.setCell w3 _ _ = W9 at hR hB ⊢
    simp only [List.set_cons_zero] at hR
    have y0 := hR.cell 0
    simp only [List.getElem?_cons_zero] at y0
    refine bodyPost_ret (v := .tuple #[.agg #[.slice none 0 0], .int .i64 1]) (by simp [results, Try.results95, go_sem, y0]; try first | rfl | assumption | omega) rfl ?_
    rw [← hQ.out, hEE.out]
    exact ⟨[], none, 0, rfl, Rls.nil _, by rw [if_neg (by decide)]; rfl, hB⟩
  case true =>
  have hEE : Hid (backE P = 0) := Lib.hid (by unfold backE; rw [hNB.out, if_pos (by rw [hPt.out.2.1, hPt.out.2.2, List.length_map, HN1.out, HL.out])]; rfl)
  rw [hEE.out] at hQ
  clear o0 ol of_
  have hOK : Hid (∀ r ∈ xa, ∀ a ∈ r.ds, ∀ x ∈ a.l, okN xt.length xn.length x = true) := Lib.hid (fun r hr a ha x hx => by
    have h1 := hNB.out
    rw [← hPP.out] at h1
    unfold numsB at h1
    dsimp only at h1
    rw [List.all_map, List.all_eq_true] at h1
    have h2 := h1 r hr
    simp only [Function.comp, IrD.p, List.all_map] at h2
    exact List.all_eq_true.1 (List.all_eq_true.1 h2 a ha) x hx)
  have hg1 : Below w3.heap.size w3 (w3.alloc (.cells #[.slice none 0 0] 24)) := (Below.refl _ w3).alloc (Nat.le_refl _) _
  have HK : Hid (BkSt w3 (w3.alloc (.cells #[.slice none 0 0] 24)) w3.heap.size P 0 none 0 []) := Lib.hid ⟨Blk.new w3 24 #[.slice none 0 0], World.ownsRow_nil _ _ _ 2, rfl, fun r h => (by cases h), by unfold grP; simp [backR], hg1⟩
  have x2 := HA3.out.cell 2
  have xl := HA3.out.lt
  simp only [List.getElem?_cons_zero, List.getElem?_cons_succ] at x2
  have hrb : bx + 1 < w3.heap.size := HO3.out.lt
  clear hg1
  go_wp2_with (fail)
  obtain ⟨cb, hcb⟩ : ∃ q, Hid (w3.heap.size = q) := ⟨_, Lib.hid rfl⟩
  rw [hcb.out] at HK hrb ⊢
  generalize hW : World.alloc w3 _ = V4 at HK ⊢
  clear hW x2 xl
  have hwc : w.heap.size ≤ cb := by rw [← hcb.out]; exact Hb3.out.size
  go_loopw [23] (fun iv wr => ∃ (k : Nat) (ga : Option Addr) (gc : Nat) (rs : List RlD), k ≤ N1 ∧ iv = .int .i64 (k : Int) ∧ Hid (BkSt w3 wr cb P k ga gc rs)) (fun iv _ => N1 - (intOf iv).toNat)
  case atStart => exact ⟨0, none, 0, [], Nat.zero_le _, rfl, HK⟩
  case round =>
    clear HK
    obtain ⟨k, ga, gc, rs, hk, rfl, HS⟩ := hrel
    have hfr : Below w.heap.size w wr := Hb3.out.trans (HS.out.frm.mono hwc)
    have hf9 : Below w3.heap.size w3 wr := by have := HS.out.frm; rw [← hcb.out] at this; exact this
    by_cases hlt : k < N1
    · have hkI : (k : Int) < (N1 : Int) := by omega
      have hkI0 : (0 : Int) ≤ (k : Int) := by omega
      have hkl : k < xa.length := by rw [HL.out]; exact hlt
      have hkn : k < xn.length := by rw [HN1.out]; exact hlt
      obtain ⟨b, off, ha⟩ := HX3.out.at_ k (by rw [List.length_map]; exact hkl)
      have c0 := (HX3.out.grown hfr).cell b off ha k (by rw [List.length_map]; exact hkl)
      obtain ⟨b2, off2, hna⟩ := HX2.out.at_ k (by rw [List.length_map]; exact hkn)
      have n0 := (HX2.out.grown hfr.drew).cell b2 off2 hna k (by rw [List.length_map]; exact hkn)
      rw [List.getElem_map] at c0 n0
      have hm : xa[k] ∈ xa := List.getElem_mem hkl
      have hst : Hid (backR P.toks P.names (P.names.take (k + 1)) (P.alts.take (k + 1)) = backR P.toks P.names (P.names.take k) (P.alts.take k) ++ [(xn[k], xa[k].p.map (fun x => x.map (nmP xt xn)))]) := Lib.hid (by
        have h1 := backR_take xt xn xn (xa.map IrD.p) k hkn (by rw [List.length_map]; exact hkl)
        rw [List.getElem_map] at h1
        rw [hPt.out.1, hPt.out.2.1, hPt.out.2.2]
        exact h1)
      obtain ⟨e, he⟩ : ∃ v, Hid (xa[k] = v) := ⟨_, Lib.hid rfl⟩
      obtain ⟨nm, hnme⟩ : ∃ v, Hid (xn[k] = v) := ⟨_, Lib.hid rfl⟩
      rw [he.out] at c0 hm hst
      rw [hnme.out] at n0 hst
      have hok := hOK.out e hm
      have hsz := Hs.out e hm
      have hal := HX4.out e hm
      obtain ⟨ed, ea, ec⟩ := e
      change _ = some (Value.slice ea ed.length ec) at c0
      dsimp only at hok hsz hal
      have hbl := World.block_lt_of_cell? wr _ c0
      have hA9 := HA3.out.below hf9 HA3.out.lt
      have hK : ∀ (args : Array Value) (w : World), (callFunc 122 args).run Try.prog w = .ok (.enter 122 args) w := fun args w => by kernel_rfl
      have hatd := Hat.out.grown hfr.drew
      have hAd : Blk wr.drew bx 41 [.slice xta T1 xtc, .slice xna N1 xnc, .slice xaa N1 xac] := hA9
      have Hc := Lib.hid (exchS_any ed ea ec wr.drew (hal.grown hfr.drew) 122 (.pointer (some ⟨bx, 0, none⟩)) hK (nmP xt xn) (fun W' x hb hx => backName_any W' bx ⟨xt, xta, xtc, xn, xna, xnc, xa, xaa, xac⟩ x (by dsimp only; rw [HT1.out, HN1.out, HL.out]; exact hAd.below hb hAd.lt) (hatd.grown hb) (by obtain ⟨a, h1, h2⟩ := hx; exact hok a h1 x h2) (by dsimp only; rw [HT1.out, HN1.out]; omega)) hsz.1 (fun a h => hsz.2 a h))
      have HedL : Hid ((ed.map (fun a => a.l.map (nmP xt xn))).length = ed.length) := Lib.hid (by rw [List.length_map])
      have hstp : Hid ((⟨ed, ea, ec⟩ : IrD).p.map (fun x => x.map (nmP xt xn)) = ed.map (fun a => a.l.map (nmP xt xn))) := Lib.hid (by simp [IrD.p, List.map_map])
      rw [hstp.out] at hst
      have hc3 : cb ≤ wr.heap.size := by rw [← hcb.out]; exact hf9.size
      have q1 : wr.drew.cell? ⟨cb, 0, none⟩ = some (.slice ga k gc) := by simpa using HS.out.box.cell 0
      have x1 := hAd.cell 1
      simp only [List.getElem?_cons_zero, List.getElem?_cons_succ] at x1
      have HS7 : Hid (wr.drew.cell? ⟨bx, 1, none⟩ = some (.slice (some ⟨b2, off2, none⟩) N1 xnc) ∧ wr.drew.cell? ⟨b2, off2 + k, none⟩ = some (.string nm)) := Lib.hid ⟨by rw [← hna]; exact x1, n0⟩
      obtain ⟨ED, hED⟩ : ∃ q, Hid (ed.length = q) := ⟨_, Lib.hid rfl⟩
      rw [hED.out] at c0 hsz Hc HedL
      have Hfrd := Lib.hid hfr
      have HN3 : Hid (w3.cell? ⟨b2, off2 + k, none⟩ = some (.string nm)) := Lib.hid (by have h1 := (HX2.out.grown Hb3.out).cell b2 off2 hna k (by rw [List.length_map]; exact hkn); rw [List.getElem_map, hnme.out] at h1; exact h1)
      subst ha
      subst hna
      clear hm hal hA9 hatd hAd hK hok n0 x1 hfr hf9
      go_wp2_with (fail)
      refine wp_region_held_drew (S := fun w' => (w'.cell? ⟨bx, 1, none⟩ = some (.slice (some ⟨b2, off2, none⟩) N1 xnc) ∧ w'.cell? ⟨b2, off2 + k, none⟩ = some (.string nm))) (by kernel_rfl) ?_ (fun hHeld => ?_)
      · exact HS7.out
      refine wpAnyH_take (i := 0) (v := ?_) (iatLS iatZS) (by kernel_rfl) (by kernel_rfl) (by kernel_rfl) (fun _ _ _ h => h) (Or.inl ⟨by rfl, ?_⟩) (by assumption) ?_
      rotate_left
      · intro w hSw
        try dsimp only at hSw
        go_simp
        all_goals with_reducible rfl
      try simp only [Act.put, List.setIfInBounds_toArray, List.set_cons_zero, List.set_cons_succ]
      refine wpAnyH_take (i := 2) (v := ?_) (iatLS (iatSS (iatSS iatZS))) (by kernel_rfl) (by kernel_rfl) (by kernel_rfl) (fun _ _ _ h => h) (Or.inl ⟨by rfl, ?_⟩) (by assumption) ?_
      rotate_left
      · intro w hSw
        try dsimp only at hSw
        go_simp
        all_goals with_reducible rfl
      try simp only [Act.put, List.setIfInBounds_toArray, List.set_cons_zero, List.set_cons_succ]
      refine wpAnyH_take (i := 3) (v := ?_) (iatLS (iatSS (iatSS (iatSS iatZS)))) (by kernel_rfl) (by kernel_rfl) (by kernel_rfl) (fun _ _ _ h => h) (Or.inl ⟨by rfl, ?_⟩) (by assumption) ?_
      rotate_left
      · intro w hSw
        try dsimp only at hSw
        go_simp
        all_goals with_reducible rfl
      try simp only [Act.put, List.setIfInBounds_toArray, List.set_cons_zero, List.set_cons_succ]
      refine wpAnyH_take (i := 4) (v := ?_) (iatLS (iatSS (iatSS (iatSS (iatSS iatZS))))) (by kernel_rfl) (by kernel_rfl) (by kernel_rfl) (fun _ _ _ h => h) (Or.inl ⟨by rfl, ?_⟩) (by assumption) ?_
      rotate_left
      · intro w hSw
        try dsimp only at hSw
        go_simp
        all_goals with_reducible rfl
      try simp only [Act.put, List.setIfInBounds_toArray, List.set_cons_zero, List.set_cons_succ]
      refine wpAnyH_take (i := 5) (v := ?_) (iatLS (iatSS (iatSS (iatSS (iatSS (iatSS iatZS)))))) (by kernel_rfl) (by kernel_rfl) (by kernel_rfl) (fun _ _ _ h => h) (Or.inl ⟨by rfl, ?_⟩) (by assumption) ?_
      rotate_left
      · intro w hSw
        try dsimp only at hSw
        go_simp
        all_goals with_reducible rfl
      try simp only [Act.put, List.setIfInBounds_toArray, List.set_cons_zero, List.set_cons_succ]
      refine wpAnyH_take (i := 6) (v := ?_) (iatLS (iatSS (iatSS (iatSS (iatSS (iatSS (iatSS iatZS))))))) (by kernel_rfl) (by kernel_rfl) (by kernel_rfl) (fun _ _ _ h => h) (Or.inl ⟨by rfl, ?_⟩) (by assumption) ?_
      rotate_left
      · intro w hSw
        try dsimp only at hSw
        go_simp
        all_goals with_reducible rfl
      try simp only [Act.put, List.setIfInBounds_toArray, List.set_cons_zero, List.set_cons_succ]
      refine wpAnyH_take (i := 7) (v := ?_) (iatLS (iatSS (iatSS (iatSS (iatSS (iatSS (iatSS (iatSS iatZS)))))))) (by kernel_rfl) (by kernel_rfl) (by kernel_rfl) (fun _ _ _ h => h) (Or.inl ⟨by rfl, ?_⟩) (by assumption) ?_
      rotate_left
      · intro w hSw
        try dsimp only at hSw
        go_simp
        all_goals with_reducible rfl
      try simp only [Act.put, List.setIfInBounds_toArray, List.set_cons_zero, List.set_cons_succ]
      refine wpAnyH_take (i := 8) (v := ?_) (iatLS (iatSS (iatSS (iatSS (iatSS (iatSS (iatSS (iatSS (iatSS iatZS))))))))) (by kernel_rfl) (by kernel_rfl) (by kernel_rfl) (fun _ _ _ h => h) (Or.inl ⟨by rfl, ?_⟩) (by assumption) ?_
      rotate_left
      · intro w hSw
        try dsimp only at hSw
        go_simp
        all_goals with_reducible rfl
      try simp only [Act.put, List.setIfInBounds_toArray, List.set_cons_zero, List.set_cons_succ]
      refine wpAnyH_ready (rs := [1, 9]) (by kernel_rfl) (by simp) ?_
      refine AllReadyH.cons (iatLS (iatSS iatZS)) (fun K hK => ?_) (AllReadyH.cons (iatLS (iatSS (iatSS (iatSS (iatSS (iatSS (iatSS (iatSS (iatSS (iatSS iatZS)))))))))) (fun K hK => ?_) (AllReadyH.nil))
      ·
        go_simp
        refine hK.out _ _ ?_ (fun hHeld => ?_)
        · exact HS7.out
        clear hK K
        try simp only [Act.put, List.setIfInBounds_toArray, List.set_cons_zero, List.set_cons_succ]
        refine wpAnyH_ready (rs := [9]) (by kernel_rfl) (by simp) ?_
        refine AllReadyH.cons (iatLS (iatSS (iatSS (iatSS (iatSS (iatSS (iatSS (iatSS (iatSS (iatSS iatZS)))))))))) (fun K hK => ?_) AllReadyH.nil
        go_simp
        (with_reducible refine Hc.out.mono ?_)
        rintro e4 V5 ⟨xa2, xc2, ds2, rfl, hx4, hm4, hb4⟩
        have hdn : ds2.length = ED := (by have h1 := congrArg List.length hm4; rw [List.length_map, HedL.out] at h1; exact h1)
        have hb3d : Below wr.heap.size wr V5 := (Below.refl _ wr).drew.trans hb4
        have hC4 := HS.out.box.below hb3d HS.out.box.lt
        have hR4 : OwnR V5 cb ga gc rs := World.ownsRow.kept HS.out.row (below_grownBy hb3d none) (by cases e : (Value.slice ga rs.length gc).ownBlock <;> simp)
        have hX4 := fun x hx => (HS.out.ins x hx).below hb3d
        have hc4 := Nat.le_trans hc3 hb3d.size
        have hF4 := HS.out.frm.trans (hb3d.mono hc3)
        have hx4m := hx4.mono hc3
        obtain ⟨ga2, gc2, W5, hrun5, hr5, hg5, _⟩ := OwnR.push8 hR4 ⟨nm, ds2, xa2, xc2⟩ 22 (by rw [HS.out.len]; omega) hc4
        dsimp only at hrun5
        rw [hdn, HS.out.len] at hrun5
        have rowA : ∀ g, (Value.slice ga rs.length gc).ownBlock = some g → ∃ cur t fr, V5.heap[g]? = some (.cells cur t fr) ∧ t = 34 := fun g h1 => (by obtain ⟨_, cur, h2⟩ := own_typ hR4 g h1; exact ⟨cur, _, _, h2, rfl⟩)
        have hC5 := hC4.kept hg5 (fun h1 => own_ne_ty hR4 hC4 (by decide) h1.symm)
        have hX5 := fun x hx => (hX4 x hx).kept hg5 (fun g h1 => by obtain ⟨cur, t, fr, h2, rfl⟩ := rowA g h1; exact ⟨cur, _, fr, h2, by decide, by decide⟩)
        have hx5 := hx4m.kept hg5 (fun g h1 => by obtain ⟨cur, t, fr, h2, rfl⟩ := rowA g h1; exact ⟨cur, _, fr, h2, by decide, by decide⟩)
        have hF5 := hF4.trans (belowAt hg5 (B := cb) (fun g h1 => (own_typ hR4 g h1).1) hc4)
        have hc5 := Nat.le_trans hc4 hg5.size
        have hgS := grownBy_set W5 cb 0 (.slice ga2 (k + 1) gc2)
        have boxS : ∀ g, some cb = some g → ∃ cur t fr, W5.heap[g]? = some (.cells cur t fr) ∧ t = 24 := fun g h1 => (by injection h1 with h1; subst h1; exact ⟨_, _, _, hC5, rfl⟩)
        have hC6 := hC5.set 0 (.slice ga2 (k + 1) gc2)
        simp only [List.set_cons_zero, List.set_cons_succ] at hC6
        have hr6 := own_kept_ty hr5 hgS (fun g h1 => by obtain ⟨cur, t, fr, h2, rfl⟩ := boxS g h1; exact ⟨cur, _, fr, h2, by decide⟩)
        have hX6 := fun x hx => (hX5 x hx).kept hgS (fun g h1 => by obtain ⟨cur, t, fr, h2, rfl⟩ := boxS g h1; exact ⟨cur, _, fr, h2, by decide, by decide⟩)
        have hx6 := hx5.kept hgS (fun g h1 => by obtain ⟨cur, t, fr, h2, rfl⟩ := boxS g h1; exact ⟨cur, _, fr, h2, by decide, by decide⟩)
        have hF6 := hF5.trans (belowAt hgS (B := cb) (fun g h1 => by injection h1 with h1; omega) hc5)
        have HNb : Hid (BkSt w3 (W5.setCell ⟨cb, 0, none⟩ (.slice ga2 (k + 1) gc2)) cb P (k + 1) ga2 gc2 (rs ++ [⟨nm, ds2, xa2, xc2⟩])) := Lib.hid ⟨hC6, hr6, (by rw [List.length_append, HS.out.len]; rfl), (fun x hx => by rcases List.mem_append.1 hx with hx | hx; exact hX6 x hx; rw [List.mem_singleton] at hx; subst hx; exact hx6), (by unfold grP; rw [List.map_append]; show grP rs ++ [(nm, ds2.map (fun d => d.l))] = _; rw [HS.out.is_, hst.out, hm4]), hF6⟩
        have q2 : V5.cell? ⟨cb, 0, none⟩ = some (.slice ga k gc) := (by simpa using hC4.cell 0)
        have q2l := hC4.lt
        have q3 : ∀ o, (V5.alloc o).cell? ⟨cb, 0, none⟩ = some (.slice ga k gc) := fun o => (by simpa using (hC4.alloc o).cell 0)
        have q5 : W5.cell? ⟨cb, 0, none⟩ = some (.slice ga k gc) := (by simpa using hC5.cell 0)
        have q5l := hC5.lt
        have q5f := hC5.frozen 0
        have Hap := Lib.hid hrun5
        have HS7b : Hid (V5.cell? ⟨bx, 1, none⟩ = some (.slice (some ⟨b2, off2, none⟩) N1 xnc) ∧ V5.cell? ⟨b2, off2 + k, none⟩ = some (.string nm)) := Lib.hid ⟨cell_up hb4 HS7.out.1, cell_up hb4 HS7.out.2⟩
        have HS7c : Hid (∀ o, (V5.alloc o).cell? ⟨bx, 1, none⟩ = some (.slice (some ⟨b2, off2, none⟩) N1 xnc) ∧ (V5.alloc o).cell? ⟨b2, off2 + k, none⟩ = some (.string nm)) := Lib.hid (fun o => ⟨cell_up ((Below.refl _ V5).alloc (Nat.le_refl _) o) HS7b.out.1, cell_up ((Below.refl _ V5).alloc (Nat.le_refl _) o) HS7b.out.2⟩)
        have hw5 : Below cb w3 W5 := hF5
        have hw6 := hF6
        have HS7d : Hid (W5.cell? ⟨bx, 1, none⟩ = some (.slice (some ⟨b2, off2, none⟩) N1 xnc) ∧ W5.cell? ⟨b2, off2 + k, none⟩ = some (.string nm)) := Lib.hid ⟨by have h1 := HA3.out; have h2 := hw5.cell (p := ⟨bx, 1, none⟩) (by show bx < cb; omega); rw [h2]; simpa using h1.cell 1, by have h3 : w3.cell? ⟨b2, off2 + k, none⟩ = some (.string nm) := HN3.out; rw [hw5.cell (p := ⟨b2, off2 + k, none⟩) (by show b2 < cb; rw [← hcb.out]; exact World.block_lt_of_cell? _ _ h3)]; exact h3⟩
        have HS7e : Hid ((W5.setCell ⟨cb, 0, none⟩ (.slice ga2 (k + 1) gc2)).cell? ⟨bx, 1, none⟩ = some (.slice (some ⟨b2, off2, none⟩) N1 xnc) ∧ (W5.setCell ⟨cb, 0, none⟩ (.slice ga2 (k + 1) gc2)).cell? ⟨b2, off2 + k, none⟩ = some (.string nm)) := Lib.hid ⟨by have h1 := HA3.out; have h2 := hw6.cell (p := ⟨bx, 1, none⟩) (by show bx < cb; omega); rw [h2]; simpa using h1.cell 1, by have h3 : w3.cell? ⟨b2, off2 + k, none⟩ = some (.string nm) := HN3.out; rw [hw6.cell (p := ⟨b2, off2 + k, none⟩) (by show b2 < cb; rw [← hcb.out]; exact World.block_lt_of_cell? _ _ h3)]; exact h3⟩
        clear hx4 hm4 hb4 hdn hb3d hC4 hR4 hX4 hc4 hF4 hx4m hrun5 hr5 hg5 rowA hC5 hX5 hx5 hF5 hc5 hgS boxS hC6 hr6 hX6 hx6 hF6 hw5 hw6
        try dsimp only
        refine hK.out _ _ ?_ (fun hHeld => ?_)
        · exact HS7b.out
        clear hK K
        try simp only [Act.put, List.setIfInBounds_toArray, List.set_cons_zero, List.set_cons_succ]
        refine wpAnyH_take (i := 10) (v := ?_) (iatLS (iatSS (iatSS (iatSS (iatSS (iatSS (iatSS (iatSS (iatSS (iatSS (iatSS iatZS))))))))))) (by kernel_rfl) (by kernel_rfl) (by kernel_rfl) (fun _ _ _ h => h) (Or.inl ⟨by rfl, ?_⟩) (by assumption) ?_
        rotate_left
        · intro w hSw
          try dsimp only at hSw
          go_simp
          all_goals with_reducible rfl
        try simp only [Act.put, List.setIfInBounds_toArray, List.set_cons_zero, List.set_cons_succ]
        refine wpAnyH_ready (rs := [11]) (by kernel_rfl) (by simp) ?_
        refine AllReadyH.cons (iatLS (iatSS (iatSS (iatSS (iatSS (iatSS (iatSS (iatSS (iatSS (iatSS (iatSS (iatSS iatZS)))))))))))) (fun K hK => ?_) AllReadyH.nil
        go_simp
        refine hK.out _ _ ?_ (fun hHeld => ?_)
        · exact HS7c.out _
        clear hK K
        try simp only [Act.put, List.setIfInBounds_toArray, List.set_cons_zero, List.set_cons_succ]
        refine wpAnyH_ready (rs := [12]) (by kernel_rfl) (by simp) ?_
        refine AllReadyH.cons (iatLS (iatSS (iatSS (iatSS (iatSS (iatSS (iatSS (iatSS (iatSS (iatSS (iatSS (iatSS (iatSS iatZS))))))))))))) (fun K hK => ?_) AllReadyH.nil
        refine stepAppS rfl _ _ 22 22 rfl _ _ _ _ rfl rfl Hap.out ?_
        refine hK.out _ _ ?_ (fun hHeld => ?_)
        · exact HS7d.out
        clear hK K
        try simp only [Act.put, List.setIfInBounds_toArray, List.set_cons_zero, List.set_cons_succ]
        refine wpAnyH_take (i := 13) (v := ?_) (iatLS (iatSS (iatSS (iatSS (iatSS (iatSS (iatSS (iatSS (iatSS (iatSS (iatSS (iatSS (iatSS (iatSS iatZS)))))))))))))) (by kernel_rfl) (by kernel_rfl) (by kernel_rfl) (fun _ _ _ h => h) (Or.inl ⟨by rfl, ?_⟩) (by assumption) ?_
        rotate_left
        · intro w hSw
          try dsimp only at hSw
          go_simp
          all_goals with_reducible rfl
        try simp only [Act.put, List.setIfInBounds_toArray, List.set_cons_zero, List.set_cons_succ]
        refine wpAnyH_ready (rs := [14]) (by kernel_rfl) (by simp) ?_
        refine AllReadyH.cons (iatLS (iatSS (iatSS (iatSS (iatSS (iatSS (iatSS (iatSS (iatSS (iatSS (iatSS (iatSS (iatSS (iatSS (iatSS iatZS))))))))))))))) (fun K hK => ?_) AllReadyH.nil
        go_simp
        refine hK.out _ _ ?_ (fun hHeld => ?_)
        · exact HS7e.out
        clear hK K
        try simp only [Act.put, List.setIfInBounds_toArray, List.set_cons_zero, List.set_cons_succ]
        refine wpAnyH_done (by kernel_rfl) ?_ _
        go_wp2_with (fail)
        exact ⟨⟨k + 1, ga2, gc2, _, by omega, by go_num, HNb⟩, by simp [intOf]; omega⟩
      ·
        go_simp
        (with_reducible refine Hc.out.mono ?_)
        rintro e4 V5 ⟨xa2, xc2, ds2, rfl, hx4, hm4, hb4⟩
        have hdn : ds2.length = ED := (by have h1 := congrArg List.length hm4; rw [List.length_map, HedL.out] at h1; exact h1)
        have hb3d : Below wr.heap.size wr V5 := (Below.refl _ wr).drew.trans hb4
        have hC4 := HS.out.box.below hb3d HS.out.box.lt
        have hR4 : OwnR V5 cb ga gc rs := World.ownsRow.kept HS.out.row (below_grownBy hb3d none) (by cases e : (Value.slice ga rs.length gc).ownBlock <;> simp)
        have hX4 := fun x hx => (HS.out.ins x hx).below hb3d
        have hc4 := Nat.le_trans hc3 hb3d.size
        have hF4 := HS.out.frm.trans (hb3d.mono hc3)
        have hx4m := hx4.mono hc3
        obtain ⟨ga2, gc2, W5, hrun5, hr5, hg5, _⟩ := OwnR.push8 hR4 ⟨nm, ds2, xa2, xc2⟩ 22 (by rw [HS.out.len]; omega) hc4
        dsimp only at hrun5
        rw [hdn, HS.out.len] at hrun5
        have rowA : ∀ g, (Value.slice ga rs.length gc).ownBlock = some g → ∃ cur t fr, V5.heap[g]? = some (.cells cur t fr) ∧ t = 34 := fun g h1 => (by obtain ⟨_, cur, h2⟩ := own_typ hR4 g h1; exact ⟨cur, _, _, h2, rfl⟩)
        have hC5 := hC4.kept hg5 (fun h1 => own_ne_ty hR4 hC4 (by decide) h1.symm)
        have hX5 := fun x hx => (hX4 x hx).kept hg5 (fun g h1 => by obtain ⟨cur, t, fr, h2, rfl⟩ := rowA g h1; exact ⟨cur, _, fr, h2, by decide, by decide⟩)
        have hx5 := hx4m.kept hg5 (fun g h1 => by obtain ⟨cur, t, fr, h2, rfl⟩ := rowA g h1; exact ⟨cur, _, fr, h2, by decide, by decide⟩)
        have hF5 := hF4.trans (belowAt hg5 (B := cb) (fun g h1 => (own_typ hR4 g h1).1) hc4)
        have hc5 := Nat.le_trans hc4 hg5.size
        have hgS := grownBy_set W5 cb 0 (.slice ga2 (k + 1) gc2)
        have boxS : ∀ g, some cb = some g → ∃ cur t fr, W5.heap[g]? = some (.cells cur t fr) ∧ t = 24 := fun g h1 => (by injection h1 with h1; subst h1; exact ⟨_, _, _, hC5, rfl⟩)
        have hC6 := hC5.set 0 (.slice ga2 (k + 1) gc2)
        simp only [List.set_cons_zero, List.set_cons_succ] at hC6
        have hr6 := own_kept_ty hr5 hgS (fun g h1 => by obtain ⟨cur, t, fr, h2, rfl⟩ := boxS g h1; exact ⟨cur, _, fr, h2, by decide⟩)
        have hX6 := fun x hx => (hX5 x hx).kept hgS (fun g h1 => by obtain ⟨cur, t, fr, h2, rfl⟩ := boxS g h1; exact ⟨cur, _, fr, h2, by decide, by decide⟩)
        have hx6 := hx5.kept hgS (fun g h1 => by obtain ⟨cur, t, fr, h2, rfl⟩ := boxS g h1; exact ⟨cur, _, fr, h2, by decide, by decide⟩)
        have hF6 := hF5.trans (belowAt hgS (B := cb) (fun g h1 => by injection h1 with h1; omega) hc5)
        have HNb : Hid (BkSt w3 (W5.setCell ⟨cb, 0, none⟩ (.slice ga2 (k + 1) gc2)) cb P (k + 1) ga2 gc2 (rs ++ [⟨nm, ds2, xa2, xc2⟩])) := Lib.hid ⟨hC6, hr6, (by rw [List.length_append, HS.out.len]; rfl), (fun x hx => by rcases List.mem_append.1 hx with hx | hx; exact hX6 x hx; rw [List.mem_singleton] at hx; subst hx; exact hx6), (by unfold grP; rw [List.map_append]; show grP rs ++ [(nm, ds2.map (fun d => d.l))] = _; rw [HS.out.is_, hst.out, hm4]), hF6⟩
        have q2 : V5.cell? ⟨cb, 0, none⟩ = some (.slice ga k gc) := (by simpa using hC4.cell 0)
        have q2l := hC4.lt
        have q3 : ∀ o, (V5.alloc o).cell? ⟨cb, 0, none⟩ = some (.slice ga k gc) := fun o => (by simpa using (hC4.alloc o).cell 0)
        have q5 : W5.cell? ⟨cb, 0, none⟩ = some (.slice ga k gc) := (by simpa using hC5.cell 0)
        have q5l := hC5.lt
        have q5f := hC5.frozen 0
        have Hap := Lib.hid hrun5
        have HS7b : Hid (V5.cell? ⟨bx, 1, none⟩ = some (.slice (some ⟨b2, off2, none⟩) N1 xnc) ∧ V5.cell? ⟨b2, off2 + k, none⟩ = some (.string nm)) := Lib.hid ⟨cell_up hb4 HS7.out.1, cell_up hb4 HS7.out.2⟩
        have HS7c : Hid (∀ o, (V5.alloc o).cell? ⟨bx, 1, none⟩ = some (.slice (some ⟨b2, off2, none⟩) N1 xnc) ∧ (V5.alloc o).cell? ⟨b2, off2 + k, none⟩ = some (.string nm)) := Lib.hid (fun o => ⟨cell_up ((Below.refl _ V5).alloc (Nat.le_refl _) o) HS7b.out.1, cell_up ((Below.refl _ V5).alloc (Nat.le_refl _) o) HS7b.out.2⟩)
        have hw5 : Below cb w3 W5 := hF5
        have hw6 := hF6
        have HS7d : Hid (W5.cell? ⟨bx, 1, none⟩ = some (.slice (some ⟨b2, off2, none⟩) N1 xnc) ∧ W5.cell? ⟨b2, off2 + k, none⟩ = some (.string nm)) := Lib.hid ⟨by have h1 := HA3.out; have h2 := hw5.cell (p := ⟨bx, 1, none⟩) (by show bx < cb; omega); rw [h2]; simpa using h1.cell 1, by have h3 : w3.cell? ⟨b2, off2 + k, none⟩ = some (.string nm) := HN3.out; rw [hw5.cell (p := ⟨b2, off2 + k, none⟩) (by show b2 < cb; rw [← hcb.out]; exact World.block_lt_of_cell? _ _ h3)]; exact h3⟩
        have HS7e : Hid ((W5.setCell ⟨cb, 0, none⟩ (.slice ga2 (k + 1) gc2)).cell? ⟨bx, 1, none⟩ = some (.slice (some ⟨b2, off2, none⟩) N1 xnc) ∧ (W5.setCell ⟨cb, 0, none⟩ (.slice ga2 (k + 1) gc2)).cell? ⟨b2, off2 + k, none⟩ = some (.string nm)) := Lib.hid ⟨by have h1 := HA3.out; have h2 := hw6.cell (p := ⟨bx, 1, none⟩) (by show bx < cb; omega); rw [h2]; simpa using h1.cell 1, by have h3 : w3.cell? ⟨b2, off2 + k, none⟩ = some (.string nm) := HN3.out; rw [hw6.cell (p := ⟨b2, off2 + k, none⟩) (by show b2 < cb; rw [← hcb.out]; exact World.block_lt_of_cell? _ _ h3)]; exact h3⟩
        clear hx4 hm4 hb4 hdn hb3d hC4 hR4 hX4 hc4 hF4 hx4m hrun5 hr5 hg5 rowA hC5 hX5 hx5 hF5 hc5 hgS boxS hC6 hr6 hX6 hx6 hF6 hw5 hw6
        try dsimp only
        refine hK.out _ _ ?_ (fun hHeld => ?_)
        · exact HS7b.out
        clear hK K
        try simp only [Act.put, List.setIfInBounds_toArray, List.set_cons_zero, List.set_cons_succ]
        refine wpAnyH_take (i := 10) (v := ?_) (iatLS (iatSS (iatSS (iatSS (iatSS (iatSS (iatSS (iatSS (iatSS (iatSS (iatSS iatZS))))))))))) (by kernel_rfl) (by kernel_rfl) (by kernel_rfl) (fun _ _ _ h => h) (Or.inl ⟨by rfl, ?_⟩) (by assumption) ?_
        rotate_left
        · intro w hSw
          try dsimp only at hSw
          go_simp
          all_goals with_reducible rfl
        try simp only [Act.put, List.setIfInBounds_toArray, List.set_cons_zero, List.set_cons_succ]
        refine wpAnyH_ready (rs := [1, 11]) (by kernel_rfl) (by simp) ?_
        refine AllReadyH.cons (iatLS (iatSS iatZS)) (fun K hK => ?_) (AllReadyH.cons (iatLS (iatSS (iatSS (iatSS (iatSS (iatSS (iatSS (iatSS (iatSS (iatSS (iatSS (iatSS iatZS)))))))))))) (fun K hK => ?_) (AllReadyH.nil))
        ·
          go_simp
          refine hK.out _ _ ?_ (fun hHeld => ?_)
          · exact HS7b.out
          clear hK K
          try simp only [Act.put, List.setIfInBounds_toArray, List.set_cons_zero, List.set_cons_succ]
          refine wpAnyH_ready (rs := [11]) (by kernel_rfl) (by simp) ?_
          refine AllReadyH.cons (iatLS (iatSS (iatSS (iatSS (iatSS (iatSS (iatSS (iatSS (iatSS (iatSS (iatSS (iatSS iatZS)))))))))))) (fun K hK => ?_) AllReadyH.nil
          go_simp
          refine hK.out _ _ ?_ (fun hHeld => ?_)
          · exact HS7c.out _
          clear hK K
          try simp only [Act.put, List.setIfInBounds_toArray, List.set_cons_zero, List.set_cons_succ]
          refine wpAnyH_ready (rs := [12]) (by kernel_rfl) (by simp) ?_
          refine AllReadyH.cons (iatLS (iatSS (iatSS (iatSS (iatSS (iatSS (iatSS (iatSS (iatSS (iatSS (iatSS (iatSS (iatSS iatZS))))))))))))) (fun K hK => ?_) AllReadyH.nil
          refine stepAppS rfl _ _ 22 22 rfl _ _ _ _ rfl rfl Hap.out ?_
          refine hK.out _ _ ?_ (fun hHeld => ?_)
          · exact HS7d.out
          clear hK K
          try simp only [Act.put, List.setIfInBounds_toArray, List.set_cons_zero, List.set_cons_succ]
          refine wpAnyH_take (i := 13) (v := ?_) (iatLS (iatSS (iatSS (iatSS (iatSS (iatSS (iatSS (iatSS (iatSS (iatSS (iatSS (iatSS (iatSS (iatSS iatZS)))))))))))))) (by kernel_rfl) (by kernel_rfl) (by kernel_rfl) (fun _ _ _ h => h) (Or.inl ⟨by rfl, ?_⟩) (by assumption) ?_
          rotate_left
          · intro w hSw
            try dsimp only at hSw
            go_simp
            all_goals with_reducible rfl
          try simp only [Act.put, List.setIfInBounds_toArray, List.set_cons_zero, List.set_cons_succ]
          refine wpAnyH_ready (rs := [14]) (by kernel_rfl) (by simp) ?_
          refine AllReadyH.cons (iatLS (iatSS (iatSS (iatSS (iatSS (iatSS (iatSS (iatSS (iatSS (iatSS (iatSS (iatSS (iatSS (iatSS (iatSS iatZS))))))))))))))) (fun K hK => ?_) AllReadyH.nil
          go_simp
          refine hK.out _ _ ?_ (fun hHeld => ?_)
          · exact HS7e.out
          clear hK K
          try simp only [Act.put, List.setIfInBounds_toArray, List.set_cons_zero, List.set_cons_succ]
          refine wpAnyH_done (by kernel_rfl) ?_ _
          go_wp2_with (fail)
          exact ⟨⟨k + 1, ga2, gc2, _, by omega, by go_num, HNb⟩, by simp [intOf]; omega⟩
        ·
          go_simp
          refine hK.out _ _ ?_ (fun hHeld => ?_)
          · exact HS7c.out _
          clear hK K
          try simp only [Act.put, List.setIfInBounds_toArray, List.set_cons_zero, List.set_cons_succ]
          refine wpAnyH_ready (rs := [1]) (by kernel_rfl) (by simp) ?_
          refine AllReadyH.cons (iatLS (iatSS iatZS)) (fun K hK => ?_) AllReadyH.nil
          go_simp
          refine hK.out _ _ ?_ (fun hHeld => ?_)
          · exact HS7c.out _
          clear hK K
          try simp only [Act.put, List.setIfInBounds_toArray, List.set_cons_zero, List.set_cons_succ]
          refine wpAnyH_ready (rs := [12]) (by kernel_rfl) (by simp) ?_
          refine AllReadyH.cons (iatLS (iatSS (iatSS (iatSS (iatSS (iatSS (iatSS (iatSS (iatSS (iatSS (iatSS (iatSS (iatSS iatZS))))))))))))) (fun K hK => ?_) AllReadyH.nil
          refine stepAppS rfl _ _ 22 22 rfl _ _ _ _ rfl rfl Hap.out ?_
          refine hK.out _ _ ?_ (fun hHeld => ?_)
          · exact HS7d.out
          clear hK K
          try simp only [Act.put, List.setIfInBounds_toArray, List.set_cons_zero, List.set_cons_succ]
          refine wpAnyH_take (i := 13) (v := ?_) (iatLS (iatSS (iatSS (iatSS (iatSS (iatSS (iatSS (iatSS (iatSS (iatSS (iatSS (iatSS (iatSS (iatSS iatZS)))))))))))))) (by kernel_rfl) (by kernel_rfl) (by kernel_rfl) (fun _ _ _ h => h) (Or.inl ⟨by rfl, ?_⟩) (by assumption) ?_
          rotate_left
          · intro w hSw
            try dsimp only at hSw
            go_simp
            all_goals with_reducible rfl
          try simp only [Act.put, List.setIfInBounds_toArray, List.set_cons_zero, List.set_cons_succ]
          refine wpAnyH_ready (rs := [14]) (by kernel_rfl) (by simp) ?_
          refine AllReadyH.cons (iatLS (iatSS (iatSS (iatSS (iatSS (iatSS (iatSS (iatSS (iatSS (iatSS (iatSS (iatSS (iatSS (iatSS (iatSS iatZS))))))))))))))) (fun K hK => ?_) AllReadyH.nil
          go_simp
          refine hK.out _ _ ?_ (fun hHeld => ?_)
          · exact HS7e.out
          clear hK K
          try simp only [Act.put, List.setIfInBounds_toArray, List.set_cons_zero, List.set_cons_succ]
          refine wpAnyH_done (by kernel_rfl) ?_ _
          go_wp2_with (fail)
          exact ⟨⟨k + 1, ga2, gc2, _, by omega, by go_num, HNb⟩, by simp [intOf]; omega⟩
    · obtain rfl : k = N1 := by omega
      have hkI : ¬ (k : Int) < (k : Int) := by omega
      have s0 := HS.out.box.cell 0
      have sl := HS.out.box.lt
      have hR9 := HO3.out.below hf9 HO3.out.lt
      have r0 := hR9.cell 0
      have rl := hR9.lt
      have rf0 := hR9.frozen 0
      simp only [List.getElem?_cons_zero, List.getElem?_cons_succ] at s0 r0
      have gS : wr.grownBy (wr.setCell ⟨bx + 1, 0, none⟩ (.slice ga k gc)) (some (bx + 1)) := grownBy_set wr _ _ _
      have hO := hR9.set 0 (.slice ga k gc)
      simp only [List.set_cons_zero] at hO
      have boxT : ∀ g, some (bx + 1) = some g → ∃ cur t fr, wr.heap[g]? = some (.cells cur t fr) ∧ t = 24 := fun g h1 => by injection h1 with h1; subst h1; exact ⟨_, _, _, hR9, rfl⟩
      have hr5 := own_kept_ty HS.out.row gS (fun g h1 => by obtain ⟨cur, t, fr, h2, rfl⟩ := boxT g h1; exact ⟨cur, _, fr, h2, by decide⟩)
      have hx5 := fun x hx => (HS.out.ins x hx).kept gS (fun g h1 => by obtain ⟨cur, t, fr, h2, rfl⟩ := boxT g h1; exact ⟨cur, _, fr, h2, by decide, by decide⟩)
      have hbF : Below w.heap.size w (wr.setCell ⟨bx + 1, 0, none⟩ (.slice ga k gc)) := hfr.trans (belowAt gS (fun g h1 => by injection h1 with h1; omega) hfr.size)
      have HO := Lib.hid hO
      have HB := Lib.hid hbF
      have HR5 : Hid (OwnR (wr.setCell ⟨bx + 1, 0, none⟩ (.slice ga k gc)) cb ga gc rs) := Lib.hid hr5
      have HX5 := Lib.hid hx5
      clear gS hO boxT hr5 hx5 hbF hR9
      go_wp2_with (fail)
      generalize hW : World.setCell wr _ _ = W9 at HO HB HR5 HX5 ⊢
      have y0 := HO.out.cell 0
      simp only [List.getElem?_cons_zero] at y0
      refine bodyPost_ret (v := .tuple #[.agg #[.slice ga k gc], .int .i64 0]) (by simp [results, Try.results95, go_sem, y0]; try first | rfl | assumption | omega) rfl ?_
      rw [← hQ.out]
      refine ⟨rs, ga, gc, by rw [HS.out.len], ⟨HR5.out.le8.1, HR5.out.le8.2, fun e => ?_, fun i hi => ?_, fun b off e i hi => ?_, fun r hr => (HX5.out r hr).alts⟩, ?_, HB.out⟩
      · have h1 := HR5.out.le8.1
        subst e
        rcases HR5.out.2 with ⟨e1, _⟩ | ⟨g, cp, cur, e1, _⟩
        · simp only [Value.slice.injEq] at e1
          exact e1.2.2
        · cases e1
      · obtain ⟨g, h1, _⟩ := HR5.out.at8 i hi
        exact ⟨g, 0, h1⟩
      · obtain ⟨g, h1, _, _, h2, h3⟩ := HR5.out.at8 i hi
        rw [h1] at e
        cases e
        rw [Nat.zero_add]
        exact ⟨h2, h3⟩
      · rw [if_pos rfl, HS.out.is_, List.take_of_length_le (by rw [hPt.out.2.1, HN1.out]; exact Nat.le_refl _), List.take_of_length_le (by rw [hPt.out.2.2, List.length_map, HL.out]; exact Nat.le_refl _)]
        rfl
end Go.Proofs.Ytiopbjgpaidemaa

