/- Texts joined: Fg Fh. -/
import Derived.Test.YtldmgifphkpdlaaRHAv
import Derived.Test.YtldmgifphkpdlaaRHAj
import Derived.Test.YtldmgifphkpdlaaRHAp
set_option linter.unusedVariables false
set_option linter.unusedSimpArgs false
namespace Go.Proofs.Ytldmgifphkpdlaa
open Go.RowKit Go.Maps

attribute [local go_sem] Oper.semAt_some

/-- How many tokens come from a list's first numbers; all that is more is far. -/
def ln9 (V : Nat → Int) (s : List Int) : Int := min (lenP V s) farI
theorem ln9_step {V : Nat → Int} (hV : ∀ r, 0 ≤ V r) {s : List Int} {k : Nat} (h : k < s.length) : ln9 V (s.take (k + 1)) = min (ln9 V (s.take k) + (if s[k] < 0 then V (ruL s[k]) else 1)) farI := by
  unfold ln9
  rw [len_take V s k h]
  have h1 : 0 ≤ (if s[k] < 0 then V (ruL s[k]) else 1) := by split; exact hV _; omega
  generalize (if s[k] < 0 then V (ruL s[k]) else 1) = q at h1 ⊢
  generalize lenP V (s.take k) = y
  simp only [farI]
  omega
theorem ln9_bound {V : Nat → Int} (hV : ∀ r, 0 ≤ V r) (s : List Int) : 0 ≤ ln9 V s ∧ ln9 V s ≤ 2147483647 := by
  have := len_nonneg (V := V) (s := s) (fun k _ _ => hV _)
  unfold ln9
  simp only [farI]
  omega
set_option maxRecDepth 100000 in
set_option maxHeartbeats 16000000 in
theorem len9_any (d : CfD) (s : List Int) (sa : Option Addr) (sc : Nat) (na : Option Addr) (nc : Nat) (V : Nat → Int) (w : World) (hd : CfAt w d) (hs : Ints w sa sc s) (hn : NusF w na nc d.alts.length V) (hx : ∀ x ∈ s, -(d.alts.length : Int) ≤ x ∧ x ≤ 1000000000) (hl : d.alts.length ≤ 1000000) (hV : ∀ r, 0 ≤ V r ∧ V r ≤ farI) :
    Calls Try.prog 69 #[d.v, .slice sa s.length sc, .slice na d.alts.length nc] w fun e w' => e = .returned (.int .i64 (ln9 V s)) ∧ Below w.heap.size w w' := by
  have HR := Lib.hid (fun x (hx : -(d.alts.length : Int) ≤ x ∧ x ≤ 1000000000) W (hb : Below w.heap.size w W) => rule9_any d x W (hd.grown hb) hx hl)
  have hsm : s.length ≤ sc ∧ sc ≤ 9223372036854775807 := ⟨by have := hs.le; rwa [List.length_map] at this, hs.max⟩
  have hnm : d.alts.length ≤ nc ∧ nc ≤ 9223372036854775807 := ⟨by have := hn.le; simpa using this, hn.max⟩
  have Hs := Lib.hid hs
  have Hn := Lib.hid hn
  have Hx := Lib.hid hx
  have HV := Lib.hid hV
  have Hst := Lib.hid (fun k (h : k < s.length) => ln9_step (fun r => (hV r).1) h)
  obtain ⟨R, hR⟩ : ∃ R : Nat → Int, Hid ((fun k => ln9 V (s.take k)) = R) := ⟨_, Lib.hid rfl⟩
  have hR0 : Hid (R 0 = 0) := Lib.hid (by rw [← hR.out]; show ln9 V (s.take 0) = 0; rw [List.take_zero]; rfl)
  have hRb : Hid (∀ k, 0 ≤ R k ∧ R k ≤ 2147483647) := Lib.hid (fun k => by rw [← hR.out]; exact ln9_bound (fun r => (hV r).1) _)
  have hRs : Hid (∀ k (h : k < s.length), R (k + 1) = min (R k + (if s[k] < 0 then V (ruL s[k]) else 1)) 2147483647) := Lib.hid (fun k h => by rw [← hR.out]; exact Hst.out k h)
  have hRe : Hid (ln9 V s = R s.length) := Lib.hid (by rw [← hR.out]; show _ = ln9 V (s.take s.length); rw [List.take_length])
  rw [hRe.out]
  obtain ⟨xt, xta, xtc, xn, xna, xnc, xa, xaa, xac⟩ := d
  dsimp only [CfD.v] at *
  have hb1 : Below w.heap.size w (w.alloc (.cells #[.slice xta xt.length xtc, .slice xna xn.length xnc, .slice xaa xa.length xac] 25)) := (Below.refl _ w).alloc (Nat.le_refl _) _
  have hA := Blk.new w 25 #[.slice xta xt.length xtc, .slice xna xn.length xnc, .slice xaa xa.length xac]
  obtain ⟨T, HT⟩ : ∃ q, Hid (xt.length = q) := ⟨_, Lib.hid rfl⟩
  obtain ⟨N, HN⟩ : ∃ q, Hid (xn.length = q) := ⟨_, Lib.hid rfl⟩
  obtain ⟨L, HL⟩ : ∃ q, Hid (xa.length = q) := ⟨_, Lib.hid rfl⟩
  rw [HT.out, HN.out, HL.out] at hA hb1
  rw [HT.out, HN.out, HL.out]
  have x0 := hA.cell 0
  have x1 := hA.cell 1
  have x2 := hA.cell 2
  have xl := hA.lt
  simp only [List.getElem?_cons_zero, List.getElem?_cons_succ] at x0 x1 x2
  have HA := Lib.hid hA
  have Hb1 := Lib.hid hb1
  obtain ⟨S, HS⟩ : ∃ q, Hid (s.length = q) := ⟨_, Lib.hid rfl⟩
  rw [HS.out] at hsm ⊢
  rw [HL.out] at hnm hl Hn Hx
  rw [HT.out, HN.out, HL.out] at HR
  clear hd hA hb1 hs hn hx hV Hst hR hRe
  go_enter Try.func69, Try.ntmps69
  go_wp2_with (fail)
  obtain ⟨bx, hbx⟩ : ∃ q, Hid (w.heap.size = q) := ⟨_, Lib.hid rfl⟩
  rw [hbx.out] at HA x0 x1 x2 xl ⊢
  generalize hV : World.alloc w _ = V1 at HA x0 x1 x2 xl Hb1 ⊢
  clear hV x0 x1 x2 xl
  go_loopw [7, 13] (fun sv iv wr => ∃ k : Nat, k ≤ S ∧ iv = .int .i64 (k : Int) ∧ sv = .int .i64 (R k) ∧ Hid (Blk wr bx 25 [.slice xta T xtc, .slice xna N xnc, .slice xaa L xac]) ∧ Below w.heap.size w wr) (fun _ iv _ => S - (RowKit.intOf iv).toNat)
  case atStart => exact ⟨0, Nat.zero_le _, rfl, by rw [hR0.out], HA, Hb1.out⟩
  case round =>
    clear HA Hb1
    obtain ⟨k, hk, rfl, rfl, HA, hbr⟩ := hrel
    obtain ⟨U, rfl⟩ : ∃ U, U = wr := ⟨_, rfl⟩
    by_cases hlt : k < S
    · have hkI : (k : Int) < (S : Int) := by omega
      have hkI0 : (0 : Int) ≤ (k : Int) := by omega
      have hkl : k < s.length := by rw [HS.out]; exact hlt
      have hrow := Hs.out.grown hbr
      have hst := hRs.out k hkl
      have hb2 := hRb.out k
      obtain ⟨b, bo, hb⟩ := hrow.at_ k (by rw [List.length_map]; exact hkl)
      have cb := hrow.cell b bo hb k (by rw [List.length_map]; exact hkl)
      rw [List.getElem_map] at cb
      have hm := Hx.out _ (List.getElem_mem hkl)
      obtain ⟨x, hx⟩ : ∃ v, Hid (s[k] = v) := ⟨_, Lib.hid rfl⟩
      rw [hx.out] at cb hm hst
      have hblb := World.block_lt_of_cell? _ _ cb
      subst hb
      have x0 := HA.out.cell 0
      have x1 := HA.out.cell 1
      have x2 := HA.out.cell 2
      have xl := HA.out.lt
      simp only [List.getElem?_cons_zero, List.getElem?_cons_succ] at x0 x1 x2
      have Hru := Lib.hid (HR.out x hm U hbr)
      clear hrow
      obtain ⟨rk, hrk⟩ : ∃ v, Hid (R k = v) := ⟨_, Lib.hid rfl⟩
      rw [hrk.out] at hst hb2 ⊢
      by_cases h0 : x < 0
      · rw [if_pos h0] at Hru hst
        have hrL : ruL x < L := by unfold ruL; omega
        obtain ⟨r, hr⟩ : ∃ r, Hid (ruL x = r) := ⟨_, Lib.hid rfl⟩
        rw [hr.out] at Hru hst hrL
        have hrI : (r : Int) < (L : Int) := by omega
        have hrI0 : (0 : Int) ≤ (r : Int) := by omega
        have hrI1 : ¬ (r : Int) < 0 := by omega
        have hvr := HV.out r
        obtain ⟨q, hq⟩ : ∃ v, Hid (V r = v) := ⟨_, Lib.hid rfl⟩
        rw [hq.out] at hst hvr
        have hvr2 : q ≤ 2147483647 := hvr.2
        have HST := Lib.hid hst
        have hw : IntKind.i64.wrap (rk + q) = rk + q := IntWalk.i64_in _ (by omega)
        clear hst
        go_wp2_with (fail)
        refine Hru.out.mono ?_
        rintro e w3 ⟨rfl, hb3⟩
        have Hb3 := Lib.hid (hbr.trans (hb3.mono hbr.size))
        have HA3 := Lib.hid (HA.out.below hb3 HA.out.lt)
        have hn3 := Vs.grown Hn.out Hb3.out
        obtain ⟨n0, no, hn0⟩ := hn3.at_ r (by simpa using hrL)
        have cn := hn3.cell n0 no hn0 r (by simpa using hrL)
        rw [range_at, hq.out] at cn
        have hbln := World.block_lt_of_cell? _ _ cn
        subst hn0
        clear x0 x1 x2 xl hb3 hn3 hbr
        go_wp2_with (fail)
        exact ⟨⟨k + 1, by omega, by go_num, by rw [HST.out], HA3, Hb3.out⟩, by simp [RowKit.intOf]; omega⟩
      · rw [if_neg h0] at Hru hst
        have HST := Lib.hid hst
        have hw : IntKind.i64.wrap (rk + 1) = rk + 1 := IntWalk.i64_in _ (by omega)
        clear hst
        go_wp2_with (fail)
        refine Hru.out.mono ?_
        rintro e w3 ⟨rfl, hb3⟩
        have Hb3 := Lib.hid (hbr.trans (hb3.mono hbr.size))
        have HA3 := Lib.hid (HA.out.below hb3 HA.out.lt)
        clear x0 x1 x2 xl hb3 hbr
        go_wp2_with (fail)
        exact ⟨⟨k + 1, by omega, by go_num, by rw [HST.out], HA3, Hb3.out⟩, by simp [RowKit.intOf]; omega⟩
    · have hke : k = S := by omega
      have hkI : ¬ (k : Int) < (S : Int) := by omega
      rw [hke] at hkI ⊢
      clear hke
      go_wp2_with (fail)
      exact bodyPost_ret (v := .int .i64 (R S)) (by simp [results, Try.results69, go_sem]; try first | rfl | assumption | omega) rfl ⟨rfl, hbr⟩
end Go.Proofs.Ytldmgifphkpdlaa

namespace Go.Proofs.Ytldmgifphkpdlaa
open Go.RowKit Go.Maps

attribute [local go_sem] Oper.semAt_some

/-- Where a round over rules and alternatives stands: it only shrinks, each is far or some sentence's, what was gone through is as low as its alternatives were. -/
structure SnK (al : List (List (List Int))) (V0 V : Nat → Int) (k j : Nat) : Prop where
  inv : ShInv al V
  mono : ∀ r, V r ≤ V0 r
  done : ∀ r, r < k → ∀ a ∈ al.getD r [], V r ≤ lenP V0 a
  part : ∀ a ∈ (al.getD k []).take j, V k ≤ lenP V0 a
theorem SnK.start {al : List (List (List Int))} {V : Nat → Int} (h : ShInv al V) : SnK al V V 0 0 := ⟨h, fun _ => Int.le_refl _, fun r hr => absurd hr (by omega), fun a ha => by simp at ha⟩
theorem SnK.put {al : List (List (List Int))} {V0 V : Nat → Int} {k j : Nat} (h : SnK al V0 V k j) {a : List Int} (ha : (al.getD k [])[j]? = some a) {b : Int} (hb : b = min (V k) (ln9 V a)) : SnK al V0 (fun s => if s = k then b else V s) k (j + 1) := by
  have hle : b ≤ V k := by rw [hb]; omega
  have hle2 : b ≤ lenP V a := by rw [hb]; unfold ln9; omega
  have hm : ∀ r, (if r = k then b else V r) ≤ V r := fun r => by
    split
    · next e => subst e; exact hle
    · exact Int.le_refl _
  refine ⟨?_, fun r => Int.le_trans (hm r) (h.mono r), fun r hr c hc => Int.le_trans (hm r) (h.done r hr c hc), fun c hc => ?_⟩
  · by_cases e : lenP V a < V k
    · have hlf : V k ≤ farI := h.inv.le k
      have : b = lenP V a := by rw [hb]; unfold ln9; omega
      rw [this]
      exact h.inv.put (List.mem_of_getElem? ha) e
    · have hlf : V k ≤ farI := h.inv.le k
      have : b = V k := by rw [hb]; unfold ln9; omega
      rw [this]
      have e2 : (fun s => if s = k then V k else V s) = V := by
        funext s
        split
        · next e => rw [e]
        · rfl
      rw [e2]
      exact h.inv
  · rw [List.take_add_one, List.mem_append] at hc
    rw [if_pos rfl]
    rcases hc with hc | hc
    · exact Int.le_trans hle (h.part c hc)
    · rw [ha] at hc
      obtain rfl : c = a := by simpa using hc
      exact Int.le_trans hle2 (len_mono (fun x _ _ => h.mono _))
theorem SnK.row {al : List (List (List Int))} {V0 V : Nat → Int} {k j : Nat} (h : SnK al V0 V k j) (hj : (al.getD k []).length ≤ j) : SnK al V0 V (k + 1) 0 :=
  ⟨h.inv, h.mono, fun r hr a ha => by
    by_cases e : r = k
    · subst e
      exact h.part a (by rwa [List.take_of_length_le hj])
    · exact h.done r (by omega) a ha, fun a ha => by simp at ha⟩
set_option maxRecDepth 100000 in
set_option maxHeartbeats 16000000 in
theorem refShort9_any (d : CfD) (w : World) (hd : CfAt w d) (hf : FitC d) :
    Calls Try.prog 25 #[d.v] w (ShQ w d.alts.length (shP (d.alts.map IrD.p))) := by
  have hAl : Hid (∀ k (h : k < d.alts.length), (d.alts.map IrD.p).getD k [] = (d.alts[k]).ds.map (fun x => x.l)) := Lib.hid (fun k h => by
    rw [List.getD_eq_getElem?_getD, List.getElem?_map, List.getElem?_eq_getElem h]
    rfl)
  have Hem := Lib.hid (fun (s : List Int) sa sc na nc (V : Nat → Int) W (hb : Below w.heap.size w W) (hs : Ints W sa sc s) (hn : NusF W na nc d.alts.length V) (hx : ∀ x ∈ s, -(d.alts.length : Int) ≤ x ∧ x ≤ 1000000000) (hV : ∀ r, 0 ≤ V r ∧ V r ≤ farI) => len9_any d s sa sc na nc V W (hd.grown hb) hs hn hx (by have := hf.r; omega) hV)
  have hpl : (d.alts.map IrD.p).length = d.alts.length := List.length_map _
  have hNB : Hid (∀ r : Nat, d.alts.length ≤ r → (d.alts.map IrD.p).getD r [] = []) := Lib.hid (fun r h => by
    rw [List.getD_eq_getElem?_getD, List.getElem?_eq_none (by rw [List.length_map]; exact h)]
    rfl)
  obtain ⟨xt, xta, xtc, xn, xna, xnc, xa, xaa, xac⟩ := d
  obtain ⟨hx1, hx2, hx3, hx4⟩ := hd
  obtain ⟨hf1, hf2, hf3, hf4, hf5⟩ := hf
  dsimp only [CfD.v] at *
  have hxm : xa.length ≤ xac ∧ xac ≤ 9223372036854775807 := ⟨by have := hx3.le; rwa [List.length_map] at this, hx3.max⟩
  have HX3 := Lib.hid hx3
  have HX4 := Lib.hid hx4
  have HF4 := Lib.hid hf4
  have HF5 := Lib.hid hf5
  obtain ⟨al, hal9⟩ : ∃ q, Hid (xa.map IrD.p = q) := ⟨_, Lib.hid rfl⟩
  rw [hal9.out] at hAl hpl hNB ⊢
  obtain ⟨Q, hQ⟩ : ∃ Q, Hid (ShQ w xa.length (shP al) = Q) := ⟨_, Lib.hid rfl⟩
  rw [hQ.out]
  have hb1 : Below w.heap.size w (w.alloc (.cells #[.slice xta xt.length xtc, .slice xna xn.length xnc, .slice xaa xa.length xac] 25)) := (Below.refl _ w).alloc (Nat.le_refl _) _
  have hA := Blk.new w 25 #[.slice xta xt.length xtc, .slice xna xn.length xnc, .slice xaa xa.length xac]
  obtain ⟨T, HT⟩ : ∃ q, Hid (xt.length = q) := ⟨_, Lib.hid rfl⟩
  obtain ⟨N, HN⟩ : ∃ q, Hid (xn.length = q) := ⟨_, Lib.hid rfl⟩
  obtain ⟨L, HL⟩ : ∃ q, Hid (xa.length = q) := ⟨_, Lib.hid rfl⟩
  rw [HT.out, HN.out, HL.out] at hA hb1
  rw [HT.out, HN.out, HL.out]
  have x0 := hA.cell 0
  have x1 := hA.cell 1
  have x2 := hA.cell 2
  have xl := hA.lt
  simp only [List.getElem?_cons_zero, List.getElem?_cons_succ] at x0 x1 x2
  have HA := Lib.hid hA
  have Hb1 := Lib.hid hb1
  rw [HL.out] at hxm hf1 hf2 hQ hpl hNB
  rw [HL.out, HT.out] at HF5
  rw [HT.out, HN.out, HL.out] at Hem
  have HQ := Lib.hid hQ.out
  have Hpl := Lib.hid hpl
  have hround := Lib.hid (fun V0 V (h0 : ShInv al V0) (h1 : ShInv al V) h2 h3 k hk => sh_round (al := al) (fun r h => hNB.out r (by rw [← hpl]; exact h)) (V0 := V0) (V := V) h0 h1 h2 h3 k hk)
  obtain ⟨iE, hiE, hzE, hsE, hbE⟩ := info_parts info_elI
  have Hmk := Lib.hid (fun (W : World) => run_makeSlice_full (P := Try.prog) (w := W) w.heap.size 35 3 iE (.int .i64 0) 1 Try.underlying35 hiE hzE hsE .i64 .i64 L (by omega) (by rw [hbE]; omega) (by unfold maxLen; omega))
  rw [HT.out] at hf3
  clear hA hx1 hx2 hx3 hx4 hf4 hf5 hQ hb1 hpl x0 x1 hiE hzE hsE hbE
  obtain ⟨w2, hrun2, ho2, hg2⟩ := Hmk.out _ Hb1.out.size
  rw [made_fill _ rfl, rng_const] at ho2
  have HA2 := Lib.hid (HA.out.kept hg2 (by simp))
  have Hb2 := Lib.hid (Hb1.out.trans (belowAt hg2 (B := w.heap.size) (fun i e => by cases e) Hb1.out.size))
  have HO2 : Hid (OwnNu w2 w.heap.size (some ⟨w.heap.size + 1, 0, none⟩) L L (fun _ => 0)) := Lib.hid (by simpa using ho2)
  rw [show (w.alloc (.cells #[.slice xta T xtc, .slice xna N xnc, .slice xaa L xac] 25)).heap.size = w.heap.size + 1 by simp] at hrun2
  clear ho2 hg2 Hmk
  go_enter Try.func25, Try.ntmps25
  go_wp2_with (fail)
  clear hrun2 x2 xl
  obtain ⟨bx, hbx⟩ : ∃ q, Hid (w.heap.size = q) := ⟨_, Lib.hid rfl⟩
  have hbW : bx ≤ w.heap.size := by rw [hbx.out]; exact Nat.le_refl _
  have hbW2 : w.heap.size ≤ bx := by rw [hbx.out]; exact Nat.le_refl _
  rw [hbx.out] at HA2 HO2 ⊢
  obtain ⟨g, hg⟩ : ∃ q, Hid (bx + 1 = q) := ⟨_, Lib.hid rfl⟩
  have hgb : bx ≠ g := by rw [← hg.out]; omega
  rw [hg.out] at HO2 ⊢
  go_loopw [15] (fun iv wr => ∃ i : Nat, i ≤ L ∧ iv = .int .i64 (i : Int) ∧ Hid (OwnNu wr bx (some ⟨g, 0, none⟩) L L (fun r => if r < i then farI else 0)) ∧ Hid (Blk wr bx 25 [.slice xta T xtc, .slice xna N xnc, .slice xaa L xac]) ∧ Below w.heap.size w wr) (fun iv _ => L - (RowKit.intOf iv).toNat)
  case atStart => exact ⟨0, Nat.zero_le _, rfl, Lib.hid (by simpa using HO2.out), HA2, Hb2.out⟩
  case round =>
    clear HO2 HA2 Hb2
    obtain ⟨i, hi, rfl, HO, HAr, hbr⟩ := hrel
    obtain ⟨U0, rfl⟩ : ∃ U, U = wr := ⟨_, rfl⟩
    by_cases hlti : i < L
    · have hiI : (i : Int) < (L : Int) := by omega
      have hiI0 : (0 : Int) ≤ (i : Int) := by omega
      have z0 := HO.out.cell i hlti
      have zl : g < U0.heap.size := (World.ownsRow.lt HO.out g rfl).2
      have zf := own_frz (j := i) HO.out
      obtain ⟨hO7, hg7⟩ := HO.out.stored i (.int .i64 2147483647)
      have HO7 : Hid (OwnNu (U0.setCell ⟨g, i, none⟩ (.int .i64 2147483647)) bx (some ⟨g, 0, none⟩) L L (fun r => if r < i + 1 then farI else 0)) := Lib.hid (by
        rw [set_rng] at hO7
        unfold OwnNu
        refine (congrArg (fun l => (U0.setCell ⟨g, i, none⟩ (.int .i64 2147483647)).ownsRow bx 3 1 (.slice (some ⟨g, 0, none⟩) L L) L l) (List.map_congr_left (fun s _ => ?_))).mp hO7
        dsimp only
        by_cases e : s = i
        · rw [if_pos e, if_pos (by omega)]
        · rw [if_neg e]
          by_cases e2 : s < i
          · rw [if_pos e2, if_pos (by omega)]
          · rw [if_neg e2, if_neg (by omega)])
      have HA7 := Lib.hid (HAr.out.kept hg7 (by simpa using hgb))
      have Hb7 := Lib.hid (hbr.trans (belowAt hg7 (B := w.heap.size) (fun i e => by injection e with e; have := (World.ownsRow.lt HO.out g rfl).1; omega) hbr.size))
      clear hO7 hg7 hbr HO HAr
      go_wp2_with (fail)
      exact ⟨⟨i + 1, by omega, by go_num, HO7, HA7, Hb7.out⟩, by simp [RowKit.intOf]; omega⟩
    · have hie : i = L := by omega
      have hiI : ¬ (i : Int) < (L : Int) := by omega
      have HO2 : Hid (OwnNu U0 bx (some ⟨g, 0, none⟩) L L (fun _ => farI)) := Lib.hid (by
        have h2 := HO.out
        unfold OwnNu at h2 ⊢
        refine (congrArg (fun l => U0.ownsRow bx 3 1 (.slice (some ⟨g, 0, none⟩) L L) L l) (List.map_congr_left (fun r hr => ?_))).mp h2
        have := List.mem_range.1 hr
        dsimp only
        rw [if_pos (by omega)])
      have HA2 := HAr
      have Hb2 := Lib.hid hbr
      clear HO HAr hbr hie
      go_wp2_with (fail)
      have Hst0 : Hid (shL al (fun _ => farI) ≤ L) := Lib.hid (by
        unfold shL
        have := List.countP_le_length (p := fun r => decide ((fun _ : Nat => farI) r ≠ shP al r)) (l := List.range al.length)
        rw [List.length_range] at this
        exact Nat.le_trans this (Nat.le_of_eq Hpl.out))
      go_loopw [24] (fun iv wr => ∃ (i : Nat) (V : Nat → Int), i ≤ L ∧ iv = .int .i64 (i : Int) ∧ Hid (ShInv al V) ∧ Hid (shL al V ≤ L - i) ∧ Hid (OwnNu wr bx (some ⟨g, 0, none⟩) L L V) ∧ Hid (Blk wr bx 25 [.slice xta T xtc, .slice xna N xnc, .slice xaa L xac]) ∧ Below w.heap.size w wr) (fun iv _ => L - (RowKit.intOf iv).toNat)
      case atStart => exact ⟨0, _, Nat.zero_le _, rfl, Lib.hid (ShInv.start al), Hst0, HO2, HA2, Hb2.out⟩
      case round =>
        clear HO2 HA2 Hb2 Hst0
        obtain ⟨i, V0, hi, rfl, Hsd, Hct, HO, HAr, hbr⟩ := hrel
        obtain ⟨U0, rfl⟩ : ∃ U, U = wr := ⟨_, rfl⟩
        by_cases hlti : i < L
        · have hiI : (i : Int) < (L : Int) := by omega
          have x2 := HAr.out.cell 2
          have xl := HAr.out.lt
          simp only [List.getElem?_cons_zero, List.getElem?_cons_succ] at x2
          have Hnk := Lib.hid (SnK.start (V := V0) Hsd.out)
          go_wp2_with (fail)
          clear x2 xl
          go_loopw [29] (fun iv wr => ∃ (k : Nat) (V : Nat → Int), k ≤ L ∧ iv = .int .i64 (k : Int) ∧ Hid (SnK al V0 V k 0) ∧ Hid (OwnNu wr bx (some ⟨g, 0, none⟩) L L V) ∧ Hid (Blk wr bx 25 [.slice xta T xtc, .slice xna N xnc, .slice xaa L xac]) ∧ Below w.heap.size w wr) (fun iv _ => L - (RowKit.intOf iv).toNat)
          case atStart => exact ⟨0, V0, Nat.zero_le _, rfl, Hnk, HO, HAr, hbr⟩
          case round =>
            clear HO HAr hbr Hnk
            obtain ⟨k, V, hk, rfl, HK, HO, HAr, hbr⟩ := hrel
            obtain ⟨U, rfl⟩ : ∃ U, U = wr := ⟨_, rfl⟩
            by_cases hlt : k < L
            · have hkI : (k : Int) < (L : Int) := by omega
              have hkI0 : (0 : Int) ≤ (k : Int) := by omega
              have hkl : k < xa.length := by rw [HL.out]; exact hlt
              have hrow := HX3.out.grown hbr
              have hst := hAl.out k hkl
              obtain ⟨p, po, hp⟩ := hrow.at_ k (by rw [List.length_map]; exact hkl)
              have cp := hrow.cell p po hp k (by rw [List.length_map]; exact hkl)
              rw [List.getElem_map] at cp
              have hm : xa[k] ∈ xa := List.getElem_mem hkl
              obtain ⟨e, he⟩ : ∃ v, Hid (xa[k] = v) := ⟨_, Lib.hid rfl⟩
              rw [he.out] at cp hm hst
              have hblp := World.block_lt_of_cell? _ _ cp
              obtain ⟨ed, ea, ec⟩ := e
              change _ = some (Value.slice ea ed.length ec) at cp
              have hal : AltsI w ea ec ed := HX4.out _ hm
              have hdm : ed.length ≤ ec ∧ ec ≤ 9223372036854775807 := ⟨by have := hal.row.le; rwa [List.length_map] at this, hal.row.max⟩
              have hd30 : ed.length ≤ 30 := HF4.out _ hm
              have hok := Lib.hid (HF5.out _ hm)
              have Hal := Lib.hid hal
              have Hst := Lib.hid hst
              obtain ⟨M, hM⟩ : ∃ q, Hid (ed.length = q) := ⟨_, Lib.hid rfl⟩
              rw [hM.out] at cp hdm hd30
              subst hp
              clear hm hal hrow hst
              go_wp2_with (fail)
              clear cp hblp
              go_loopw [36] (fun jv wr => ∃ (j : Nat) (V : Nat → Int), j ≤ M ∧ jv = .int .i64 (j : Int) ∧ Hid (SnK al V0 V k j) ∧ Hid (OwnNu wr bx (some ⟨g, 0, none⟩) L L V) ∧ Hid (Blk wr bx 25 [.slice xta T xtc, .slice xna N xnc, .slice (some ⟨p, po, none⟩) L xac]) ∧ Below w.heap.size w wr) (fun jv _ => M - (RowKit.intOf jv).toNat)
              case atStart => exact ⟨0, V, Nat.zero_le _, rfl, HK, HO, HAr, hbr⟩
              case round =>
                clear HK HO HAr hbr
                obtain ⟨j, V, hj, rfl, HK, HO, HAr, hbr⟩ := hrel
                obtain ⟨U2, rfl⟩ : ∃ U, U = wr := ⟨_, rfl⟩
                by_cases hltj : j < M
                · have hjI : (j : Int) < (M : Int) := by omega
                  have hjI0 : (0 : Int) ≤ (j : Int) := by omega
                  have hjl : j < ed.length := by rw [hM.out]; exact hltj
                  have hrow := Hal.out.row.grown hbr
                  have hok2 := hok.out _ (List.getElem_mem hjl)
                  have hin : (al.getD k [])[j]? = some (ed[j]).l := by rw [Hst.out, List.getElem?_map, List.getElem?_eq_getElem hjl]; rfl
                  have hnm := (Hal.out.nms _ (List.getElem_mem hjl)).grown hbr
                  obtain ⟨c, co, hc⟩ := hrow.at_ j (by rw [List.length_map]; exact hjl)
                  have cc := hrow.cell c co hc j (by rw [List.length_map]; exact hjl)
                  rw [List.getElem_map] at cc
                  obtain ⟨e, he⟩ : ∃ v, Hid (ed[j] = v) := ⟨_, Lib.hid rfl⟩
                  rw [he.out] at cc hok2 hin hnm
                  have hblc := World.block_lt_of_cell? _ _ cc
                  obtain ⟨el, ela, elc⟩ := e
                  change _ = some (Value.slice ela el.length elc) at cc
                  dsimp only at hok2 hin hnm
                  have hVb : Hid (∀ r, 0 ≤ V r ∧ V r ≤ farI) := Lib.hid (fun r => ⟨HK.out.inv.nonneg r, HK.out.inv.le r⟩)
                  have hpt := Lib.hid (fun (b : Int) (hb : b = min (V k) (ln9 V el)) => HK.out.put hin hb)
                  have hbd := Lib.hid (fun W (hb : Below U2.heap.size U2 W) => (hnm.grown (hb.trans (Below.refl _ W))))
                  have HOd := Lib.hid (World.ownsRow.kept HO.out (below_grownBy (Below.refl U2.heap.size U2).drew none) (by cases e : (Value.slice (some ⟨g, 0, none⟩) L L).ownBlock <;> simp))
                  have HAd := Lib.hid (HAr.out.below (Below.refl U2.heap.size U2).drew HAr.out.lt)
                  have Hbd := Lib.hid hbr.drew
                  have Hcl := Lib.hid (Hem.out el ela elc (some ⟨g, 0, none⟩) L V U2.drew Hbd.out (hnm.grown (Below.refl U2.heap.size U2).drew) (OwnNu.nus HOd.out) (fun x hx => ⟨(hok2.2 x hx).1, by have := (hok2.2 x hx).2; omega⟩) hVb.out)
                  obtain ⟨EL, hEL⟩ : ∃ q, Hid (el.length = q) := ⟨_, Lib.hid rfl⟩
                  rw [hEL.out] at Hcl cc
                  have ck : U2.drew.cell? ⟨g, k, none⟩ = some (.int .i64 (V k)) := OwnNu.cell HOd.out k hlt
                  have hyb := hVb.out k
                  obtain ⟨y, hy⟩ : ∃ q, Hid (V k = q) := ⟨_, Lib.hid rfl⟩
                  have hzb := ln9_bound (V := V) (fun r => (hVb.out r).1) el
                  obtain ⟨z, hz⟩ : ∃ q, Hid (ln9 V el = q) := ⟨_, Lib.hid rfl⟩
                  rw [hy.out] at ck hpt hyb
                  rw [hz.out] at hpt Hcl hzb
                  have HS0 : Hid (U2.drew.cell? ⟨bx, 0, none⟩ = some (.slice xta T xtc) ∧ U2.drew.cell? ⟨bx, 1, none⟩ = some (.slice xna N xnc) ∧ U2.drew.cell? ⟨bx, 2, none⟩ = some (.slice (some ⟨p, po, none⟩) L xac) ∧ U2.drew.cell? ⟨g, k, none⟩ = some (.int .i64 y)) := Lib.hid ⟨HAd.out.cell 0, HAd.out.cell 1, HAd.out.cell 2, ck⟩
                  subst hc
                  clear hrow hok2 hin hnm ck hbd
                  go_wp2_with (fail)
                  clear cc hblc
                  refine region_till 12 (fun w' => w'.cell? ⟨bx, 0, none⟩ = some (.slice xta T xtc) ∧ w'.cell? ⟨bx, 1, none⟩ = some (.slice xna N xnc) ∧ w'.cell? ⟨bx, 2, none⟩ = some (.slice (some ⟨p, po, none⟩) L xac) ∧ w'.cell? ⟨g, k, none⟩ = some (.int .i64 y)) (by kernel_rfl) ?_
                  refine till_takeY (i := 0) [11, 12] (v := ?_) (iatLS iatZS) (by kernel_rfl) (by kernel_rfl) (by kernel_rfl) (fun _ _ _ h => h) (by decide) (by kernel_rfl) (by decide) (by kernel_rfl) (Or.inl ⟨by rfl, ?_⟩) HS0.out ?_
                  rotate_left
                  · intro w hSw
                    try dsimp only at hSw
                    go_simp
                    all_goals with_reducible rfl
                  try simp only [Act.put, List.setIfInBounds_toArray, List.set_cons_zero, List.set_cons_succ]
                  refine till_takeY (i := 1) [11, 12] (v := ?_) (iatLS (iatSS iatZS)) (by kernel_rfl) (by kernel_rfl) (by kernel_rfl) (fun _ _ _ h => h) (by decide) (by kernel_rfl) (by decide) (by kernel_rfl) (Or.inl ⟨by rfl, ?_⟩) HS0.out ?_
                  rotate_left
                  · intro w hSw
                    try dsimp only at hSw
                    go_simp
                    all_goals with_reducible rfl
                  try simp only [Act.put, List.setIfInBounds_toArray, List.set_cons_zero, List.set_cons_succ]
                  refine till_takeY (i := 2) [4, 5, 10, 12] (v := ?_) (iatLS (iatSS (iatSS iatZS))) (by kernel_rfl) (by kernel_rfl) (by kernel_rfl) (fun _ _ _ h => h) (by decide) (by kernel_rfl) (by decide) (by kernel_rfl) (Or.inl ⟨by rfl, ?_⟩) HS0.out ?_
                  rotate_left
                  · intro w hSw
                    try dsimp only at hSw
                    go_simp
                    all_goals with_reducible rfl
                  try simp only [Act.put, List.setIfInBounds_toArray, List.set_cons_zero, List.set_cons_succ]
                  refine till_takeY (i := 3) [4, 5, 10, 12] (v := ?_) (iatLS (iatSS (iatSS (iatSS iatZS)))) (by kernel_rfl) (by kernel_rfl) (by kernel_rfl) (fun _ _ _ h => h) (by decide) (by kernel_rfl) (by decide) (by kernel_rfl) (Or.inl ⟨by rfl, ?_⟩) HS0.out ?_
                  rotate_left
                  · intro w hSw
                    try dsimp only at hSw
                    go_simp
                    all_goals with_reducible rfl
                  try simp only [Act.put, List.setIfInBounds_toArray, List.set_cons_zero, List.set_cons_succ]
                  refine till_takeY (i := 4) [5, 10, 12] (v := ?_) (iatLS (iatSS (iatSS (iatSS (iatSS iatZS))))) (by kernel_rfl) (by kernel_rfl) (by kernel_rfl) (fun _ _ _ h => h) (by decide) (by kernel_rfl) (by decide) (by kernel_rfl) (Or.inl ⟨by rfl, ?_⟩) HS0.out ?_
                  rotate_left
                  · intro w hSw
                    try dsimp only at hSw
                    go_simp
                    all_goals with_reducible rfl
                  try simp only [Act.put, List.setIfInBounds_toArray, List.set_cons_zero, List.set_cons_succ]
                  refine till_takeY (i := 5) [10, 12] (v := ?_) (iatLS (iatSS (iatSS (iatSS (iatSS (iatSS iatZS)))))) (by kernel_rfl) (by kernel_rfl) (by kernel_rfl) (fun _ _ _ h => h) (by decide) (by kernel_rfl) (by decide) (by kernel_rfl) (Or.inl ⟨by rfl, ?_⟩) HS0.out ?_
                  rotate_left
                  · intro w hSw
                    try dsimp only at hSw
                    go_simp
                    all_goals with_reducible rfl
                  try simp only [Act.put, List.setIfInBounds_toArray, List.set_cons_zero, List.set_cons_succ]
                  refine till_takeY (i := 6) [9, 10, 12] (v := ?_) (iatLS (iatSS (iatSS (iatSS (iatSS (iatSS (iatSS iatZS))))))) (by kernel_rfl) (by kernel_rfl) (by kernel_rfl) (fun _ _ _ h => h) (by decide) (by kernel_rfl) (by decide) (by kernel_rfl) (Or.inl ⟨by rfl, ?_⟩) HS0.out ?_
                  rotate_left
                  · intro w hSw
                    try dsimp only at hSw
                    go_simp
                    all_goals with_reducible rfl
                  try simp only [Act.put, List.setIfInBounds_toArray, List.set_cons_zero, List.set_cons_succ]
                  refine till_takeY (i := 7) [9, 10, 12] (v := ?_) (iatLS (iatSS (iatSS (iatSS (iatSS (iatSS (iatSS (iatSS iatZS)))))))) (by kernel_rfl) (by kernel_rfl) (by kernel_rfl) (fun _ _ _ h => h) (by decide) (by kernel_rfl) (by decide) (by kernel_rfl) (Or.inl ⟨by rfl, ?_⟩) HS0.out ?_
                  rotate_left
                  · intro w hSw
                    try dsimp only at hSw
                    go_simp
                    all_goals with_reducible rfl
                  try simp only [Act.put, List.setIfInBounds_toArray, List.set_cons_zero, List.set_cons_succ]
                  refine till_takeY (i := 8) [9, 10, 12] (v := ?_) (iatLS (iatSS (iatSS (iatSS (iatSS (iatSS (iatSS (iatSS (iatSS iatZS))))))))) (by kernel_rfl) (by kernel_rfl) (by kernel_rfl) (fun _ _ _ h => h) (by decide) (by kernel_rfl) (by decide) (by kernel_rfl) (Or.inl ⟨by rfl, ?_⟩) HS0.out ?_
                  rotate_left
                  · intro w hSw
                    try dsimp only at hSw
                    go_simp
                    all_goals with_reducible rfl
                  try simp only [Act.put, List.setIfInBounds_toArray, List.set_cons_zero, List.set_cons_succ]
                  refine till_ready (rs := [9]) (by kernel_rfl) (by simp) ?_
                  refine TillAll.cons (iatLS (iatSS (iatSS (iatSS (iatSS (iatSS (iatSS (iatSS (iatSS (iatSS iatZS)))))))))) (fun K hK => ?_) TillAll.nil
                  go_simp
                  (with_reducible refine Hcl.out.mono ?_)
                  rintro e8 W5 ⟨rfl, hb5⟩
                  have HO5 := Lib.hid (World.ownsRow.kept HOd.out (below_grownBy hb5 none) (by cases e : (Value.slice (some ⟨g, 0, none⟩) L L).ownBlock <;> simp))
                  have HA5 := Lib.hid (HAd.out.below hb5 HAd.out.lt)
                  have Hb5 := Lib.hid (Hbd.out.trans (hb5.mono Hbd.out.size))
                  have ck5 : W5.cell? ⟨g, k, none⟩ = some (.int .i64 y) := by have := OwnNu.cell HO5.out k hlt; rwa [hy.out] at this
                  have HS5 : Hid (W5.cell? ⟨bx, 0, none⟩ = some (.slice xta T xtc) ∧ W5.cell? ⟨bx, 1, none⟩ = some (.slice xna N xnc) ∧ W5.cell? ⟨bx, 2, none⟩ = some (.slice (some ⟨p, po, none⟩) L xac) ∧ W5.cell? ⟨g, k, none⟩ = some (.int .i64 y)) := Lib.hid ⟨HA5.out.cell 0, HA5.out.cell 1, HA5.out.cell 2, ck5⟩
                  have zf := own_frz (j := k) HO5.out
                  have zl : g < W5.heap.size := (World.ownsRow.lt HO5.out g rfl).2
                  have HK2 : Hid (SnK al V0 (fun s => if s = k then min y z else V s) k (j + 1)) := Lib.hid (hpt.out (min y z) rfl)
                  obtain ⟨hO7, hg7⟩ := HO5.out.stored k (.int .i64 (min y z))
                  have HO7 : Hid (OwnNu (W5.setCell ⟨g, k, none⟩ (.int .i64 (min y z))) bx (some ⟨g, 0, none⟩) L L (fun s => if s = k then min y z else V s)) := Lib.hid (by
                    rw [set_rng] at hO7
                    unfold OwnNu
                    refine (congrArg (fun l => (W5.setCell ⟨g, k, none⟩ (.int .i64 (min y z))).ownsRow bx 3 1 (.slice (some ⟨g, 0, none⟩) L L) L l) (List.map_congr_left (fun s _ => ?_))).mp hO7
                    dsimp only
                    split <;> rfl)
                  have HA7 := Lib.hid (HA5.out.kept hg7 (by simpa using hgb))
                  have Hb7 := Lib.hid (Hb5.out.trans (belowAt hg7 (B := w.heap.size) (fun i e => by injection e with e; have := (World.ownsRow.lt HO5.out g rfl).1; omega) Hb5.out.size))
                  clear hO7 hg7
                  clear hb5
                  try dsimp only
                  refine hK.out _ _ ?_ ?_
                  · exact fun _ => HS5.out
                  clear hK K
                  try simp only [Act.put, List.setIfInBounds_toArray, List.set_cons_zero, List.set_cons_succ]
                  refine till_ready (rs := [10]) (by kernel_rfl) (by simp) ?_
                  refine TillAll.cons (iatLS (iatSS (iatSS (iatSS (iatSS (iatSS (iatSS (iatSS (iatSS (iatSS (iatSS iatZS))))))))))) (fun K hK => ?_) TillAll.nil
                  go_simp
                  try go_simp
                  refine hK.out _ _ ?_ ?_
                  · exact fun _ => HS5.out
                  clear hK K
                  try simp only [Act.put, List.setIfInBounds_toArray, List.set_cons_zero, List.set_cons_succ]
                  refine till_takeY (i := 11) [12] (v := ?_) (iatLS (iatSS (iatSS (iatSS (iatSS (iatSS (iatSS (iatSS (iatSS (iatSS (iatSS (iatSS iatZS)))))))))))) (by kernel_rfl) (by kernel_rfl) (by kernel_rfl) (fun _ _ _ h => h) (by decide) (by kernel_rfl) (by decide) (by kernel_rfl) (Or.inl ⟨by rfl, ?_⟩) HS5.out ?_
                  rotate_left
                  · intro w hSw
                    try dsimp only at hSw
                    go_simp
                    all_goals with_reducible rfl
                  try simp only [Act.put, List.setIfInBounds_toArray, List.set_cons_zero, List.set_cons_succ]
                  refine till_ready (rs := [12]) (by kernel_rfl) (by simp) ?_
                  refine TillAll.cons (iatLS (iatSS (iatSS (iatSS (iatSS (iatSS (iatSS (iatSS (iatSS (iatSS (iatSS (iatSS (iatSS iatZS))))))))))))) (fun K hK => ?_) TillAll.nil
                  go_simp
                  generalize hW : World.setCell W5 _ _ = W7 at HO7 HA7 Hb7 ⊢
                  clear hW ck5 zf zl
                  refine hK.out _ _ ?_ ?_
                  · exact fun h => nomatch (show (true : Bool) = false from h)
                  clear hK K
                  try simp only [Act.put, List.setIfInBounds_toArray, List.set_cons_zero, List.set_cons_succ]
                  refine till_done (by kernel_rfl) ?_ _
                  go_wp2_with (fail)
                  exact ⟨⟨j + 1, _, by omega, by go_num, HK2, HO7, HA7, Hb7.out⟩, by simp [RowKit.intOf]; omega⟩
                · have hje : j = M := by omega
                  have hjI : ¬ (j : Int) < (M : Int) := by omega
                  have HK2 : Hid (SnK al V0 V (k + 1) 0) := Lib.hid (HK.out.row (by rw [Hst.out, List.length_map, hM.out, hje]; exact Nat.le_refl _))
                  clear hje
                  go_wp2_with (fail)
                  exact ⟨⟨k + 1, V, by omega, by go_num, HK2, HO, HAr, hbr⟩, by simp [RowKit.intOf]; omega⟩
            · have hke : k = L := by omega
              have hkI : ¬ (k : Int) < (L : Int) := by omega
              have Hct2 : Hid (shL al V ≤ L - (i + 1)) := Lib.hid (by
                have := hround.out V0 V Hsd.out HK.out.inv HK.out.mono (fun r hr a ha => HK.out.done r (by rw [hke, ← Hpl.out]; exact hr) a ha) (L - i) Hct.out
                omega)
              have Hsd2 : Hid (ShInv al V) := Lib.hid HK.out.inv
              clear hke
              go_wp2_with (fail)
              exact ⟨⟨i + 1, V, by omega, by go_num, Hsd2, Hct2, HO, HAr, hbr⟩, by simp [RowKit.intOf]; omega⟩
        · have hie : i = L := by omega
          have hiI : ¬ (i : Int) < (L : Int) := by omega
          have HOe : Hid (OwnNu U0 w.heap.size (some ⟨g, 0, none⟩) L L (shP al)) := Lib.hid (by
            have h1 := sh_all (al := al) (V := V0) (by have := Hct.out; omega)
            have h2 := HO.out
            rw [← hbx.out] at h2
            unfold OwnNu at h2 ⊢
            refine (congrArg (fun l => U0.ownsRow w.heap.size 3 1 (.slice (some ⟨g, 0, none⟩) L L) L l) (List.map_congr_left (fun r hr => ?_))).mp h2
            rw [h1 r (by rw [Hpl.out]; exact List.mem_range.1 hr)])
          clear hie
          go_wp2_with (fail)
          first | (change Q (.returned (.slice (some ⟨g, 0, none⟩) L L)) U0; rw [← HQ.out]; exact ⟨some ⟨g, 0, none⟩, L, rfl, HOe.out, hbr⟩) | exact bodyPost_ret (v := .slice (some ⟨g, 0, none⟩) L L) (by simp [results, Try.results25, go_sem]; try first | rfl | assumption | omega) rfl (by rw [← HQ.out]; exact ⟨some ⟨g, 0, none⟩, L, rfl, HOe.out, hbr⟩)
end Go.Proofs.Ytldmgifphkpdlaa

