/- Texts joined: Jx Jz Jy We. -/
import Derived.Test.YtldmgifphkpdlaaRHAo
import Derived.Test.YtldmgifphkpdlaaRHAg
import Derived.Test.YtldmgifphkpdlaaRHAi
set_option linter.unusedVariables false
set_option linter.unusedSimpArgs false
namespace Go.Proofs.Ytldmgifphkpdlaa
open Go.RowKit Go.Maps

attribute [local go_sem] Oper.semAt_some

/-- What numbers come to. -/
def shS (V : Nat → Int) : Nat → Nat
  | 0 => 0
  | n + 1 => shS V n + (V n).toNat
theorem shS_congr {V W : Nat → Int} : ∀ {n : Nat}, (∀ r, r < n → V r = W r) → shS V n = shS W n
  | 0, _ => rfl
  | n + 1, h => by rw [shS, shS, shS_congr (fun r hr => h r (by omega)), h n (by omega)]
theorem shS_put {V : Nat → Int} {x : Int} {k : Nat} (h0 : 0 ≤ x) (hx : x < V k) : ∀ {n : Nat}, k < n → shS (fun s => if s = k then x else V s) n < shS V n
  | n + 1, h => by
    rw [shS, shS]
    by_cases e : k = n
    · subst e
      rw [if_pos rfl, shS_congr (V := fun s => if s = k then x else V s) (W := V) (fun r hr => if_neg (by omega))]
      omega
    · rw [if_neg (fun h => e h.symm)]
      have := shS_put h0 hx (n := n) (by omega)
      omega
def sumC (w : World) (g : Nat) : Nat → Nat
  | 0 => 0
  | n + 1 => sumC w g n + (RowKit.intOf ((w.cell? ⟨g, n, none⟩).getD (.int .i64 0))).toNat
theorem sumC_is {w : World} {g : Nat} {V : Nat → Int} : ∀ {n : Nat}, (∀ r, r < n → w.cell? ⟨g, r, none⟩ = some (.int .i64 (V r))) → sumC w g n = shS V n
  | 0, _ => rfl
  | n + 1, h => by
    rw [sumC, shS, sumC_is (fun r hr => h r (by omega)), h n (by omega)]
    rfl
def bit9 : Value → Nat
  | .bool true => 1
  | _ => 0
/-- Where a round over rules and alternatives stands. -/
def ShK (al : List (List (List Int))) (V0 V : Nat → Int) (b : Bool) (n k j : Nat) : Prop :=
  (b = true ∧ shS V n < shS V0 n) ∨ (b = false ∧ V = V0 ∧ (∀ r, r < k → ∀ a ∈ al.getD r [], V0 r ≤ lenP V0 a) ∧ ∀ a ∈ (al.getD k []).take j, V0 k ≤ lenP V0 a)
theorem ShK.start (al : List (List (List Int))) (V0 : Nat → Int) (n : Nat) : ShK al V0 V0 false n 0 0 := .inr ⟨rfl, rfl, fun r hr => absurd hr (by omega), fun a ha => by simp at ha⟩
theorem ShK.put {al : List (List (List Int))} {V0 V : Nat → Int} {b : Bool} {n k j : Nat} (h : ShK al V0 V b n k j) (hk : k < n) {x : Int} (h0 : 0 ≤ x) (hx : x < V k) : ShK al V0 (fun s => if s = k then x else V s) true n k (j + 1) := by
  have h1 := shS_put h0 hx hk
  rcases h with ⟨_, h⟩ | ⟨_, rfl, _⟩
  · exact .inl ⟨rfl, by omega⟩
  · exact .inl ⟨rfl, h1⟩
theorem ShK.keep {al : List (List (List Int))} {V0 V : Nat → Int} {b : Bool} {n k j : Nat} (h : ShK al V0 V b n k j) (hx : ∀ a, (al.getD k [])[j]? = some a → V k ≤ lenP V a) : ShK al V0 V b n k (j + 1) := by
  rcases h with h | ⟨hb, rfl, h1, h2⟩
  · exact .inl h
  · refine .inr ⟨hb, rfl, h1, fun a ha => ?_⟩
    rw [List.take_add_one, List.mem_append] at ha
    rcases ha with ha | ha
    · exact h2 a ha
    · cases e : (al.getD k [])[j]? with
      | none => rw [e] at ha; cases ha
      | some q =>
        rw [e] at ha
        have : a = q := by simpa using ha
        subst this
        exact hx _ e
theorem ShK.row {al : List (List (List Int))} {V0 V : Nat → Int} {b : Bool} {n k j : Nat} (h : ShK al V0 V b n k j) (hj : (al.getD k []).length ≤ j) : ShK al V0 V b n (k + 1) 0 := by
  rcases h with h | ⟨hb, rfl, h1, h2⟩
  · exact .inl h
  · refine .inr ⟨hb, rfl, fun r hr a ha => ?_, fun a ha => by simp at ha⟩
    by_cases e : r = k
    · subst e
      exact h2 a (by rwa [List.take_of_length_le hj])
    · exact h1 r (by omega) a ha
theorem ShK.fin {al : List (List (List Int))} {V0 V : Nat → Int} {b : Bool} {n k j : Nat} (h : ShK al V0 V b n k j) (hk : al.length ≤ k) : (b = true ∧ shS V n < shS V0 n) ∨ (b = false ∧ V = V0 ∧ ∀ r, ∀ a ∈ al.getD r [], V r ≤ lenP V a) := by
  rcases h with h | ⟨hb, rfl, h1, _⟩
  · exact .inl h
  · refine .inr ⟨hb, rfl, fun r a ha => ?_⟩
    by_cases e : r < al.length
    · exact h1 r (by omega) a ha
    · rw [List.getD_eq_getElem?_getD, List.getElem?_eq_none (by omega)] at ha
      cases ha
/-- An own row of numbers. -/
abbrev OwnNu (W : World) (base : Nat) (a : Option Addr) (n c : Nat) (V : Nat → Int) : Prop := W.ownsRow base 3 1 (.slice a n c) n ((List.range n).map (fun r => Value.int .i64 (V r)))
theorem OwnNu.nus {W : World} {base n c : Nat} {a : Option Addr} {V : Nat → Int} (h : OwnNu W base a n c V) : NusF W a c n V := own_vals h (by simp)
theorem OwnNu.cell {W : World} {base n c g : Nat} {V : Nat → Int} (h : OwnNu W base (some ⟨g, 0, none⟩) n c V) (r : Nat) (hr : r < n) : W.cell? ⟨g, r, none⟩ = some (.int .i64 (V r)) := by
  have z0 := World.ownsRow.cellAt h r (by rw [Nat.mul_one]; exact hr)
  rw [z0, List.getElem?_eq_getElem (by simpa using hr), range_at]
theorem OwnNu.sum {W : World} {base n c g : Nat} {V : Nat → Int} (h : OwnNu W base (some ⟨g, 0, none⟩) n c V) : sumC W g n = shS V n := sumC_is (fun r hr => h.cell r hr)
def ShQ (w : World) (n : Nat) (V : Nat → Int) (e : Ending) (W' : World) : Prop := ∃ a c, e = .returned (.slice a n c) ∧ OwnNu W' w.heap.size a n c V ∧ Below w.heap.size w W'

set_option maxRecDepth 100000 in
set_option maxHeartbeats 16000000 in
theorem short_any (d : CfD) (w : World) (hd : CfAt w d) (hf : FitC d) :
    Calls Try.prog 24 #[d.v] w (ShQ w d.alts.length (shP (d.alts.map IrD.p))) := by
  have Hfit := Lib.hid (fun W (hb : Below w.heap.size w W) => fits_any d W (hd.grown hb) hf)
  have hAl : Hid (∀ k (h : k < d.alts.length), (d.alts.map IrD.p).getD k [] = (d.alts[k]).ds.map (fun x => x.l)) := Lib.hid (fun k h => by
    rw [List.getD_eq_getElem?_getD, List.getElem?_map, List.getElem?_eq_getElem h]
    rfl)
  have hpl : (d.alts.map IrD.p).length = d.alts.length := List.length_map _
  obtain ⟨xt, xta, xtc, xn, xna, xnc, xa, xaa, xac⟩ := d
  obtain ⟨hx1, hx2, hx3, hx4⟩ := hd
  obtain ⟨hf1, hf2, hf3, hf4, hf5⟩ := hf
  dsimp only [CfD.v] at *
  obtain ⟨al, hal9⟩ : ∃ q, Hid (xa.map IrD.p = q) := ⟨_, Lib.hid rfl⟩
  rw [hal9.out] at hAl hpl ⊢
  obtain ⟨Q, hQ⟩ : ∃ Q, Hid (ShQ w xa.length (shP al) = Q) := ⟨_, Lib.hid rfl⟩
  rw [hQ.out]
  have hb1 : Below w.heap.size w (w.alloc (.cells #[.slice xta xt.length xtc, .slice xna xn.length xnc, .slice xaa xa.length xac] 25)) := (Below.refl _ w).alloc (Nat.le_refl _) _
  have hA := Blk.new w 25 #[.slice xta xt.length xtc, .slice xna xn.length xnc, .slice xaa xa.length xac]
  have hxm : xa.length ≤ xac ∧ xac ≤ 9223372036854775807 := ⟨by have := hx3.le; rwa [List.length_map] at this, hx3.max⟩
  have HX3 := Lib.hid hx3
  have HX4 := Lib.hid hx4
  have HF4 := Lib.hid hf4
  have HF5 := Lib.hid hf5
  obtain ⟨T, HT⟩ : ∃ q, Hid (xt.length = q) := ⟨_, Lib.hid rfl⟩
  obtain ⟨N, HN⟩ : ∃ q, Hid (xn.length = q) := ⟨_, Lib.hid rfl⟩
  obtain ⟨L, HL⟩ : ∃ q, Hid (xa.length = q) := ⟨_, Lib.hid rfl⟩
  rw [HT.out, HN.out, HL.out] at hA hb1 Hfit ⊢
  rw [HL.out] at hxm hf1 hf2 hQ hpl
  rw [HL.out] at HF5
  have HQ := Lib.hid hQ.out
  have Hpl := Lib.hid hpl
  have x2 := hA.cell 2
  have xl := hA.lt
  simp only [List.getElem?_cons_zero, List.getElem?_cons_succ] at x2
  have HA := Lib.hid hA
  have Hb1 := Lib.hid hb1
  clear hA hx1 hx2 hx3 hx4 hf3 hf4 hf5 hQ hb1 hpl
  go_enter Try.func24, Try.ntmps24
  go_wp2_with (fail)
  have Hc1 := Lib.hid (Hfit.out _ Hb1.out)
  obtain ⟨bx, hbx⟩ : ∃ q, Hid (w.heap.size = q) := ⟨_, Lib.hid rfl⟩
  rw [hbx.out] at HA xl x2 ⊢
  generalize hV : World.alloc w _ = V at HA x2 xl Hb1 Hc1 ⊢
  clear hV
  refine Hc1.out.mono ?_
  rintro e w2 ⟨rfl, hb2⟩
  have HA2 := Lib.hid (HA.out.below hb2 HA.out.lt)
  have Hb2 := Lib.hid (Hb1.out.trans (hb2.mono Hb1.out.size))
  clear x2 xl hb2 Hc1
  have x2 := HA2.out.cell 2
  have xl := HA2.out.lt
  simp only [List.getElem?_cons_zero, List.getElem?_cons_succ] at x2
  have hbx1 : w.heap.size ≤ w2.heap.size := Hb2.out.size
  have Hfb := (Below.refl w2.heap.size w2).alloc (Nat.le_refl _) (.cells #[.int .i64 2147483647] 3)
  have HA3 := Lib.hid (HA2.out.below Hfb HA2.out.lt)
  have Hb3 := Lib.hid (Hb2.out.trans (Hfb.mono hbx1))
  have Hrep := Lib.hid (rep_any 2147483647 (some ⟨w2.heap.size, 0, none⟩) 1 L (w2.alloc (.cells #[.int .i64 2147483647] 3)) (one_vs w2 2147483647) (by omega) (by omega))
  have x3 := HA3.out.cell 2
  have xl3 := HA3.out.lt
  simp only [List.getElem?_cons_zero, List.getElem?_cons_succ] at x3
  clear Hfb hbx1
  go_wp2_with (fail)
  clear x2 xl x3 xl3
  refine Hrep.out.mono ?_
  rintro e w4 ⟨g, rfl, hB4, hg4, hb4⟩
  have HA4 := Lib.hid (HA3.out.below hb4 HA3.out.lt)
  have Hb4 := Lib.hid (Hb3.out.trans (hb4.mono Hb3.out.size))
  have hgw : w.heap.size ≤ g := Nat.le_trans Hb3.out.size hg4
  have HO4 : Hid (OwnNu w4 w.heap.size (some ⟨g, 0, none⟩) L L (fun _ => farI)) := Lib.hid (by
    have := blk_own (base := w.heap.size) hB4 hgw (List.length_replicate ..) (by unfold maxLen; omega)
    rw [rng_const] at this
    exact this)
  have hgne : bx ≠ g := by
    have h1 := HA3.out.lt
    omega
  clear hB4 hb4 hg4 Hrep Hb3 HA3 Hb2 HA2 Hb1 HA Hfit
  go_wp2_with (fail)
  go_loopw [4] (fun sv wr => ∃ (b : Bool) (V : Nat → Int), sv = .bool b ∧ Hid (ShInv al V) ∧ Hid (b = false → ∀ r, ∀ a ∈ al.getD r [], V r ≤ lenP V a) ∧ Hid (OwnNu wr w.heap.size (some ⟨g, 0, none⟩) L L V) ∧ Hid (Blk wr bx 25 [.slice xta T xtc, .slice xna N xnc, .slice xaa L xac]) ∧ Below w.heap.size w wr) (fun sv wr => 2 * sumC wr g L + bit9 sv)
  case atStart => exact ⟨true, _, rfl, Lib.hid (ShInv.start al), Lib.hid (fun h => by cases h), HO4, HA4, Hb4.out⟩
  case round =>
    clear HO4 HA4 Hb4
    obtain ⟨b, V0, rfl, HV0, Hcl, HO, HAr, hbr⟩ := hrel
    obtain ⟨U0, rfl⟩ : ∃ U, U = wr := ⟨_, rfl⟩
    cases b
    · have HOe : Hid (OwnNu U0 w.heap.size (some ⟨g, 0, none⟩) L L (shP al)) := Lib.hid (by
        have h1 : V0 = shP al := funext (fun r => HV0.out.done (Hcl.out rfl) r)
        rw [← h1]
        exact HO.out)
      go_wp2_with (fail)
      first | (change Q (.returned (.slice (some ⟨g, 0, none⟩) L L)) U0; rw [← HQ.out]; exact ⟨some ⟨g, 0, none⟩, L, rfl, HOe.out, hbr⟩) | exact bodyPost_ret (v := .slice (some ⟨g, 0, none⟩) L L) (by simp [results, Try.results24, go_sem]; try first | rfl | assumption | omega) rfl (by rw [← HQ.out]; exact ⟨some ⟨g, 0, none⟩, L, rfl, HOe.out, hbr⟩)
    · clear Hcl
      have x2 := HAr.out.cell 2
      have xl := HAr.out.lt
      simp only [List.getElem?_cons_zero, List.getElem?_cons_succ] at x2
      have Hm0 := Lib.hid HO.out.sum
      have HVs := Lib.hid hbr
      go_wp2_with (fail)
      clear x2 xl
      go_loopw [4, 22] (fun sv iv wr => ∃ (k : Nat) (b : Bool) (V : Nat → Int), k ≤ L ∧ iv = .int .i64 (k : Int) ∧ sv = .bool b ∧ Hid (ShInv al V) ∧ Hid (ShK al V0 V b L k 0) ∧ Hid (OwnNu wr w.heap.size (some ⟨g, 0, none⟩) L L V) ∧ Hid (Blk wr bx 25 [.slice xta T xtc, .slice xna N xnc, .slice xaa L xac]) ∧ Below w.heap.size w wr) (fun _ iv _ => L - (RowKit.intOf iv).toNat)
      case atStart => exact ⟨0, false, V0, Nat.zero_le _, rfl, rfl, HV0, Lib.hid (ShK.start al V0 L), HO, HAr, hbr⟩
      case round =>
        clear HO HAr hbr
        obtain ⟨k, b, V, hk, rfl, rfl, HV, HK, HO, HAr, hbr⟩ := hrel
        obtain ⟨U, rfl⟩ : ∃ U, U = wr := ⟨_, rfl⟩
        by_cases hlt : k < L
        · have hkI : (k : Int) < (L : Int) := by omega
          have hkI0 : (0 : Int) ≤ (k : Int) := by omega
          have hkl : k < xa.length := by rw [HL.out]; exact hlt
          have hrow := HX3.out.grown hbr
          have hst := hAl.out k hkl
          obtain ⟨p, po, hp⟩ := hrow.at_ k (by rw [List.length_map]; exact hkl)
          have cp := hrow.cell p po hp k (by rw [List.length_map]; exact hkl)
          rw [List.getElem_map] at cp
          have hm : xa[k] ∈ xa := List.getElem_mem hkl
          obtain ⟨e, he⟩ : ∃ v, Hid (xa[k] = v) := ⟨_, Lib.hid rfl⟩
          rw [he.out] at cp hm hst
          have hblp := World.block_lt_of_cell? _ _ cp
          obtain ⟨ed, ea, ec⟩ := e
          change _ = some (Value.slice ea ed.length ec) at cp
          have hal : AltsI w ea ec ed := HX4.out _ hm
          have hdm : ed.length ≤ ec ∧ ec ≤ 9223372036854775807 := ⟨by have := hal.row.le; rwa [List.length_map] at this, hal.row.max⟩
          have hd30 : ed.length ≤ 30 := HF4.out _ hm
          have hok := Lib.hid (HF5.out _ hm)
          have Hal := Lib.hid hal
          have Hst := Lib.hid hst
          obtain ⟨M, hM⟩ : ∃ q, Hid (ed.length = q) := ⟨_, Lib.hid rfl⟩
          rw [hM.out] at cp hdm hd30
          subst hp
          clear hm hal hrow hst
          go_wp2_with (fail)
          clear cp hblp
          go_loopw [4, 29] (fun sv jv wr => ∃ (j : Nat) (b : Bool) (V : Nat → Int), j ≤ M ∧ jv = .int .i64 (j : Int) ∧ sv = .bool b ∧ Hid (ShInv al V) ∧ Hid (ShK al V0 V b L k j) ∧ Hid (OwnNu wr w.heap.size (some ⟨g, 0, none⟩) L L V) ∧ Hid (Blk wr bx 25 [.slice xta T xtc, .slice xna N xnc, .slice (some ⟨p, po, none⟩) L xac]) ∧ Below w.heap.size w wr) (fun _ jv _ => M - (RowKit.intOf jv).toNat)
          case atStart => exact ⟨0, b, V, Nat.zero_le _, rfl, rfl, HV, HK, HO, HAr, hbr⟩
          case round =>
            clear HV HK HO HAr hbr
            obtain ⟨j, b, V, hj, rfl, rfl, HV, HK, HO, HAr, hbr⟩ := hrel
            obtain ⟨U2, rfl⟩ : ∃ U, U = wr := ⟨_, rfl⟩
            by_cases hltj : j < M
            · have hjI : (j : Int) < (M : Int) := by omega
              have hjI0 : (0 : Int) ≤ (j : Int) := by omega
              have hjl : j < ed.length := by rw [hM.out]; exact hltj
              have hrow := Hal.out.row.grown hbr
              have hok2 := hok.out _ (List.getElem_mem hjl)
              have hin : (al.getD k [])[j]? = some (ed[j]).l := by rw [Hst.out, List.getElem?_map, List.getElem?_eq_getElem hjl]; rfl
              have hnm := (Hal.out.nms _ (List.getElem_mem hjl)).grown hbr
              obtain ⟨c, co, hc⟩ := hrow.at_ j (by rw [List.length_map]; exact hjl)
              have cc := hrow.cell c co hc j (by rw [List.length_map]; exact hjl)
              rw [List.getElem_map] at cc
              obtain ⟨e, he⟩ : ∃ v, Hid (ed[j] = v) := ⟨_, Lib.hid rfl⟩
              rw [he.out] at cc hok2 hin hnm
              have hblc := World.block_lt_of_cell? _ _ cc
              obtain ⟨el, ela, elc⟩ := e
              change _ = some (Value.slice ela el.length elc) at cc
              dsimp only at hok2 hin hnm
              have Hlen := Lib.hid (length_any el ela elc L (some ⟨g, 0, none⟩) L V U2 hnm HO.out.nus (fun x hx => (hok2.2 x hx).1) (by have := hok2.1; omega) (by omega) (fun r => ⟨HV.out.nonneg r, HV.out.le r⟩))
              have hmem : el ∈ al.getD k [] := List.mem_of_getElem? hin
              have hl0 : 0 ≤ lenP V el := len_nonneg (fun x _ _ => HV.out.nonneg _)
              have z0 := HO.out.cell k hlt
              have zl : g < U2.heap.size := (World.ownsRow.lt HO.out g rfl).2
              have hVk := HV.out.le k
              have hVk0 := HV.out.nonneg k
              have hem : el.length ≤ elc ∧ elc ≤ 9223372036854775807 := ⟨by have := hnm.le; rwa [List.length_map] at this, hnm.max⟩
              subst hc
              obtain ⟨x, hx⟩ : ∃ q, Hid (lenP V el = q) := ⟨_, Lib.hid rfl⟩
              obtain ⟨y, hy⟩ : ∃ q, Hid (V k = q) := ⟨_, Lib.hid rfl⟩
              rw [hx.out] at Hlen hl0
              rw [hy.out] at z0 hVk hVk0
              obtain ⟨EL, hEL⟩ : ∃ q, Hid (el.length = q) := ⟨_, Lib.hid rfl⟩
              rw [hEL.out] at Hlen cc hem
              clear hrow hnm
              by_cases hxy : x < y
              · have HK2 : Hid (ShK al V0 (fun s => if s = k then x else V s) true L k (j + 1)) := Lib.hid (HK.out.put hlt hl0 (by rw [hy.out]; exact hxy))
                have HV2 : Hid (ShInv al (fun s => if s = k then x else V s)) := Lib.hid (by
                  have := HV.out.put hmem (by rw [hx.out, hy.out]; exact hxy)
                  rwa [hx.out] at this)
                have zf := own_frz (j := k) HO.out
                obtain ⟨hO7, hg7⟩ := HO.out.stored k (.int .i64 x)
                have HO7 : Hid (OwnNu (U2.setCell ⟨g, k, none⟩ (.int .i64 x)) w.heap.size (some ⟨g, 0, none⟩) L L (fun s => if s = k then x else V s)) := Lib.hid (by
                  rw [set_rng] at hO7
                  unfold OwnNu
                  refine (congrArg (fun l => (U2.setCell ⟨g, k, none⟩ (.int .i64 x)).ownsRow w.heap.size 3 1 (.slice (some ⟨g, 0, none⟩) L L) L l) (List.map_congr_left (fun s _ => ?_))).mp hO7
                  dsimp only
                  split <;> rfl)
                have HA7 := Lib.hid (HAr.out.kept hg7 (by simpa using hgne))
                have Hb7 := Lib.hid (hbr.trans (belowAt hg7 (B := w.heap.size) (fun i e => by injection e with e; omega) hbr.size))
                clear hO7 hg7 hbr HK HV HO HAr
                go_wp2_with (fail)
                refine Hlen.out.mono ?_
                rintro e w5 ⟨rfl, rfl⟩
                go_wp2_with (fail)
                exact ⟨⟨j + 1, true, _, by omega, by go_num, rfl, HV2, HK2, HO7, HA7, Hb7.out⟩, by simp [RowKit.intOf]; omega⟩
              · have HK2 : Hid (ShK al V0 V b L k (j + 1)) := Lib.hid (HK.out.keep (fun a ha => by
                  rw [hin] at ha
                  injection ha with ha
                  subst ha
                  rw [hx.out, hy.out]
                  omega))
                go_wp2_with (fail)
                refine Hlen.out.mono ?_
                rintro e w5 ⟨rfl, rfl⟩
                go_wp2_with (fail)
                exact ⟨⟨j + 1, b, V, by omega, by go_num, rfl, HV, HK2, HO, HAr, hbr⟩, by simp [RowKit.intOf]; omega⟩
            · have hje : j = M := by omega
              have hjI : ¬ (j : Int) < (M : Int) := by omega
              have HK2 : Hid (ShK al V0 V b L (k + 1) 0) := Lib.hid (HK.out.row (by rw [Hst.out, List.length_map, hM.out, hje]; exact Nat.le_refl _))
              clear hje
              go_wp2_with (fail)
              exact ⟨⟨k + 1, b, V, by omega, by go_num, rfl, HV, HK2, HO, HAr, hbr⟩, by simp [RowKit.intOf]; omega⟩
        · have hke : k = L := by omega
          have hkI : ¬ (k : Int) < (L : Int) := by omega
          have hfin := Lib.hid (HK.out.fin (by rw [Hpl.out, hke]; exact Nat.le_refl _))
          have Hm1 := Lib.hid HO.out.sum
          clear hke
          go_wp2_with (fail)
          refine ⟨⟨b, V, rfl, HV, Lib.hid (fun h => ?_), HO, HAr, hbr⟩, ?_⟩
          · rcases hfin.out with ⟨h1, _⟩ | ⟨_, _, h2⟩
            · rw [h1] at h; cases h
            · exact h2
          · rw [Hm1.out, Hm0.out]
            rcases hfin.out with ⟨rfl, h1⟩ | ⟨rfl, rfl, _⟩
            · simp only [bit9]; omega
            · simp only [bit9]; omega
end Go.Proofs.Ytldmgifphkpdlaa

namespace Go.Proofs.Ytldmgifphkpdlaa
open Go.RowKit

theorem backR_mem (ts ns : List ByteArray) : ∀ (l : List ByteArray) (al : List (List (List Int))), l.length = al.length → ∀ a ∈ al, ∃ n, (n, a.map (fun x => x.map (nmP ts ns))) ∈ backR ts ns l al
  | [], [], _, a, ha => by cases ha
  | [], _ :: _, h, _, _ => by cases h
  | _ :: _, [], h, _, _ => by cases h
  | n :: l, b :: al, h, a, ha => by
    rcases List.mem_cons.1 ha with rfl | ha
    · exact ⟨n, List.mem_cons_self ..⟩
    · obtain ⟨m, hm⟩ := backR_mem ts ns l al (by simpa using h) a ha
      exact ⟨m, List.mem_cons_of_mem _ hm⟩
theorem backR_length (ts ns : List ByteArray) : ∀ (l : List ByteArray) (al : List (List (List Int))), l.length = al.length → (backR ts ns l al).length = al.length
  | [], [], _ => rfl
  | [], _ :: _, h => by cases h
  | _ :: _, [], h => by cases h
  | n :: l, b :: al, h => by
    show (backR ts ns l al).length + 1 = al.length + 1
    rw [backR_length ts ns l al (by simpa using h)]
theorem valid_fit {d : CfD} (h : validE d.p = 0) : FitC d := by
  unfold validE at h
  split at h
  · next h1 =>
    split at h
    · next h2 =>
      unfold backE at h1
      split at h1
      · next h3 =>
        split at h1
        · next h4 =>
          unfold numE at h2
          split at h2
          · next h5 =>
            split at h2
            · next h6 =>
              clear h h1 h2
              have e1 : d.p.alts = d.alts.map IrD.p := rfl
              have e2 : d.p.names = d.names := rfl
              have e3 : d.p.toks = d.toks := rfl
              rw [e1, e2] at h3
              rw [List.length_map] at h3
              have hl := backR_length d.toks d.names d.names (d.alts.map IrD.p) (by rw [List.length_map]; exact h3)
              rw [List.length_map] at hl
              unfold chkG at h5
              split at h5
              · next h7 =>
                split at h5
                · cases h5
                · next h8 =>
                  unfold mayG at h7
                  rw [Bool.and_eq_true, decide_eq_true_eq] at h7
                  have h9 := h7.2
                  rw [Bool.not_eq_true] at h8
                  unfold longG at h8
                  rw [Bool.or_eq_false_iff, decide_eq_false_iff_not] at h8
                  obtain ⟨h10, h11⟩ := h8
                  unfold can backG at h9 h10 h11
                  rw [List.length_map] at h9 h10
                  rw [e1, e2, e3] at h9 h10 h11
                  rw [hl] at h9 h10
                  rw [List.any_eq_false] at h11
                  have key : ∀ r ∈ d.alts, r.ds.length ≤ 30 ∧ ∀ x ∈ r.ds, x.l.length ≤ 30 := by
                    intro r hr
                    obtain ⟨n, hn⟩ := backR_mem d.toks d.names d.names (d.alts.map IrD.p) (by rw [List.length_map]; exact h3) r.p (List.mem_map_of_mem hr)
                    have h12 := h11 _ (List.mem_map_of_mem (f := canR) hn)
                    rw [Bool.not_eq_true] at h12
                    unfold longR at h12
                    rw [Bool.or_eq_false_iff, decide_eq_false_iff_not] at h12
                    obtain ⟨h13, h14⟩ := h12
                    have e4 : (canR (n, r.p.map (fun x => x.map (nmP d.toks d.names)))).ds.length = r.ds.length := by simp [canR, IrD.p]
                    rw [e4] at h13
                    refine ⟨by omega, fun x hx => ?_⟩
                    rw [List.any_eq_false] at h14
                    have h15 := h14 ⟨x.l.map (nmP d.toks d.names), none, 0⟩ (by
                      unfold canR
                      dsimp only
                      refine List.mem_map.2 ⟨x.l.map (nmP d.toks d.names), List.mem_map.2 ⟨x.l, ?_, rfl⟩, rfl⟩
                      exact List.mem_map.2 ⟨x, hx, rfl⟩)
                    rw [Bool.not_eq_true] at h15
                    unfold longA at h15
                    rw [decide_eq_false_iff_not] at h15
                    dsimp only at h15
                    rw [List.length_map] at h15
                    omega
                  unfold ckT at h6
                  split at h6
                  · split at h6
                    · cases h6
                    · next h16 =>
                      rw [e3] at h16
                      refine ⟨by omega, by omega, by omega, fun r hr => (key r hr).1, fun r hr x hx => ⟨(key r hr).2 x hx, ?_⟩⟩
                      unfold numsB at h4
                      rw [List.all_eq_true] at h4
                      have h17 := h4 r.p (by rw [e1]; exact List.mem_map_of_mem hr)
                      rw [List.all_eq_true] at h17
                      have h18 := h17 x.l (List.mem_map.2 ⟨x, hx, rfl⟩)
                      rw [List.all_eq_true] at h18
                      intro y hy
                      have h19 := okN_iff.1 (h18 y hy)
                      rw [e2, e3, h3] at h19
                      exact h19
                  · cases h6
              · cases h5
            · next h6 => exact absurd h2 h6
          · next h5 => exact absurd h2 h5
        · cases h1
      · cases h1
    · cases h
  · cases h
end Go.Proofs.Ytldmgifphkpdlaa

namespace Go.Proofs.Ytldmgifphkpdlaa
open Go.RowKit

attribute [local go_sem] Oper.semAt_some

set_option maxRecDepth 100000 in
set_option maxHeartbeats 4000000 in
theorem refFewM_any (m9 : Nat) (hm9 : m9 ≤ 1000) (d : CfD) (w : World) (hd : CfAt w d) (hs : d.toks.length + d.names.length + szC (d.alts.map IrD.p) ≤ 1000000000000) :
    Calls Try.prog 49 #[d.v, .int .i64 (m9 : Int)] w fun e w' => e = .returned (.bool (decide (d.toks.length + d.names.length + szC (d.alts.map IrD.p) ≤ m9))) ∧ Below w.heap.size w w' := by
  obtain ⟨toks, dta, dtc, names, dna, dnc, al, daa, dac⟩ := d
  dsimp only [CfD.v] at hs ⊢
  have hA0 := Blk.new w 25 #[.slice dta toks.length dtc, .slice dna names.length dnc, .slice daa al.length dac]
  have hb0 : Below w.heap.size w (w.alloc (.cells #[.slice dta toks.length dtc, .slice dna names.length dnc, .slice daa al.length dac] 25)) := (Below.refl _ w).alloc (Nat.le_refl _) _
  have hRow := Lib.hid (hd.alts.grown hb0)
  have hRul := Lib.hid (fun r hr => (hd.rules r hr).grown hb0)
  have ham : al.length ≤ dac ∧ dac ≤ 9223372036854775807 := ⟨by have := hd.alts.le; rwa [List.length_map] at this, hd.alts.max⟩
  obtain ⟨S, hS⟩ : ∃ q, Hid (szC (al.map IrD.p) = q) := ⟨_, Lib.hid rfl⟩
  obtain ⟨R, hR⟩ : ∃ R : Nat → Nat, Hid ((fun k => szC ((al.map IrD.p).take k)) = R) := ⟨_, Lib.hid rfl⟩
  have hR0 : Hid (R 0 = 0) := Lib.hid (by rw [← hR.out]; rfl)
  have hRl : Hid (∀ k, R k ≤ S) := Lib.hid (fun k => by rw [← hR.out, ← hS.out]; exact szC_le _ k)
  have hRe : Hid (R al.length = S) := Lib.hid (by rw [← hR.out, ← hS.out]; show szC (List.take al.length (al.map IrD.p)) = _; rw [List.take_of_length_le (by simp)])
  have hRs : Hid (∀ k (h : k < al.length), R (k + 1) = R k + szJ al[k].p) := Lib.hid (fun k h => by
    rw [← hR.out]
    have := szC_take (al.map IrD.p) k (by simpa using h)
    rw [List.getElem_map] at this
    exact this)
  rw [hS.out] at hs ⊢
  obtain ⟨M, hM⟩ : ∃ q, Hid (toks.length = q) := ⟨_, Lib.hid rfl⟩
  obtain ⟨N, hN⟩ : ∃ q, Hid (names.length = q) := ⟨_, Lib.hid rfl⟩
  obtain ⟨A, hA⟩ : ∃ q, Hid (al.length = q) := ⟨_, Lib.hid rfl⟩
  rw [hM.out, hN.out, hA.out] at hA0 hb0 hRow hRul ⊢
  rw [hM.out, hN.out] at hs
  rw [hA.out] at ham hRe
  obtain ⟨B, hB⟩ : ∃ q, Hid (decide (M + N + S ≤ m9) = q) := ⟨_, Lib.hid rfl⟩
  rw [hB.out]
  have y0 := hA0.cell 0
  have y1 := hA0.cell 1
  have y2 := hA0.cell 2
  have yl := hA0.lt
  simp only [List.getElem?_cons_zero, List.getElem?_cons_succ] at y0 y1 y2
  clear hd hA0
  go_enter Try.func49, Try.ntmps49
  go_wp2_with (fail)
  generalize hV : World.alloc w _ = W at hRow hRul hb0 y0 y1 y2 yl ⊢
  clear hV y0 y1 y2 yl
  go_loopw [5, 20] (fun s iv wr => ∃ (k n : Nat), k ≤ A ∧ iv = .int .i64 (k : Int) ∧ s = .int .i64 (n : Int) ∧ Hid (n = M + N + R k) ∧ wr = W) (fun _ iv _ => A - (RowKit.intOf iv).toNat)
  case atStart => exact ⟨0, M + N, Nat.zero_le _, rfl, by go_num, Lib.hid (by rw [hR0.out]; rfl), rfl⟩
  case round =>
    obtain ⟨k, n, hk, rfl, rfl, Hn, hwr⟩ := hrel
    subst hwr
    have hnl : n ≤ 1000000000000 := by have := Hn.out; have := hRl.out k; omega
    by_cases hlt : k < A
    · have hkI : (k : Int) < (A : Int) := by omega
      have hkI0 : (0 : Int) ≤ (k : Int) := by omega
      have hka : k < al.length := by rw [hA.out]; exact hlt
      obtain ⟨b2, o2, rfl⟩ := hRow.out.at_ k (by rw [List.length_map]; exact hka)
      have d0 := hRow.out.cell b2 o2 rfl k (by rw [List.length_map]; exact hka)
      rw [List.getElem_map] at d0
      have hIq := hRul.out _ (List.getElem_mem hka)
      have hst := hRs.out k hka
      obtain ⟨q, hq⟩ : ∃ v, Hid (al[k] = v) := ⟨_, Lib.hid rfl⟩
      rw [hq.out] at d0 hIq hst
      unfold IrD.v at d0
      obtain ⟨qds, qa, qc⟩ := q
      dsimp only at d0 hIq hst
      obtain ⟨E, hE⟩ : ∃ q, Hid (qds.length = q) := ⟨_, Lib.hid rfl⟩
      rw [hE.out] at d0
      have hem : E ≤ qc ∧ qc ≤ 9223372036854775807 := ⟨by have := hIq.row.le; rwa [List.length_map, hE.out] at this, hIq.row.max⟩
      obtain ⟨J, hJ⟩ : ∃ J : Nat → Nat, Hid ((fun j => n + szJ ((IrD.p ⟨qds, qa, qc⟩).take j)) = J) := ⟨_, Lib.hid rfl⟩
      have hJ0 : Hid (J 0 = n) := Lib.hid (by rw [← hJ.out]; rfl)
      have hpl : (IrD.p ⟨qds, qa, qc⟩).length = qds.length := by unfold IrD.p; simp
      have hJe : Hid (J E = M + N + R (k + 1)) := Lib.hid (by rw [← hJ.out]; show n + szJ (List.take E (IrD.p ⟨qds, qa, qc⟩)) = _; rw [List.take_of_length_le (by rw [hpl, hE.out]; exact Nat.le_refl _), hst, Hn.out]; omega)
      have hJl : Hid (∀ j, J j ≤ M + N + S) := Lib.hid (fun j => by
        have h1 := szJ_le (IrD.p ⟨qds, qa, qc⟩) j
        have h2 := hRl.out (k + 1)
        have h3 := Hn.out
        rw [← hJ.out]
        show n + szJ ((IrD.p ⟨qds, qa, qc⟩).take j) ≤ _
        omega)
      have hJs : Hid (∀ j (h : j < qds.length), J (j + 1) = J j + (1 + qds[j].l.length)) := Lib.hid (fun j h => by
        rw [← hJ.out]
        have h1 := szJ_take (IrD.p ⟨qds, qa, qc⟩) j (by rw [hpl]; exact h)
        have h2 : (IrD.p ⟨qds, qa, qc⟩)[j]'(by rw [hpl]; exact h) = qds[j].l := by simp [IrD.p]
        rw [h2] at h1
        show n + szJ ((IrD.p ⟨qds, qa, qc⟩).take (j + 1)) = n + szJ ((IrD.p ⟨qds, qa, qc⟩).take j) + (1 + qds[j].l.length)
        omega)
      have HI := Lib.hid hIq
      have hbl := World.block_lt_of_cell? _ _ d0
      clear hIq hst hpl
      go_wp2_with (fail)
      clear d0 hbl
      obtain ⟨W8, rfl⟩ : ∃ W8, W8 = wr := ⟨_, rfl⟩
      go_loopw [5, 26] (fun s iv wr => ∃ (j m : Nat), j ≤ E ∧ iv = .int .i64 (j : Int) ∧ s = .int .i64 (m : Int) ∧ Hid (m = J j) ∧ wr = W8) (fun _ iv _ => E - (RowKit.intOf iv).toNat)
      case atStart => exact ⟨0, n, Nat.zero_le _, rfl, rfl, Lib.hid hJ0.out.symm, rfl⟩
      case round =>
        obtain ⟨j, m, hj, rfl, rfl, Hm, hwr⟩ := hrel
        subst hwr
        have hml : m ≤ 1000000000000 := by have := Hm.out; have := hJl.out j; omega
        by_cases hlt2 : j < E
        · have hjI : (j : Int) < (E : Int) := by omega
          have hjI0 : (0 : Int) ≤ (j : Int) := by omega
          have hje : j < qds.length := by rw [hE.out]; exact hlt2
          obtain ⟨b4, o4, rfl⟩ := HI.out.row.at_ j (by rw [List.length_map]; exact hje)
          have f0 := HI.out.row.cell b4 o4 rfl j (by rw [List.length_map]; exact hje)
          rw [List.getElem_map] at f0
          have hst := hJs.out j hje
          have hjb := hJl.out (j + 1)
          unfold IltD.v at f0
          obtain ⟨u, hu⟩ : ∃ q, Hid (qds[j].l.length = q) := ⟨_, Lib.hid rfl⟩
          rw [hu.out] at f0 hst
          generalize qds[j].a = ua at f0
          generalize qds[j].c = uc at f0
          have hbl := World.block_lt_of_cell? _ _ f0
          have hmu : m + (1 + u) ≤ M + N + S := by rw [hst, ← Hm.out] at hjb; exact hjb
          have Hst : Hid (m + (1 + u) = J (j + 1)) := Lib.hid (by rw [hst, Hm.out])
          clear hst hjb
          by_cases hbig : m9 < m + (1 + u)
          · have hbI : (m9 : Int) < (m : Int) + (1 + (u : Int)) := by omega
            have hBf : Hid (B = false) := Lib.hid (by rw [← hB.out, decide_eq_false_iff_not]; omega)
            go_wp2_with (fail)
            exact bodyPost_ret (v := .bool false) (by simp [results, Try.results49, go_sem]; try first | rfl | assumption | omega) rfl ⟨by rw [hBf.out], hb0⟩
          · have hbI : ¬ (m9 : Int) < (m : Int) + (1 + (u : Int)) := by omega
            go_wp2_with (fail)
            exact ⟨⟨j + 1, m + (1 + u), by omega, by go_num, by go_num, Hst, by first | rfl | trivial⟩, by simp [RowKit.intOf]; omega⟩
        · obtain rfl : j = E := by omega
          have hjI : ¬ (j : Int) < (j : Int) := by omega
          go_wp2_with (fail)
          exact ⟨⟨k + 1, m, by omega, by go_num, rfl, Lib.hid (by rw [Hm.out, hJe.out]), by first | rfl | trivial⟩, by simp [RowKit.intOf]; omega⟩
    · obtain rfl : k = A := by omega
      have hkI : ¬ (k : Int) < (k : Int) := by omega
      have hT : Hid (B = decide (n ≤ m9)) := Lib.hid (by rw [← hB.out, Hn.out, hRe.out])
      by_cases hle : n ≤ m9
      · have hI : (n : Int) ≤ m9 := by omega
        have hBt : Hid (B = true) := Lib.hid (by rw [hT.out, decide_eq_true hle])
        go_wp2_with (fail)
        exact bodyPost_ret (v := .bool true) (by simp [results, Try.results49, go_sem]; try first | rfl | assumption | omega) rfl ⟨by rw [hBt.out], hb0⟩
      · have hI : ¬ (n : Int) ≤ m9 := by omega
        have hBt : Hid (B = false) := Lib.hid (by rw [hT.out, decide_eq_false hle])
        go_wp2_with (fail)
        exact bodyPost_ret (v := .bool false) (by simp [results, Try.results49, go_sem]; try first | rfl | assumption | omega) rfl ⟨by rw [hBt.out], hb0⟩
end Go.Proofs.Ytldmgifphkpdlaa

namespace Go.Proofs.Ytldmgifphkpdlaa
open Go.RowKit Go.Maps

attribute [local go_sem] Oper.semAt_some

noncomputable def few9 (d : CfD) : Bool := decide (d.toks.length + d.names.length + szC (d.alts.map IrD.p) ≤ 200) && decide (validE d.p = 0)
theorem few9_fit {d : CfD} (h : few9 d = true) : FitC d := by
  unfold few9 at h
  rw [Bool.and_eq_true, decide_eq_true_eq, decide_eq_true_eq] at h
  exact valid_fit h.2
set_option maxRecDepth 100000 in
set_option maxHeartbeats 16000000 in
theorem few9_any (d : CfD) (w : World) (hd : CfAt w d) (h1 : ∀ t ∈ d.toks, t.size ≤ maxLen) (h2 : ∀ t ∈ d.names, t.size ≤ maxLen) (h3 : ∀ r ∈ d.alts, ∀ a ∈ r.ds, ∀ x ∈ a.l, -9223372036854775808 ≤ x ∧ x ≤ 9223372036854775807) (hs : d.toks.length + d.names.length + szC (d.alts.map IrD.p) ≤ 1000000000000) :
    Calls Try.prog 14 #[d.v] w fun e w' => e = .returned (.bool (few9 d)) ∧ Below w.heap.size w w' := by
  have HF := Lib.hid (fun W (hb : Below w.heap.size w W) => refFewM_any 200 (by omega) d W (hd.grown hb) hs)
  have HV := Lib.hid (fun W (hb : Below w.heap.size w W) (hf : d.toks.length + d.names.length + szC (d.alts.map IrD.p) ≤ 200) => refValid_any d W (hd.grown hb) ⟨by omega, h1, h2⟩ h3)
  obtain ⟨R, hR⟩ : ∃ q, Hid (few9 d = q) := ⟨_, Lib.hid rfl⟩
  rw [hR.out]
  unfold few9 at hR
  obtain ⟨E, hE⟩ : ∃ q, Hid (validE d.p = q) := ⟨_, Lib.hid rfl⟩
  rw [hE.out] at HV hR
  obtain ⟨Z, hZ⟩ : ∃ q, Hid (d.toks.length + d.names.length + szC (d.alts.map IrD.p) = q) := ⟨_, Lib.hid rfl⟩
  rw [hZ.out] at HF HV hR
  obtain ⟨xt, xta, xtc, xn, xna, xnc, xa, xaa, xac⟩ := d
  dsimp only [CfD.v] at *
  have hb1 : Below w.heap.size w (w.alloc (.cells #[.slice xta xt.length xtc, .slice xna xn.length xnc, .slice xaa xa.length xac] 25)) := (Below.refl _ w).alloc (Nat.le_refl _) _
  have hA := Blk.new w 25 #[.slice xta xt.length xtc, .slice xna xn.length xnc, .slice xaa xa.length xac]
  obtain ⟨T, HT⟩ : ∃ q, Hid (xt.length = q) := ⟨_, Lib.hid rfl⟩
  obtain ⟨N, HN⟩ : ∃ q, Hid (xn.length = q) := ⟨_, Lib.hid rfl⟩
  obtain ⟨L, HL⟩ : ∃ q, Hid (xa.length = q) := ⟨_, Lib.hid rfl⟩
  rw [HT.out, HN.out, HL.out] at hA hb1 HF HV ⊢
  have x0 := hA.cell 0
  have x1 := hA.cell 1
  have x2 := hA.cell 2
  have xl := hA.lt
  simp only [List.getElem?_cons_zero, List.getElem?_cons_succ] at x0 x1 x2
  have HA := Lib.hid hA
  have Hb1 := Lib.hid hb1
  have HF' : Hid (∀ W, Below w.heap.size w W → Calls Try.prog 49 #[.agg #[.slice xta T xtc, .slice xna N xnc, .slice xaa L xac], .int .i64 200] W fun e w' => e = .returned (.bool (decide (Z ≤ 200))) ∧ Below W.heap.size W w') := HF
  have Hc1 := Lib.hid (HF'.out _ hb1)
  clear hd hA hb1 h1 h2 h3 hs HF HF'
  by_cases hz : Z ≤ 200
  · rw [decide_eq_true hz] at Hc1 hR
    rw [Bool.true_and] at hR
    have HV' : Hid (∀ W, Below w.heap.size w W → Calls Try.prog 50 #[.agg #[.slice xta T xtc, .slice xna N xnc, .slice xaa L xac]] W fun e w' => e = .returned (.int .i64 E) ∧ Below W.heap.size W w') := Lib.hid (fun W hb => HV.out W hb hz)
    clear HV hz
    go_enter Try.func14, Try.ntmps14
    go_wp2_with (fail)
    obtain ⟨bx, hbx⟩ : ∃ q, Hid (w.heap.size = q) := ⟨_, Lib.hid rfl⟩
    rw [hbx.out] at HA xl x0 x1 x2 ⊢
    generalize hV : World.alloc w _ = V at HA x0 x1 x2 xl Hb1 Hc1 ⊢
    clear hV
    refine Hc1.out.mono ?_
    rintro e w2 ⟨rfl, hb2⟩
    have HA2 := Lib.hid (HA.out.below hb2 HA.out.lt)
    have Hb2 := Lib.hid (Hb1.out.trans (hb2.mono Hb1.out.size))
    clear x0 x1 x2 xl hb2 Hc1
    have x0 := HA2.out.cell 0
    have x1 := HA2.out.cell 1
    have x2 := HA2.out.cell 2
    have xl := HA2.out.lt
    simp only [List.getElem?_cons_zero, List.getElem?_cons_succ] at x0 x1 x2
    go_wp2_with (fail)
    refine (HV'.out w2 Hb2.out).mono ?_
    rintro e w3 ⟨rfl, hb3⟩
    have Hb3 := Lib.hid (Hb2.out.trans (hb3.mono Hb2.out.size))
    clear x0 x1 x2 xl hb3 HV'
    by_cases h0 : E = 0
    · subst h0
      have hRt : Hid (R = true) := Lib.hid (by rw [← hR.out]; exact decide_eq_true rfl)
      go_wp2_with (fail)
      exact bodyPost_ret (v := .bool true) (by simp [results, Try.results14, go_sem]; try first | rfl | assumption | omega) rfl ⟨by rw [hRt.out], Hb3.out⟩
    · have hRt : Hid (R = false) := Lib.hid (by rw [← hR.out]; exact decide_eq_false h0)
      have h00 : (E == 0) = false := by rw [beq_eq_false_iff_ne]; exact h0
      go_wp2_with (fail)
      exact bodyPost_ret (v := .bool false) (by simp [results, Try.results14, go_sem]; try first | rfl | assumption | omega) rfl ⟨by rw [hRt.out], Hb3.out⟩
  · rw [decide_eq_false hz] at Hc1 hR
    rw [Bool.false_and] at hR
    clear HV hz
    go_enter Try.func14, Try.ntmps14
    go_wp2_with (fail)
    obtain ⟨bx, hbx⟩ : ∃ q, Hid (w.heap.size = q) := ⟨_, Lib.hid rfl⟩
    rw [hbx.out] at HA xl x0 x1 x2 ⊢
    generalize hV : World.alloc w _ = V at HA x0 x1 x2 xl Hb1 Hc1 ⊢
    clear hV
    refine Hc1.out.mono ?_
    rintro e w2 ⟨rfl, hb2⟩
    have Hb2 := Lib.hid (Hb1.out.trans (hb2.mono Hb1.out.size))
    clear x0 x1 x2 xl hb2 Hc1
    go_wp2_with (fail)
    exact bodyPost_ret (v := .bool false) (by simp [results, Try.results14, go_sem]; try first | rfl | assumption | omega) rfl ⟨by rw [← hR.out], Hb2.out⟩
end Go.Proofs.Ytldmgifphkpdlaa

