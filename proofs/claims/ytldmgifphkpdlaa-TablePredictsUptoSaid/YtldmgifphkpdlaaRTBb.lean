/- Texts joined: Qq Qr. -/
import Derived.Test.YtldmgifphkpdlaaRTBa
import Derived.Test.YtldmgifphkpdlaaRTAn
import Derived.Test.YtldmgifphkpdlaaRTAq
set_option linter.unusedVariables false
set_option linter.unusedSimpArgs false
namespace Go.Proofs.Ytldmgifphkpdlaa
open Go.RowKit Go.Maps
attribute [local go_sem] Oper.semAt_some
theorem e10C_tak : (fun (r t j : Nat) => takB e9C (nulB e9C) 2 r (t : Int) j) = fun r t j => decide (r = 0 ∧ ((j = 0 ∧ t = 0) ∨ (j = 1 ∧ (t = 1 ∨ t = 2)))) := by
 funext r t j
 rw [Bool.eq_iff_iff, takB_iff, decide_eq_true_iff]
 have hahd : ahd (nulB e9C) [0, -1, 1] = [0] := by rw [e9C_nul]; simp [ahd]
 have hemp : emp (nulB e9C) [0, -1, 1] = false := by rw [e9C_nul]; simp [emp]
 constructor
 ·rintro ⟨a, ha, h⟩
  by_cases e : r = 0
  ·subst e
   refine ⟨rfl, ?_⟩
   match j, ha with
   | 0, ha =>
    obtain rfl : [0, -1, 1] = a := by simpa [e9C] using ha
    rcases h with h | ⟨h, _⟩
    ·rw [hahd] at h
     have := tok_tok (by omega) h
     exact .inl ⟨rfl, by omega⟩
    ·rw [hemp] at h; cases h
   | 1, ha =>
    obtain rfl : [] = a := by simpa [e9C] using ha
    rcases h with h | ⟨_, h⟩
    ·obtain ⟨x, hx, _⟩ := tok_iff.1 h
     cases hx
    ·have h2 := (e9C_fol.mem _).2 h
     have h3 : (t : Int) = 1 ∨ (t : Int) = 2 := by simpa using h2
     exact .inr ⟨rfl, by omega⟩
   | j + 2, ha => simp [e9C] at ha
  ·rw [e9C_out r (by omega)] at ha
   simp at ha
 ·rintro ⟨rfl, ⟨rfl, rfl⟩ | ⟨rfl, h⟩⟩
  ·exact ⟨[0, -1, 1], rfl, .inl (by rw [hahd]; exact tok_self (by omega))⟩
  ·refine ⟨[], rfl, .inr ⟨rfl, (e9C_fol.mem _).1 ?_⟩⟩
   rcases h with rfl | rfl <;> simp
def e10D : List (List (List Int)) := [[[0], [0, 1]]]
theorem e10D_out (r : Nat) (h : 1 ≤ r) : e10D.getD r [] = [] := by
 obtain ⟨r, rfl⟩ : ∃ q, r = q + 1 := ⟨r - 1, by omega⟩
 rfl
theorem e10D_nul : nulB e10D = fun _ => false := by
 funext r
 cases e : nulB e10D r
 ·rfl
 ·have h1 := nulB_lt e
  obtain ⟨a, ha, he⟩ := (nul_iff h1).1 e
  simp [e10D] at h1
  subst h1
  have : a = [0] ∨ a = [0, 1] := by simpa [e10D] using ha
  rcases this with rfl | rfl
  ·rw [emp_cons] at he; simp at he
  ·rw [emp_cons] at he; simp at he
theorem e10D_tak : (fun (r t j : Nat) => takB e10D (nulB e10D) 2 r (t : Int) j) = fun r t j => decide (r = 0 ∧ t = 0 ∧ (j = 0 ∨ j = 1)) := by
 funext r t j
 rw [Bool.eq_iff_iff, takB_iff, decide_eq_true_iff]
 have h0 : ahd (nulB e10D) [0] = [0] := by rw [e10D_nul]; simp [ahd]
 have h1 : ahd (nulB e10D) [0, 1] = [0] := by rw [e10D_nul]; simp [ahd]
 have g0 : emp (nulB e10D) [0] = false := by rw [e10D_nul]; simp [emp]
 have g1 : emp (nulB e10D) [0, 1] = false := by rw [e10D_nul]; simp [emp]
 constructor
 ·rintro ⟨a, ha, h⟩
  by_cases e : r = 0
  ·subst e
   refine ⟨rfl, ?_⟩
   match j, ha with
   | 0, ha =>
    obtain rfl : [0] = a := by simpa [e10D] using ha
    rcases h with h | ⟨h, _⟩
    ·rw [h0] at h
     have := tok_tok (by omega) h
     exact ⟨by omega, .inl rfl⟩
    ·rw [g0] at h; cases h
   | 1, ha =>
    obtain rfl : [0, 1] = a := by simpa [e10D] using ha
    rcases h with h | ⟨h, _⟩
    ·rw [h1] at h
     have := tok_tok (by omega) h
     exact ⟨by omega, .inr rfl⟩
    ·rw [g1] at h; cases h
   | j + 2, ha => simp [e10D] at ha
  ·rw [e10D_out r (by omega)] at ha
   simp at ha
 ·rintro ⟨rfl, rfl, rfl | rfl⟩
  ·exact ⟨[0], rfl, .inl (by rw [h0]; exact tok_self (by omega))⟩
  ·exact ⟨[0, 1], rfl, .inl (by rw [h1]; exact tok_self (by omega))⟩
theorem e10C_all : allCl e9C (nulB e9C) 2 = [] := by
 unfold allCl
 rw [e10C_tak]
 rfl
theorem e10D_all : allCl e10D (nulB e10D) 2 = [(0, 0, 0, 1)] := by
 unfold allCl
 rw [e10D_tak]
 rfl
theorem e10C_row : rowT (fun t j => takB e9C (nulB e9C) 2 0 (t : Int) j) (e9C.getD 0 []).length (2 + 1) = [0, 1, 1] := by
 have := congrFun e10C_tak 0
 rw [this]
 rfl
theorem e10C_prd : Ris [1, 2] (PrdP e9C (nulB e9C) 2 ((0 : Nat) : Int) ((1 : Nat) : Int)) := by
 refine ris_2 _ _ (by omega) _ fun t => ?_
 unfold PrdP
 rw [Int.toNat_natCast, Int.toNat_natCast, takB_at (a := []) rfl]
 unfold TakP
 have h1 := e9C_fol.mem t
 have h2 : (t = 1 ∨ t = 2) ↔ FolP e9C (nulB e9C) 2 0 t := by simpa using h1
 rw [h2]
 constructor
 ·rintro ⟨_, _, h | ⟨_, h⟩⟩
  ·obtain ⟨x, hx, _⟩ := tok_iff.1 h
   cases hx
  ·exact h
 ·exact fun h => ⟨by omega, by omega, .inr ⟨rfl, h⟩⟩
theorem OwnCl.at_ {W : World} {base c : Nat} {a : Option Addr} {l : List Cl4} (h : OwnCl W base a c l) (i : Nat) (hi : i < l.length) :
 ∃ g, a = some ⟨g, 0, none⟩ ∧ g < W.heap.size ∧ W.cell? ⟨g, i * 4, none⟩ = some (.int .i64 (l[i].1 : Int)) ∧ W.cell? ⟨g, i * 4 + 1, none⟩ = some (.int .i64 (l[i].2.1 : Int)) ∧ W.cell? ⟨g, i * 4 + 2, none⟩ = some (.int .i64 (l[i].2.2.1 : Int)) ∧ W.cell? ⟨g, i * 4 + 3, none⟩ = some (.int .i64 (l[i].2.2.2 : Int)) := by
 rcases h.2 with ⟨_, e2⟩ | ⟨g, cap', cur, e1, hb, hg, hle, hm, hs, ht⟩
 ·omega
 ·simp only [Value.slice.injEq] at e1
  obtain ⟨rfl, -, rfl⟩ := e1
  have key : ∀ (l : List Cl4) (i : Nat) (hi : i < l.length), (l.flatMap clC)[i * 4]? = some (.int .i64 (l[i].1 : Int)) ∧ (l.flatMap clC)[i * 4 + 1]? = some (.int .i64 (l[i].2.1 : Int)) ∧ (l.flatMap clC)[i * 4 + 2]? = some (.int .i64 (l[i].2.2.1 : Int)) ∧ (l.flatMap clC)[i * 4 + 3]? = some (.int .i64 (l[i].2.2.2 : Int)) := by
   intro l
   induction l with
   | nil => intro i hi; cases hi
   | cons x l ih =>
    intro i hi
    rw [List.flatMap_cons]
    cases i with
    | zero => simp [clC]
    | succ i =>
     have h4 : (clC x).length = 4 := rfl
     have := ih i (by simpa using hi)
     rw [List.getElem?_append_right (by rw [h4]; omega), List.getElem?_append_right (by rw [h4]; omega), List.getElem?_append_right (by rw [h4]; omega), List.getElem?_append_right (by rw [h4]; omega), h4, show (i + 1) * 4 - 4 = i * 4 by omega, show (i + 1) * 4 + 1 - 4 = i * 4 + 1 by omega, show (i + 1) * 4 + 2 - 4 = i * 4 + 2 by omega, show (i + 1) * 4 + 3 - 4 = i * 4 + 3 by omega]
     simpa using this
  obtain ⟨k0, k1, k2, k3⟩ := key l i hi
  refine ⟨g, rfl, (Array.getElem?_eq_some_iff.1 hg).1, ?_, ?_, ?_, ?_⟩
  ·rw [h.cellAt (i * 4) (by omega)]; exact k0
  ·rw [h.cellAt (i * 4 + 1) (by omega)]; exact k1
  ·rw [h.cellAt (i * 4 + 2) (by omega)]; exact k2
  ·rw [h.cellAt (i * 4 + 3) (by omega)]; exact k3
set_option maxRecDepth 100000 in
set_option maxHeartbeats 16000000 in
theorem sameCl_any (l : List Cl4) (a b : Option Addr) (ac bc b1 b2 : Nat) (w : World) (ha : OwnCl w b1 a ac l) (hb : OwnCl w b2 b bc l) :
 Calls Try.prog 35 #[.slice a l.length ac, .slice b l.length bc] w fun e w' => e = .returned (.bool true) ∧ Below w.heap.size w w' := by
 have hlm := ha.le
 have hlm2 := hb.le
 have Ha := Lib.hid ha
 have Hb := Lib.hid hb
 obtain ⟨L, HL⟩ : ∃ L, Hid (l.length = L) := ⟨_, Lib.hid rfl⟩
 rw [HL.out] at hlm hlm2 ⊢
 clear ha hb
 go_enter Try.func35, Try.ntmps35
 go_wp2_with (fail)
 go_loopw [13] (fun i wr => ∃ k : Nat, k ≤ L ∧ i = .int .i64 k ∧ Below w.heap.size w wr) (fun i _ => L - (RowKit.intOf i).toNat)
 case atStart => exact ⟨0, by omega, rfl, Below.refl _ _⟩
 case round =>
  obtain ⟨k, hk, rfl, hbr⟩ := hrel
  obtain ⟨U, rfl⟩ : ∃ U, U = wr := ⟨_, rfl⟩
  by_cases hlt : k < L
  ·have hkI : (k : Int) < (L : Int) := by omega
   have hkI0 : (0 : Int) ≤ (k : Int) := by omega
   have hkl : k < l.length := by rw [HL.out]; exact hlt
   have ha2 := (Ha.out.below hbr).at_ k hkl
   have hb2 := (Hb.out.below hbr).at_ k hkl
   obtain ⟨g, rfl, hgl, c1, c2, c3, c4⟩ := ha2
   obtain ⟨q, rfl, hql, e1, e2, e3, e4⟩ := hb2
   obtain ⟨x1, hx1⟩ : ∃ v, Hid ((l[k].1 : Int) = v) := ⟨_, Lib.hid rfl⟩
   obtain ⟨x2, hx2⟩ : ∃ v, Hid ((l[k].2.1 : Int) = v) := ⟨_, Lib.hid rfl⟩
   obtain ⟨x3, hx3⟩ : ∃ v, Hid ((l[k].2.2.1 : Int) = v) := ⟨_, Lib.hid rfl⟩
   obtain ⟨x4, hx4⟩ : ∃ v, Hid ((l[k].2.2.2 : Int) = v) := ⟨_, Lib.hid rfl⟩
   rw [hx1.out] at c1 e1
   rw [hx2.out] at c2 e2
   rw [hx3.out] at c3 e3
   rw [hx4.out] at c4 e4
   have HS6 : Hid (U.drew.cell? ⟨g, k * 4, none⟩ = some (.int .i64 x1) ∧ U.drew.cell? ⟨g, k * 4 + 1, none⟩ = some (.int .i64 x2) ∧ U.drew.cell? ⟨g, k * 4 + 2, none⟩ = some (.int .i64 x3) ∧ U.drew.cell? ⟨g, k * 4 + 3, none⟩ = some (.int .i64 x4) ∧ U.drew.cell? ⟨q, k * 4, none⟩ = some (.int .i64 x1) ∧ U.drew.cell? ⟨q, k * 4 + 1, none⟩ = some (.int .i64 x2) ∧ U.drew.cell? ⟨q, k * 4 + 2, none⟩ = some (.int .i64 x3) ∧ U.drew.cell? ⟨q, k * 4 + 3, none⟩ = some (.int .i64 x4)) := Lib.hid ⟨c1, c2, c3, c4, e1, e2, e3, e4⟩
   clear c1 c2 c3 c4 e1 e2 e3 e4
   go_wp2_with (fail)
   refine wp_region_held_drew (S := fun w' => w'.cell? ⟨g, k * 4, none⟩ = some (.int .i64 x1) ∧ w'.cell? ⟨g, k * 4 + 1, none⟩ = some (.int .i64 x2) ∧ w'.cell? ⟨g, k * 4 + 2, none⟩ = some (.int .i64 x3) ∧ w'.cell? ⟨g, k * 4 + 3, none⟩ = some (.int .i64 x4) ∧ w'.cell? ⟨q, k * 4, none⟩ = some (.int .i64 x1) ∧ w'.cell? ⟨q, k * 4 + 1, none⟩ = some (.int .i64 x2) ∧ w'.cell? ⟨q, k * 4 + 2, none⟩ = some (.int .i64 x3) ∧ w'.cell? ⟨q, k * 4 + 3, none⟩ = some (.int .i64 x4)) (by kernel_rfl) ?_ (fun hHeld => ?_)
   ·exact HS6.out
   refine wpAnyH_take (i := 0) (v := ?_) (iatLS iatZS) (by kernel_rfl) (by kernel_rfl) (by kernel_rfl) (fun _ _ _ h => h) (Or.inl ⟨by rfl, ?_⟩) (by assumption) ?_
   rotate_left
   ·intro w hSw
    try dsimp only at hSw
    go_simp
    all_goals with_reducible rfl
   try simp only [Act.put, List.setIfInBounds_toArray, List.set_cons_zero, List.set_cons_succ]
   refine wpAnyH_take (i := 1) (v := ?_) (iatLS (iatSS iatZS)) (by kernel_rfl) (by kernel_rfl) (by kernel_rfl) (fun _ _ _ h => h) (Or.inl ⟨by rfl, ?_⟩) (by assumption) ?_
   rotate_left
   ·intro w hSw
    try dsimp only at hSw
    go_simp
    all_goals with_reducible rfl
   try simp only [Act.put, List.setIfInBounds_toArray, List.set_cons_zero, List.set_cons_succ]
   refine wpAnyH_take (i := 2) (v := ?_) (iatLS (iatSS (iatSS iatZS))) (by kernel_rfl) (by kernel_rfl) (by kernel_rfl) (fun _ _ _ h => h) (Or.inl ⟨by rfl, ?_⟩) (by assumption) ?_
   rotate_left
   ·intro w hSw
    try dsimp only at hSw
    go_simp
    all_goals with_reducible rfl
   try simp only [Act.put, List.setIfInBounds_toArray, List.set_cons_zero, List.set_cons_succ]
   refine wpAnyH_take (i := 3) (v := ?_) (iatLS (iatSS (iatSS (iatSS iatZS)))) (by kernel_rfl) (by kernel_rfl) (by kernel_rfl) (fun _ _ _ h => h) (Or.inl ⟨by rfl, ?_⟩) (by assumption) ?_
   rotate_left
   ·intro w hSw
    try dsimp only at hSw
    go_simp
    all_goals with_reducible rfl
   try simp only [Act.put, List.setIfInBounds_toArray, List.set_cons_zero, List.set_cons_succ]
   refine wpAnyH_take (i := 4) (v := ?_) (iatLS (iatSS (iatSS (iatSS (iatSS iatZS))))) (by kernel_rfl) (by kernel_rfl) (by kernel_rfl) (fun _ _ _ h => h) (Or.inl ⟨by rfl, ?_⟩) (by assumption) ?_
   rotate_left
   ·intro w hSw
    try dsimp only at hSw
    go_simp
    all_goals with_reducible rfl
   try simp only [Act.put, List.setIfInBounds_toArray, List.set_cons_zero, List.set_cons_succ]
   refine wpAnyH_take (i := 5) (v := ?_) (iatLS (iatSS (iatSS (iatSS (iatSS (iatSS iatZS)))))) (by kernel_rfl) (by kernel_rfl) (by kernel_rfl) (fun _ _ _ h => h) (Or.inl ⟨by rfl, ?_⟩) (by assumption) ?_
   rotate_left
   ·intro w hSw
    try dsimp only at hSw
    go_simp
    all_goals with_reducible rfl
   try simp only [Act.put, List.setIfInBounds_toArray, List.set_cons_zero, List.set_cons_succ]
   refine wpAnyH_take (i := 6) (v := ?_) (iatLS (iatSS (iatSS (iatSS (iatSS (iatSS (iatSS iatZS))))))) (by kernel_rfl) (by kernel_rfl) (by kernel_rfl) (fun _ _ _ h => h) (Or.inl ⟨by rfl, ?_⟩) (by assumption) ?_
   rotate_left
   ·intro w hSw
    try dsimp only at hSw
    go_simp
    all_goals with_reducible rfl
   try simp only [Act.put, List.setIfInBounds_toArray, List.set_cons_zero, List.set_cons_succ]
   refine wpAnyH_take (i := 7) (v := ?_) (iatLS (iatSS (iatSS (iatSS (iatSS (iatSS (iatSS (iatSS iatZS)))))))) (by kernel_rfl) (by kernel_rfl) (by kernel_rfl) (fun _ _ _ h => h) (Or.inl ⟨by rfl, ?_⟩) (by assumption) ?_
   rotate_left
   ·intro w hSw
    try dsimp only at hSw
    go_simp
    all_goals with_reducible rfl
   try simp only [Act.put, List.setIfInBounds_toArray, List.set_cons_zero, List.set_cons_succ]
   refine wpAnyH_take (i := 8) (v := ?_) (iatLS (iatSS (iatSS (iatSS (iatSS (iatSS (iatSS (iatSS (iatSS iatZS))))))))) (by kernel_rfl) (by kernel_rfl) (by kernel_rfl) (fun _ _ _ h => h) (Or.inl ⟨by rfl, ?_⟩) (by assumption) ?_
   rotate_left
   ·intro w hSw
    try dsimp only at hSw
    go_simp
    all_goals with_reducible rfl
   try simp only [Act.put, List.setIfInBounds_toArray, List.set_cons_zero, List.set_cons_succ]
   refine wpAnyH_done (by kernel_rfl) ?_ _
   go_wp2_with (fail)
   exact ⟨⟨k + 1, by omega, by go_num, hbr.drew⟩, by simp [RowKit.intOf]; omega⟩
  ·have hke : k = L := by omega
   have hkI : ¬ (k : Int) < (L : Int) := by omega
   clear hke
   go_wp2_with (fail)
   exact bodyPost_ret (v := .bool true) (by simp [results, Try.results35, go_sem]; try first | rfl | assumption | omega) rfl ⟨rfl, hbr⟩
noncomputable def few10 (d : CfD) : Bool := decide (d.toks.length + d.names.length + szC (d.alts.map IrD.p) ≤ 150) && decide (validE d.p = 0)
theorem few10_fit {d : CfD} (h : few10 d = true) : FitC d := by
 unfold few10 at h
 rw [Bool.and_eq_true, decide_eq_true_eq, decide_eq_true_eq] at h
 exact valid_fit h.2
set_option maxRecDepth 100000 in
set_option maxHeartbeats 16000000 in
theorem few10_any (d : CfD) (w : World) (hd : CfAt w d) (h1 : ∀ t ∈ d.toks, t.size ≤ maxLen) (h2 : ∀ t ∈ d.names, t.size ≤ maxLen) (h3 : ∀ r ∈ d.alts, ∀ a ∈ r.ds, ∀ x ∈ a.l, -9223372036854775808 ≤ x ∧ x ≤ 9223372036854775807) (hs : d.toks.length + d.names.length + szC (d.alts.map IrD.p) ≤ 1000000000000) :
 Calls Try.prog 30 #[d.v] w fun e w' => e = .returned (.bool (few10 d)) ∧ Below w.heap.size w w' := by
 have HF := Lib.hid (fun W (hb : Below w.heap.size w W) => refFewM_any 150 (by omega) d W (hd.grown hb) hs)
 have HV := Lib.hid (fun W (hb : Below w.heap.size w W) (hf : d.toks.length + d.names.length + szC (d.alts.map IrD.p) ≤ 150) => refValid_any d W (hd.grown hb) ⟨by omega, h1, h2⟩ h3)
 obtain ⟨R, hR⟩ : ∃ q, Hid (few10 d = q) := ⟨_, Lib.hid rfl⟩
 rw [hR.out]
 unfold few10 at hR
 obtain ⟨E, hE⟩ : ∃ q, Hid (validE d.p = q) := ⟨_, Lib.hid rfl⟩
 rw [hE.out] at HV hR
 obtain ⟨Z, hZ⟩ : ∃ q, Hid (d.toks.length + d.names.length + szC (d.alts.map IrD.p) = q) := ⟨_, Lib.hid rfl⟩
 rw [hZ.out] at HF HV hR
 obtain ⟨xt, xta, xtc, xn, xna, xnc, xa, xaa, xac⟩ := d
 dsimp only [CfD.v] at *
 have hb1 : Below w.heap.size w (w.alloc (.cells #[.slice xta xt.length xtc, .slice xna xn.length xnc, .slice xaa xa.length xac] 25)) := (Below.refl _ w).alloc (Nat.le_refl _) _
 have hA := Blk.new w 25 #[.slice xta xt.length xtc, .slice xna xn.length xnc, .slice xaa xa.length xac]
 obtain ⟨T, HT⟩ : ∃ q, Hid (xt.length = q) := ⟨_, Lib.hid rfl⟩
 obtain ⟨N, HN⟩ : ∃ q, Hid (xn.length = q) := ⟨_, Lib.hid rfl⟩
 obtain ⟨L, HL⟩ : ∃ q, Hid (xa.length = q) := ⟨_, Lib.hid rfl⟩
 rw [HT.out, HN.out, HL.out] at hA hb1 HF HV ⊢
 have x0 := hA.cell 0
 have x1 := hA.cell 1
 have x2 := hA.cell 2
 have xl := hA.lt
 simp only [List.getElem?_cons_zero, List.getElem?_cons_succ] at x0 x1 x2
 have HA := Lib.hid hA
 have Hb1 := Lib.hid hb1
 have HF' : Hid (∀ W, Below w.heap.size w W → Calls Try.prog 49 #[.agg #[.slice xta T xtc, .slice xna N xnc, .slice xaa L xac], .int .i64 150] W fun e w' => e = .returned (.bool (decide (Z ≤ 150))) ∧ Below W.heap.size W w') := HF
 have Hc1 := Lib.hid (HF'.out _ hb1)
 clear hd hA hb1 h1 h2 h3 hs HF HF'
 by_cases hz : Z ≤ 150
 ·rw [decide_eq_true hz] at Hc1 hR
  rw [Bool.true_and] at hR
  have HV' : Hid (∀ W, Below w.heap.size w W → Calls Try.prog 50 #[.agg #[.slice xta T xtc, .slice xna N xnc, .slice xaa L xac]] W fun e w' => e = .returned (.int .i64 E) ∧ Below W.heap.size W w') := Lib.hid (fun W hb => HV.out W hb hz)
  clear HV hz
  go_enter Try.func30, Try.ntmps30
  go_wp2_with (fail)
  obtain ⟨bx, hbx⟩ : ∃ q, Hid (w.heap.size = q) := ⟨_, Lib.hid rfl⟩
  rw [hbx.out] at HA xl x0 x1 x2 ⊢
  generalize hV : World.alloc w _ = V at HA x0 x1 x2 xl Hb1 Hc1 ⊢
  clear hV
  refine Hc1.out.mono ?_
  rintro e w2 ⟨rfl, hb2⟩
  have HA2 := Lib.hid (HA.out.below hb2 HA.out.lt)
  have Hb2 := Lib.hid (Hb1.out.trans (hb2.mono Hb1.out.size))
  clear x0 x1 x2 xl hb2 Hc1
  have x0 := HA2.out.cell 0
  have x1 := HA2.out.cell 1
  have x2 := HA2.out.cell 2
  have xl := HA2.out.lt
  simp only [List.getElem?_cons_zero, List.getElem?_cons_succ] at x0 x1 x2
  go_wp2_with (fail)
  refine (HV'.out w2 Hb2.out).mono ?_
  rintro e w3 ⟨rfl, hb3⟩
  have Hb3 := Lib.hid (Hb2.out.trans (hb3.mono Hb2.out.size))
  clear x0 x1 x2 xl hb3 HV'
  by_cases h0 : E = 0
  ·subst h0
   have hRt : Hid (R = true) := Lib.hid (by rw [← hR.out]; exact decide_eq_true rfl)
   go_wp2_with (fail)
   exact bodyPost_ret (v := .bool true) (by simp [results, Try.results30, go_sem]; try first | rfl | assumption | omega) rfl ⟨by rw [hRt.out], Hb3.out⟩
  ·have hRt : Hid (R = false) := Lib.hid (by rw [← hR.out]; exact decide_eq_false h0)
   have h00 : (E == 0) = false := by rw [beq_eq_false_iff_ne]; exact h0
   go_wp2_with (fail)
   exact bodyPost_ret (v := .bool false) (by simp [results, Try.results30, go_sem]; try first | rfl | assumption | omega) rfl ⟨by rw [hRt.out], Hb3.out⟩
 ·rw [decide_eq_false hz] at Hc1 hR
  rw [Bool.false_and] at hR
  clear HV hz
  go_enter Try.func30, Try.ntmps30
  go_wp2_with (fail)
  obtain ⟨bx, hbx⟩ : ∃ q, Hid (w.heap.size = q) := ⟨_, Lib.hid rfl⟩
  rw [hbx.out] at HA xl x0 x1 x2 ⊢
  generalize hV : World.alloc w _ = V at HA x0 x1 x2 xl Hb1 Hc1 ⊢
  clear hV
  refine Hc1.out.mono ?_
  rintro e w2 ⟨rfl, hb2⟩
  have Hb2 := Lib.hid (Hb1.out.trans (hb2.mono Hb1.out.size))
  clear x0 x1 x2 xl hb2 Hc1
  go_wp2_with (fail)
  exact bodyPost_ret (v := .bool false) (by simp [results, Try.results30, go_sem]; try first | rfl | assumption | omega) rfl ⟨by rw [← hR.out], Hb2.out⟩
end Go.Proofs.Ytldmgifphkpdlaa
namespace Go.Proofs.Ytldmgifphkpdlaa
open Go.RowKit Go.Maps
attribute [local go_sem] Oper.semAt_some
def e10Os (h : Nat) : List Obj := [.cells #[.string ⟨#[97]⟩, .string ⟨#[98]⟩] 9, .cells #[.string ⟨#[83]⟩] 9, .cells #[.int .i64 0, .int .i64 (-1), .int .i64 1] 3, .cells #[.slice (some ⟨h + 1 + 1, 0, none⟩) 3 3, .slice none 0 0] 35, .cells #[.slice (some ⟨h + 1 + 1 + 1, 0, none⟩) 2 2] 32, .cells #[.slice (some ⟨h, 0, none⟩) 2 2, .slice (some ⟨h + 1, 0, none⟩) 1 1, .slice (some ⟨h + 1 + 1 + 1 + 1, 0, none⟩) 1 1] 25, .cells #[.string ⟨#[97]⟩, .string ⟨#[98]⟩] 9, .cells #[.string ⟨#[83]⟩] 9, .cells #[.int .i64 0] 3, .cells #[.int .i64 0, .int .i64 1] 3, .cells #[.slice (some ⟨h + 1 + 1 + 1 + 1 + 1 + 1 + 1 + 1, 0, none⟩) 1 1, .slice (some ⟨h + 1 + 1 + 1 + 1 + 1 + 1 + 1 + 1 + 1, 0, none⟩) 2 2] 35, .cells #[.slice (some ⟨h + 1 + 1 + 1 + 1 + 1 + 1 + 1 + 1 + 1 + 1, 0, none⟩) 2 2] 32, .cells #[.slice (some ⟨h + 1 + 1 + 1 + 1 + 1 + 1, 0, none⟩) 2 2, .slice (some ⟨h + 1 + 1 + 1 + 1 + 1 + 1 + 1, 0, none⟩) 1 1, .slice (some ⟨h + 1 + 1 + 1 + 1 + 1 + 1 + 1 + 1 + 1 + 1 + 1, 0, none⟩) 1 1] 25]
def e10CD (h : Nat) : CfD := ⟨[⟨#[97]⟩, ⟨#[98]⟩], some ⟨h, 0, none⟩, 2, [⟨#[83]⟩], some ⟨h + 1, 0, none⟩, 1, [⟨[⟨[0, -1, 1], some ⟨h + 1 + 1, 0, none⟩, 3⟩, ⟨[], none, 0⟩], some ⟨h + 1 + 1 + 1, 0, none⟩, 2⟩], some ⟨h + 1 + 1 + 1 + 1, 0, none⟩, 1⟩
def e10DD (h : Nat) : CfD := ⟨[⟨#[97]⟩, ⟨#[98]⟩], some ⟨h + 1 + 1 + 1 + 1 + 1 + 1, 0, none⟩, 2, [⟨#[83]⟩], some ⟨h + 1 + 1 + 1 + 1 + 1 + 1 + 1, 0, none⟩, 1, [⟨[⟨[0], some ⟨h + 1 + 1 + 1 + 1 + 1 + 1 + 1 + 1, 0, none⟩, 1⟩, ⟨[0, 1], some ⟨h + 1 + 1 + 1 + 1 + 1 + 1 + 1 + 1 + 1, 0, none⟩, 2⟩], some ⟨h + 1 + 1 + 1 + 1 + 1 + 1 + 1 + 1 + 1 + 1, 0, none⟩, 2⟩], some ⟨h + 1 + 1 + 1 + 1 + 1 + 1 + 1 + 1 + 1 + 1 + 1, 0, none⟩, 1⟩
set_option maxRecDepth 100000 in
theorem e10_c (w : World) : CfAt (allocs w (e10Os w.heap.size)) (e10CD w.heap.size) := by
 refine ⟨allocs_vs _ w 0 _ _ rfl 2 rfl (e9_mx 2 (by omega)), allocs_vs _ w 1 _ _ rfl 1 rfl (e9_mx 1 (by omega)), allocs_vs _ w 4 _ _ rfl 1 rfl (e9_mx 1 (by omega)), fun r hr => ?_⟩
 have hr : r = ⟨[⟨[0, -1, 1], some ⟨w.heap.size + 1 + 1, 0, none⟩, 3⟩, ⟨[], none, 0⟩], some ⟨w.heap.size + 1 + 1 + 1, 0, none⟩, 2⟩ := by simpa [e10CD] using hr
 subst hr
 refine ⟨allocs_vs _ w 3 _ _ rfl 2 rfl (e9_mx 2 (by omega)), fun d hd => ?_⟩
 have hd : d = ⟨[0, -1, 1], some ⟨w.heap.size + 1 + 1, 0, none⟩, 3⟩ ∨ d = ⟨[], none, 0⟩ := by simpa using hd
 rcases hd with rfl | rfl
 ·exact allocs_vs _ w 2 _ _ rfl 3 rfl (e9_mx 3 (by omega))
 ·exact Vs.nil _
set_option maxRecDepth 100000 in
theorem e10_d (w : World) : CfAt (allocs w (e10Os w.heap.size)) (e10DD w.heap.size) := by
 refine ⟨allocs_vs _ w 6 _ _ rfl 2 rfl (e9_mx 2 (by omega)), allocs_vs _ w 7 _ _ rfl 1 rfl (e9_mx 1 (by omega)), allocs_vs _ w 11 _ _ rfl 1 rfl (e9_mx 1 (by omega)), fun r hr => ?_⟩
 have hr : r = ⟨[⟨[0], some ⟨w.heap.size + 8, 0, none⟩, 1⟩, ⟨[0, 1], some ⟨w.heap.size + 9, 0, none⟩, 2⟩], some ⟨w.heap.size + 10, 0, none⟩, 2⟩ := by
  unfold e10DD at hr
  exact List.mem_singleton.1 hr
 subst hr
 refine ⟨allocs_vs _ w 10 _ _ rfl 2 rfl (e9_mx 2 (by omega)), fun d hd => ?_⟩
 rcases List.mem_cons.1 hd with rfl | hd
 ·exact allocs_vs _ w 8 _ _ rfl 1 rfl (e9_mx 1 (by omega))
 ·rw [List.mem_singleton] at hd
  subst hd
  exact allocs_vs _ w 9 _ _ rfl 2 rfl (e9_mx 2 (by omega))
theorem e10_bc (w : World) : Blk (allocs w (e10Os w.heap.size)) (w.heap.size + 5) 25 [.slice (e10CD w.heap.size).ta 2 2, .slice (e10CD w.heap.size).na 1 1, .slice (e10CD w.heap.size).aa 1 1] := allocs_blk _ w 5 _ _ rfl
theorem e10_bd (w : World) : Blk (allocs w (e10Os w.heap.size)) (w.heap.size + 12) 25 [.slice (e10DD w.heap.size).ta 2 2, .slice (e10DD w.heap.size).na 1 1, .slice (e10DD w.heap.size).aa 1 1] := allocs_blk _ w 12 _ _ rfl
theorem e10_fc (h : Nat) : FitC (e10CD h) := ⟨by simp [e10CD], by simp [e10CD], by simp [e10CD], by simp [e10CD], by
 unfold OkL e10CD
 simp⟩
theorem e10_fd (h : Nat) : FitC (e10DD h) := ⟨by simp [e10DD], by simp [e10DD], by simp [e10DD], by simp [e10DD], by
 unfold OkL e10DD
 simp⟩
theorem e10_pc (h : Nat) : (e10CD h).alts.map IrD.p = e9C := rfl
theorem e10_pd (h : Nat) : (e10DD h).alts.map IrD.p = e10D := rfl
theorem lit_Cl (w : World) : OwnCl (w.alloc (.cells #[.int .i64 0, .int .i64 0, .int .i64 0, .int .i64 1] 93)) 0 (some ⟨w.heap.size, 0, none⟩) 1 [(0, 0, 0, 1)] :=
 ⟨rfl, .inr ⟨w.heap.size, 1, #[.int .i64 0, .int .i64 0, .int .i64 0, .int .i64 1], rfl, Nat.zero_le _, World.alloc_heap_new w _, Nat.le_refl _, by unfold maxLen; omega, rfl, rfl⟩⟩
set_option maxRecDepth 100000 in
set_option maxHeartbeats 16000000 in
theorem live10_any (w : World) : Calls Try.prog 29 #[] w fun e w' => e = .returned (.bool true) ∧ Below w.heap.size w w' := by
 have HL0 := Lib.hid (build_any (e10CD w.heap.size) (allocs w (e10Os w.heap.size)) (e10_c w) (e10_fc _))
 rw [e10_pc] at HL0
 have HL1 : Hid (Calls Try.prog 33 #[(e10CD w.heap.size).v] (allocs w (e10Os w.heap.size)) (BldQ (allocs w (e10Os w.heap.size)) e9C (nulB e9C) 2)) := HL0
 clear HL0
 have Hc := e10_c w
 have Hd := e10_d w
 have Hbc := Lib.hid (e10_bc w)
 have Hbd := Lib.hid (e10_bd w)
 have HwV := Lib.hid (allocs_below (e10Os w.heap.size) w)
 have Hbld := Lib.hid (fun W (hb : Below (allocs w (e10Os w.heap.size)).heap.size (allocs w (e10Os w.heap.size)) W) => build_any (e10DD w.heap.size) W (Hd.grown hb) (e10_fd _))
 have Hcls := Lib.hid (fun W (hb : Below (allocs w (e10Os w.heap.size)).heap.size (allocs w (e10Os w.heap.size)) W) => clashes_any (e10DD w.heap.size) W (Hd.grown hb) (e10_fd _))
 have Hprd := Lib.hid (fun W (hb : Below (allocs w (e10Os w.heap.size)).heap.size (allocs w (e10Os w.heap.size)) W) => predict_any (e10CD w.heap.size) ((0 : Nat) : Int) ((1 : Nat) : Int) W (Hc.grown hb) (e10_fc _) (by decide) (by decide))
 rw [e10_pc] at Hprd
 rw [e10_pd] at Hbld Hcls
 clear Hc Hd
 go_enter Try.func29, Try.ntmps29
 go_wp2_with (fail)
 refine HL1.out.mono ?_
 rintro e w1 h
 obtain ⟨g, rs, rfl, hE, hR, hb⟩ := (h.resolve_left (fun h => h.1 e10C_all)).2
 clear h
 have hE1 : TkA w1 (allocs w (e10Os w.heap.size)).heap.size g 1 rs := hE
 have HE := Lib.hid hE1
 have hR0 := hR 0 (by decide)
 rw [e10C_row] at hR0
 have HR0 := Lib.hid hR0
 have HV1 := Lib.hid hb
 have HQ1 : Hid (Below w1.heap.size w1 w1) := Lib.hid (Below.refl _ w1)
 clear HL1 hE hE1 hR hR0 hb
 obtain ⟨V, hV⟩ : ∃ q, Hid ((allocs w (e10Os w.heap.size)) = q) := ⟨_, Lib.hid rfl⟩
 rw [hV.out] at HV1 Hbc Hbd HwV Hbld Hcls Hprd HE
 have hwV : w.heap.size ≤ V.heap.size := HwV.out.size
 obtain ⟨h, hh⟩ : ∃ q, Hid (w.heap.size = q) := ⟨_, Lib.hid rfl⟩
 rw [hh.out] at Hbc Hbd Hbld Hcls Hprd ⊢
 clear hV
 have hx : Blk w1 (h + 1 + 1 + 1 + 1 + 1 + 1 + 1 + 1 + 1 + 1 + 1 + 1) 25 [.slice (some ⟨h + 1 + 1 + 1 + 1 + 1 + 1, 0, none⟩) 2 2, .slice (some ⟨h + 1 + 1 + 1 + 1 + 1 + 1 + 1, 0, none⟩) 1 1, .slice (some ⟨h + 1 + 1 + 1 + 1 + 1 + 1 + 1 + 1 + 1 + 1 + 1, 0, none⟩) 1 1] := Hbd.out.below HV1.out Hbd.out.lt
 have x0 := hx.cell 0
 have x1 := hx.cell 1
 have x2 := hx.cell 2
 have xl := hx.lt
 simp only [List.getElem?_cons_zero, List.getElem?_cons_succ] at x0 x1 x2
 clear hx
 go_wp2_with (fail)
 clear x0 x1 x2 xl
 refine (Hbld.out w1 HV1.out).mono ?_
 rintro e w2 h9
 obtain ⟨_, rfl, hb⟩ := h9.resolve_right (fun h8 => by have h1 : allCl e10D (nulB e10D) 2 = [] := h8.1; rw [e10D_all] at h1; cases h1)
 clear h9
 have HV2 := Lib.hid (HV1.out.trans (hb.mono HV1.out.size))
 have HQ2 := Lib.hid (HQ1.out.trans (hb.mono HQ1.out.size))
 clear hb
 have hE2 := HE.out.below HQ2.out
 have Hbl := Lib.hid (allocs_below [.cells #[.int .i64 0, .int .i64 1, .int .i64 1] 3, .cells #[.slice (some ⟨w2.heap.size, 0, none⟩) 3 3] 35] w2)
 have Hs : Hid (Calls Try.prog 18 #[.slice (some ⟨g, 0, none⟩) 1 1, .slice (some ⟨w2.heap.size + 1, 0, none⟩) 1 1] (allocs w2 [.cells #[.int .i64 0, .int .i64 1, .int .i64 1] 3, .cells #[.slice (some ⟨w2.heap.size, 0, none⟩) 3 3] 35]) (fun e w' => e = .returned (.bool true) ∧ Below (allocs w2 [.cells #[.int .i64 0, .int .i64 1, .int .i64 1] 3, .cells #[.slice (some ⟨w2.heap.size, 0, none⟩) 3 3] 35]).heap.size (allocs w2 [.cells #[.int .i64 0, .int .i64 1, .int .i64 1] 3, .cells #[.slice (some ⟨w2.heap.size, 0, none⟩) 3 3] 35]) w')) := Lib.hid (by
  have h1 := sameLists9_any (some ⟨g, 0, none⟩) (some ⟨w2.heap.size + 1, 0, none⟩) 1 1 rs [⟨[0, 1, 1], some ⟨w2.heap.size, 0, none⟩, 3⟩] (allocs w2 [.cells #[.int .i64 0, .int .i64 1, .int .i64 1] 3, .cells #[.slice (some ⟨w2.heap.size, 0, none⟩) 3 3] 35]) (hE2.alts.grown Hbl.out) (lit_L1 w2 [0, 1, 1] 3 rfl (by omega))
  have hl1 := HE.out.len
  have e9 : rs.map (fun x => x.l) = [[0, 1, 1]] := by
   match rs, hl1, HR0.out with
   | [r], _, h => simpa [rowL] using h
  rw [e9] at h1
  rw [hl1] at h1
  exact h1)
 clear hE2
 go_wp2_with (fail)
 refine Hs.out.mono ?_
 rintro e w3 ⟨rfl, hb⟩
 have hb3 := Hbl.out.trans (hb.mono Hbl.out.size)
 have HV3 := Lib.hid (HV2.out.trans (hb3.mono HV2.out.size))
 have HQ3 := Lib.hid (HQ2.out.trans (hb3.mono HQ2.out.size))
 clear hb hb3 Hs Hbl
 have hx : Blk w3 (h + 1 + 1 + 1 + 1 + 1 + 1 + 1 + 1 + 1 + 1 + 1 + 1) 25 [.slice (some ⟨h + 1 + 1 + 1 + 1 + 1 + 1, 0, none⟩) 2 2, .slice (some ⟨h + 1 + 1 + 1 + 1 + 1 + 1 + 1, 0, none⟩) 1 1, .slice (some ⟨h + 1 + 1 + 1 + 1 + 1 + 1 + 1 + 1 + 1 + 1 + 1, 0, none⟩) 1 1] := Hbd.out.below HV3.out Hbd.out.lt
 have x0 := hx.cell 0
 have x1 := hx.cell 1
 have x2 := hx.cell 2
 have xl := hx.lt
 simp only [List.getElem?_cons_zero, List.getElem?_cons_succ] at x0 x1 x2
 clear hx
 go_wp2_with (fail)
 clear x0 x1 x2 xl
 refine (Hcls.out w3 HV3.out).mono ?_
 rintro e w4 ⟨ca, cc, rfl, hcl, hb⟩
 have hcl1 : OwnCl w4 w3.heap.size ca cc [(0, 0, 0, 1)] := by
  have := hcl
  rw [show (e10DD h).toks.length = 2 from rfl, e10D_all] at this
  exact this
 have HV4 := Lib.hid (HV3.out.trans (hb.mono HV3.out.size))
 have HQ4 := Lib.hid (HQ3.out.trans (hb.mono HQ3.out.size))
 clear hcl
 have hal4 : Below w4.heap.size w4 (w4.alloc (.cells #[.int .i64 0, .int .i64 0, .int .i64 0, .int .i64 1] 93)) := (Below.refl _ w4).alloc (Nat.le_refl _) _
 have Hs := Lib.hid (sameCl_any [(0, 0, 0, 1)] ca (some ⟨w4.heap.size, 0, none⟩) cc 1 _ _ _ (hcl1.below hal4) (lit_Cl w4))
 have hlen4 : (allCl e10D (nulB e10D) (e10DD h).toks.length).length = 1 := by
  rw [show (e10DD h).toks.length = 2 from rfl, e10D_all]
  rfl
 rw [hlen4]
 have Hs' : Hid (Calls Try.prog 35 #[.slice ca 1 cc, .slice (some ⟨w4.heap.size, 0, none⟩) 1 1] (w4.alloc (.cells #[.int .i64 0, .int .i64 0, .int .i64 0, .int .i64 1] 93)) fun e w' => e = .returned (.bool true) ∧ Below (w4.alloc (.cells #[.int .i64 0, .int .i64 0, .int .i64 0, .int .i64 1] 93)).heap.size (w4.alloc (.cells #[.int .i64 0, .int .i64 0, .int .i64 0, .int .i64 1] 93)) w') := Hs
 have Hal4 := Lib.hid hal4
 clear hb hcl1 hal4 Hs hlen4
 go_wp2_with (fail)
 refine Hs'.out.mono ?_
 rintro e w5 ⟨rfl, hb⟩
 have hb5 := Hal4.out.trans (hb.mono Hal4.out.size)
 have HV5 := Lib.hid (HV4.out.trans (hb5.mono HV4.out.size))
 have HQ5 := Lib.hid (HQ4.out.trans (hb5.mono HQ4.out.size))
 clear hb hb5 Hs' Hal4
 have hx : Blk w5 (h + 1 + 1 + 1 + 1 + 1) 25 [.slice (some ⟨h, 0, none⟩) 2 2, .slice (some ⟨h + 1, 0, none⟩) 1 1, .slice (some ⟨h + 1 + 1 + 1 + 1, 0, none⟩) 1 1] := Hbc.out.below HV5.out Hbc.out.lt
 have x0 := hx.cell 0
 have x1 := hx.cell 1
 have x2 := hx.cell 2
 have xl := hx.lt
 simp only [List.getElem?_cons_zero, List.getElem?_cons_succ] at x0 x1 x2
 clear hx
 go_wp2_with (fail)
 clear x0 x1 x2 xl
 refine (Hprd.out w5 HV5.out).mono ?_
 rintro e w6 ⟨la, lc, l, rfl, hr, ho, hb⟩
 obtain rfl : l = [1, 2] := hr.same e10C_prd (fun _ => Iff.rfl)
 have HV6 := Lib.hid (HV5.out.trans (hb.mono HV5.out.size))
 have HQ6 := Lib.hid (HQ5.out.trans (hb.mono HQ5.out.size))
 have hal6 : Below w6.heap.size w6 (w6.alloc (.cells #[.int .i64 1, .int .i64 2] 3)) := (Below.refl _ w6).alloc (Nat.le_refl _) _
 have Hs := Lib.hid (sameInts8_any la (some ⟨w6.heap.size, 0, none⟩) lc 2 [1, 2] [1, 2] (w6.alloc (.cells #[.int .i64 1, .int .i64 2] 3)) ((OwnKZ.vs ho).grown hal6) (lit_I w6 [1, 2] 2 rfl (by omega)))
 rw [decide_eq_true rfl] at Hs
 have Hal6 := Lib.hid hal6
 clear hr ho hb hal6
 go_wp2_with (fail)
 refine Hs.out.mono ?_
 rintro e w7 ⟨rfl, hb⟩
 have hb7 := Hal6.out.trans (hb.mono Hal6.out.size)
 have HV7 := Lib.hid (HV6.out.trans (hb7.mono HV6.out.size))
 have HQ7 := Lib.hid (HQ6.out.trans (hb7.mono HQ6.out.size))
 have Hfin := Lib.hid (HwV.out.trans (HV7.out.mono (by have := HwV.out.size; omega)))
 clear hb hb7 Hs Hal6
 go_wp2_with (fail)
 exact bodyPost_ret (v := .bool true) (by simp [results, Try.results29, go_sem]; try first | rfl | assumption | omega) rfl ⟨rfl, Hfin.out⟩
end Go.Proofs.Ytldmgifphkpdlaa
