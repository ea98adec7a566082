/- Texts joined: Tti Ttj Ttk. -/
import Derived.Test.YthogiakfbgehnaaRDBc
import Derived.Test.YthogiakfbgehnaaRDAw
import Derived.Test.YthogiakfbgehnaaRDAy
import Derived.Test.YthogiakfbgehnaaRDAk
import Derived.Test.YthogiakfbgehnaaRDAq
set_option linter.unusedVariables false
set_option linter.unusedSimpArgs false
namespace Go.Proofs.Ythogiakfbgehnaa
open Go.RowKit Go.Maps
attribute [local go_sem] Oper.semAt_some
theorem altD_al {d : CfD} {k i : Int} {x : IltD} (h : altD d k i = some x) : 0 ≤ i ∧ ruL k < (d.alts.map IrD.p).length ∧ ((d.alts.map IrD.p).getD (ruL k) [])[i.toNat]? = some x.l := by
 unfold altD at h
 cases e : d.alts[ruL k]? with
 | none => rw [e] at h; cases h
 | some ru =>
  rw [e] at h
  dsimp only at h
  by_cases hc : ruL k < d.names.length ∧ 0 ≤ i
  ·rw [if_pos hc] at h
   refine ⟨hc.2, by rw [List.length_map]; exact (List.getElem?_eq_some_iff.1 e).1, ?_⟩
   rw [List.getD_eq_getElem?_getD, List.getElem?_map, e]
   show (ru.ds.map (fun d => d.l))[i.toNat]? = _
   rw [List.getElem?_map, h]
   rfl
  ·rw [if_neg hc] at h; cases h
section
variable {d : CfD} {al : List (List (List Int))}
/-- A derivation of nothing: all may be empty; of something: that stands first. -/
theorem good_lead (hal : al = d.alts.map IrD.p) : ∀ {f : TrF} {ks : List Int}, goodW d f ks → (f.yt = [] → emp (nulB al) ks = true) ∧ (∀ t l, f.yt = t :: l → TokP al (nulB al) (ahd (nulB al) ks) t)
 | .nil, ks, h => by
  have h : ks = [] := h
  subst h
  exact ⟨fun _ => rfl, (fun t l e => by cases e)⟩
 | .cons h kids rest, ks, hg => by
  obtain ⟨ks', rfl, h2, h3⟩ := goodW_cons hg
  obtain ⟨r1, r2⟩ := good_lead hal h3
  rcases h2 with ⟨h0, rfl, _⟩ | ⟨h0, _, a, ha, hk⟩
  ·have ey : (TrF.cons h .nil rest).yt = h.k :: rest.yt := by simp [TrF.yt, h0]
   rw [ey]
   refine ⟨(fun e => by cases e), fun t l e => ?_⟩
   have e := (List.cons.inj e).1
   subst e
   unfold ahd
   rw [if_neg (by simp; omega)]
   exact tok_self h0
  ·have ey : (TrF.cons h kids rest).yt = kids.yt ++ rest.yt := by simp only [TrF.yt]; rw [if_neg (by omega)]
   obtain ⟨k1, k2⟩ := good_lead hal hk
   obtain ⟨hi, hr, hx⟩ := altD_al ha
   rw [← hal] at hr hx
   have hm : a.l ∈ al.getD (ruL h.k) [] := List.mem_of_getElem? hx
   rw [ey]
   constructor
   ·intro e
    obtain ⟨e1, e2⟩ := List.append_eq_nil_iff.1 e
    rw [emp_cons, decide_eq_true h0, (nul_iff hr).2 ⟨a.l, hm, k1 e1⟩, r1 e2]
    rfl
   ·intro t l e
    by_cases e1 : kids.yt = []
    ·rw [e1, List.nil_append] at e
     have h9 := r2 t l e
     unfold ahd
     rw [if_pos (by rw [decide_eq_true h0, (nul_iff hr).2 ⟨a.l, hm, k1 e1⟩]; rfl)]
     obtain ⟨y, hy, hz⟩ := tok_iff.1 h9
     exact tok_iff.2 ⟨y, List.mem_cons_of_mem _ hy, hz⟩
    ·obtain ⟨t2, l2, e2⟩ := List.exists_cons_of_ne_nil e1
     rw [e2] at e
     have e3 := (List.cons.inj e).1
     subst e3
     have h9 := tok_rule hm (k2 _ _ e2)
     rw [of_ruL h0] at h9
     refine tok_iff.2 ⟨h.k, ?_, h9⟩
     unfold ahd
     split
     ·simp
     ·simp
/-- What follows the rules of a list, by what stands behind them in it. -/
def InA (al : List (List (List Int))) (T : Nat) (ks : List Int) : Prop := ∀ i k, ks[i]? = some k → k < 0 → ∀ t, TokP al (nulB al) (ahd (nulB al) (ks.drop (i + 1))) t → FolP al (nulB al) T (ruL k) t
/-- And where nothing stands behind them, by what stands behind the list. -/
def CtA (al : List (List (List Int))) (T : Nat) (ks : List Int) (la : Int) : Prop := ∀ i k, ks[i]? = some k → k < 0 → emp (nulB al) (ks.drop (i + 1)) = true → FolP al (nulB al) T (ruL k) la
theorem InA.tail {T : Nat} {k : Int} {ks : List Int} (h : InA al T (k :: ks)) : InA al T ks := fun i x hx h0 t ht => h (i + 1) x (by simpa using hx) h0 t (by simpa using ht)
theorem CtA.tail {T : Nat} {k : Int} {ks : List Int} {la : Int} (h : CtA al T (k :: ks) la) : CtA al T ks la := fun i x hx h0 he => h (i + 1) x (by simpa using hx) h0 (by simpa using he)
theorem InA.alt {T : Nat} {r : Nat} {ks : List Int} (hr : r < al.length) (hm : ks ∈ al.getD r []) : InA al T ks := fun i k hk h0 t ht => by
 refine fol_beh hr hm (i := i) ?_ ht
 rw [of_ruL h0]; exact hk
theorem CtA.alt {T : Nat} {r : Nat} {ks : List Int} {la : Int} (hr : r < al.length) (hm : ks ∈ al.getD r []) (hf : FolP al (nulB al) T r la) : CtA al T ks la := fun i k hk h0 he =>
 fol_last ⟨hr, ks, hm, i, by rw [of_ruL h0]; exact hk, he⟩ hf
end
/-- What the table tells of a place. -/
theorem alt_tells {G : PsG} (hl : G.tb.length = G.al.length) (hrow : ∀ r, r < G.al.length → G.tb.getD r [] = rowT (fun t j => takB G.al (nulB G.al) G.T r (t : Int) j) (G.al.getD r []).length (G.T + 1)) {r a i : Nat} {ks : List Int} (hr : r < G.al.length) (h0 : 0 ≤ G.next a) (h : G.alt r a = some (i, ks)) :
 takB G.al (nulB G.al) G.T r (G.next a) i = true ∧ i < (G.al.getD r []).length ∧ (G.next a).toNat < G.T + 1 := by
 unfold PsG.alt at h
 rw [hrow r hr] at h
 obtain ⟨t, ht⟩ : ∃ t : Nat, G.next a = (t : Int) := ⟨(G.next a).toNat, by omega⟩
 rw [ht, Int.toNat_natCast] at h
 rw [ht, Int.toNat_natCast]
 cases e : (rowT (fun t j => takB G.al (nulB G.al) G.T r (t : Int) j) (G.al.getD r []).length (G.T + 1))[t]? with
 | none => rw [e] at h; cases h
 | some v =>
  rw [e] at h
  dsimp only at h
  unfold rowT at e
  have hlt := (List.getElem?_eq_some_iff.1 e).1
  rw [List.length_map, List.length_range] at hlt
  rw [List.getElem?_map, List.getElem?_range hlt, Option.map_some, Option.some.injEq] at e
  by_cases hv : 0 ≤ v
  ·rw [if_pos hv] at h
   cases e2 : (G.al.getD r [])[v.toNat]? with
   | none => rw [e2] at h; cases h
   | some l =>
    rw [e2] at h
    simp only [Option.map_some, Option.some.injEq, Prod.mk.injEq] at h
    obtain ⟨rfl, rfl⟩ := h
    cases e3 : (List.range (G.al.getD r []).length).filter (fun j => takB G.al (nulB G.al) G.T r (t : Int) j) with
    | nil => rw [e3] at e; simp only [onlyL] at e; omega
    | cons x xs =>
     rw [e3] at e
     simp only [onlyL] at e
     have hx : x ∈ (List.range (G.al.getD r []).length).filter (fun j => takB G.al (nulB G.al) G.T r (t : Int) j) := by rw [e3]; simp
     have := List.mem_filter.1 hx
     have e4 : v.toNat = x := by omega
     rw [e4]
     exact ⟨this.2, List.mem_range.1 this.1, hlt⟩
  ·rw [if_neg hv] at h; cases h
theorem filter_one {l : List Nat} (hn : l.Nodup) {p : Nat → Bool} (h : (l.filter p).length ≤ 1) {i j : Nat} (hi : i ∈ l) (hj : j ∈ l) (pi : p i = true) (pj : p j = true) : i = j := by
 have h1 := List.mem_filter.2 ⟨hi, pi⟩
 have h2 := List.mem_filter.2 ⟨hj, pj⟩
 cases e : l.filter p with
 | nil => rw [e] at h1; cases h1
 | cons x xs =>
  rw [e] at h1 h2 h
  have hx : xs = [] := List.length_eq_zero_iff.1 (by rw [List.length_cons] at h; omega)
  subst hx
  rw [List.mem_singleton] at h1 h2
  omega
/-- Parsing follows any derivation of the tokens. -/
theorem seq_follow {d : CfD} {G : PsG} (hal : G.al = d.alts.map IrD.p) (hl : G.tb.length = G.al.length) (hrow : ∀ r, r < G.al.length → G.tb.getD r [] = rowT (fun t j => takB G.al (nulB G.al) G.T r (t : Int) j) (G.al.getD r []).length (G.T + 1))
 (hcl : allCl G.al (nulB G.al) G.T = []) : ∀ (f : TrF) (m : Nat) (ks : List Int) (a n : Nat) {l : TrF} {b q : Nat}, goodW d f ks → (∀ i, i < f.yt.length → G.toks[a + i]? = f.yt[i]?) → f.ya = rngI a (a + f.yt.length) → InA G.al G.T ks → CtA G.al G.T ks (G.next (a + f.yt.length)) →
  psSeq (psPut G m) ks a n = .ok l b q → l = f ∧ b = a + f.yt.length
 | .nil, m, ks, a, n, l, b, q, hg, _, _, _, _, h => by
  have hg : ks = [] := hg
  subst hg
  unfold psSeq at h
  injection h with h1 h2 _
  exact ⟨h1.symm, h2.symm⟩
 | .cons hd kids rest, m, ks, a, n, l, b, q, hg, hx, hy, hI, hC, h => by
  obtain ⟨ks', rfl, h2, h3⟩ := goodW_cons hg
  rw [seq_cons] at h
  cases e : psPut G m hd.k a n with
  | bad c x => rw [e] at h; cases h
  | ok t c r =>
   rw [e] at h
   change (psSeq (psPut G m) ks' c r).bind _ = _ at h
   cases e2 : psSeq (psPut G m) ks' c r with
   | bad c2 x => rw [e2] at h; cases h
   | ok l2 c2 r2 =>
    rw [e2] at h
    change PsR.ok (t.con l2) c2 r2 = _ at h
    injection h with h4 h5 _
    subst h4
    subst h5
    cases m with
    | zero => unfold psPut at e; cases e
    | succ m =>
    rw [psPut] at e
    by_cases hn : n = 0
    ·rw [if_pos hn] at e; cases e
    rw [if_neg hn] at e
    obtain ⟨hk, hi, ha⟩ := hd
    rcases h2 with ⟨h0, rfl, h6⟩ | ⟨h0, h6, x, hax, hkg⟩
    ·dsimp only at h0 h6 e
     subst h6
     have ey : (TrF.cons ⟨hk, 0, ha⟩ .nil rest).yt = hk :: rest.yt := by simp [TrF.yt, h0]
     have ea : (TrF.cons ⟨hk, 0, ha⟩ .nil rest).ya = ha :: rest.ya := by simp [TrF.ya, h0]
     rw [ey] at hx hy hC ⊢
     rw [ea] at hy
     rw [if_pos h0] at e
     by_cases ht : G.toks[a]? = some hk
     ·rw [if_pos ht] at e
      injection e with e3 e4 _
      subst e3
      subst e4
      rw [List.length_cons] at hy hC ⊢
      have hy2 : rngI a (a + (rest.yt.length + 1)) = (a : Int) :: rngI (a + 1) (a + 1 + rest.yt.length) := by
       rw [← rngI_app (show a ≤ a + 1 by omega) (show a + 1 ≤ a + (rest.yt.length + 1) by omega), show a + (rest.yt.length + 1) = a + 1 + rest.yt.length by omega]
       congr 1
       simp [rngI]
      rw [hy2] at hy
      injection hy with hy3 hy4
      subst hy3
      obtain ⟨r1, r2⟩ := seq_follow hal hl hrow hcl rest (m + 1) ks' (a + 1) r h3 (fun i hi => by
       have := hx (i + 1) (by simp; omega)
       rw [show a + (i + 1) = a + 1 + i by omega] at this
       simpa using this) hy4 hI.tail (by rw [show a + 1 + rest.yt.length = a + (rest.yt.length + 1) by omega]; exact hC.tail) e2
      rw [r1, r2]
      exact ⟨rfl, by omega⟩
     ·rw [if_neg ht] at e; cases e
    ·dsimp only at h0 h6 hax e
     subst h6
     have hkn : ¬ 0 ≤ hk := by omega
     have ey : (TrF.cons ⟨hk, hi, 0⟩ kids rest).yt = kids.yt ++ rest.yt := by simp only [TrF.yt]; rw [if_neg hkn]
     have ea : (TrF.cons ⟨hk, hi, 0⟩ kids rest).ya = kids.ya ++ rest.ya := by simp only [TrF.ya]; rw [if_neg hkn]
     rw [ey] at hx hy hC ⊢
     rw [ea] at hy
     rw [if_neg hkn] at e
     rw [List.length_append] at hy hC ⊢
     have hly : kids.ya.length = kids.yt.length := ya_len kids
     have hy2 : rngI a (a + (kids.yt.length + rest.yt.length)) = rngI a (a + kids.yt.length) ++ rngI (a + kids.yt.length) (a + kids.yt.length + rest.yt.length) := by
      rw [rngI_app (by omega) (by omega), Nat.add_assoc]
     rw [hy2] at hy
     have hyl : (rngI a (a + kids.yt.length)).length = kids.ya.length := by unfold rngI; rw [List.length_map, List.length_range]; omega
     obtain ⟨hy3, hy4⟩ := List.append_inj hy hyl.symm
     obtain ⟨hi0, hr, hxa⟩ := altD_al hax
     rw [← hal] at hr hxa
     have hm : x.l ∈ G.al.getD (ruL hk) [] := List.mem_of_getElem? hxa
     have lk := good_lead hal hkg
     have lr := good_lead hal h3
     -- what follows the rule here
     have hfol : FolP G.al (nulB G.al) G.T (ruL hk) (G.next (a + kids.yt.length)) := by
      cases er : rest.yt with
      | nil =>
       have h9 := hC 0 hk rfl h0 (by simpa using lr.1 er)
       rw [er] at h9
       simpa using h9
      | cons t0 l0 =>
       have h9 := hI 0 hk rfl h0 t0 (by simpa using lr.2 _ _ er)
       have h8 := hx kids.yt.length (by rw [List.length_append, er, List.length_cons]; omega)
       rw [List.getElem?_append_right (Nat.le_refl _), Nat.sub_self, er, List.getElem?_cons_zero] at h8
       have h7 : G.next (a + kids.yt.length) = t0 := by unfold PsG.next; rw [h8]; rfl
       rw [h7]; exact h9
     -- and what the alternative is taken at
     have htak : TakP G.al (nulB G.al) G.T (ruL hk) x.l (G.next a) := by
      cases ek : kids.yt with
      | nil =>
       rw [ek] at hfol
       exact .inr ⟨lk.1 ek, by simpa using hfol⟩
      | cons t0 l0 =>
       have h8 := hx 0 (by rw [List.length_append, ek, List.length_cons]; omega)
       rw [ek, List.cons_append, List.getElem?_cons_zero, Nat.add_zero] at h8
       have h7 : G.next a = t0 := by unfold PsG.next; rw [h8]; rfl
       rw [h7]; exact .inl (lk.2 _ _ ek)
     have hn0 : 0 ≤ G.next a := by
      rcases htak with h9 | ⟨_, h9⟩
      ·exact h9.1
      ·exact h9.1
     cases ex : G.alt (ruL hk) a with
     | none => rw [ex] at e; cases e
     | some pq =>
      obtain ⟨i2, ks2⟩ := pq
      rw [ex] at e
      dsimp only at e
      obtain ⟨q1, q2, q3⟩ := alt_tells hl hrow hr hn0 ex
      have q4 : takB G.al (nulB G.al) G.T (ruL hk) (G.next a) hi.toNat = true := (takB_at hxa).2 htak
      have q5 : hi.toNat < (G.al.getD (ruL hk) []).length := (List.getElem?_eq_some_iff.1 hxa).1
      obtain ⟨t, ht⟩ : ∃ t : Nat, G.next a = (t : Int) := ⟨(G.next a).toNat, by omega⟩
      rw [ht] at q1 q4 q3
      rw [Int.toNat_natCast] at q3
      have q6 : i2 = hi.toNat := by
       unfold allCl at hcl
       have h9 := clS_nil.1 hcl (ruL hk) hr t q3
       exact filter_one List.nodup_range h9 (List.mem_range.2 q2) (List.mem_range.2 q5) q1 q4
      have q7 : (G.al.getD (ruL hk) [])[i2]? = some ks2 := by
       unfold PsG.alt at ex
       cases e3 : (G.tb.getD (ruL hk) [])[(G.next a).toNat]? with
       | none => rw [e3] at ex; cases ex
       | some v =>
        rw [e3] at ex
        dsimp only at ex
        by_cases hv : 0 ≤ v
        ·rw [if_pos hv] at ex
         cases e4 : (G.al.getD (ruL hk) [])[v.toNat]? with
         | none => rw [e4] at ex; cases ex
         | some l9 =>
          rw [e4] at ex
          simp only [Option.map_some, Option.some.injEq, Prod.mk.injEq] at ex
          obtain ⟨rfl, rfl⟩ := ex
          exact e4
        ·rw [if_neg hv] at ex; cases ex
      have q8 : ks2 = x.l := by
       rw [q6, hxa] at q7
       exact (Option.some.inj q7).symm
      subst q8
      cases e4 : psSeq (psPut G m) x.l a (n - 1) with
      | bad c3 e5 => rw [e4] at e; cases e
      | ok l3 c3 r3 =>
       rw [e4] at e
       change PsR.ok (⟨hk, i2, 0, l3⟩ : Tre) c3 r3 = _ at e
       injection e with e5 e6 e7
       subst e5
       subst e6
       subst e7
       obtain ⟨k1, k2⟩ := seq_follow hal hl hrow hcl kids m x.l a (n - 1) hkg (fun i hi9 => by
        have := hx i (by rw [List.length_append]; omega)
        rwa [List.getElem?_append_left hi9] at this) hy3 (InA.alt hr hm) (CtA.alt hr hm hfol) e4
       rw [k2] at e2
       obtain ⟨r1, r2⟩ := seq_follow hal hl hrow hcl rest (m + 1) ks' (a + kids.yt.length) r3 h3 (fun i hi9 => by
        have := hx (kids.yt.length + i) (by rw [List.length_append]; omega)
        rw [List.getElem?_append_right (by omega), show kids.yt.length + i - kids.yt.length = i by omega, show a + (kids.yt.length + i) = a + kids.yt.length + i by omega] at this
        exact this) hy4 hI.tail (by rw [Nat.add_assoc]; exact hC.tail) e2
       rw [r1, r2, k1, q6]
       refine ⟨?_, by omega⟩
       unfold Tre.con
       rw [show ((hi.toNat : Nat) : Int) = hi by omega]
end Go.Proofs.Ythogiakfbgehnaa
namespace Go.Proofs.Ythogiakfbgehnaa
open Go.RowKit Go.Maps
attribute [local go_sem] Oper.semAt_some
theorem seq_size {f : Int → Nat → Nat → PsR Tre} (hf : ∀ k a n t b q, f k a n = .ok t b q → (t.con .nil).size + q = n) : ∀ (ks : List Int) (a n : Nat) {l b q}, psSeq f ks a n = .ok l b q → l.size + q = n
 | [], a, n, l, b, q, h => by
  unfold psSeq at h
  injection h with h1 _ h3
  subst h1
  rw [h3]; simp [TrF.size]
 | k :: ks, a, n, l, b, q, h => by
  rw [seq_cons] at h
  cases e : f k a n with
  | bad c x => rw [e] at h; cases h
  | ok t c r =>
   rw [e] at h
   change (psSeq f ks c r).bind _ = _ at h
   cases e2 : psSeq f ks c r with
   | bad c2 x => rw [e2] at h; cases h
   | ok l2 c2 r2 =>
    rw [e2] at h
    change PsR.ok (t.con l2) c2 r2 = _ at h
    injection h with h1 _ h3
    subst h1
    subst h3
    have h4 := hf k a n t c r e
    have h5 := seq_size hf ks c r e2
    simp only [Tre.con, TrF.size] at h4 ⊢
    omega
theorem put_size (G : PsG) : ∀ (m : Nat) (k : Int) (a n : Nat) {t b q}, psPut G m k a n = .ok t b q → (t.con .nil).size + q = n
 | 0, k, a, n, t, b, q, h => by unfold psPut at h; cases h
 | m + 1, k, a, n, t, b, q, h => by
  unfold psPut at h
  by_cases hn : n = 0
  ·rw [if_pos hn] at h; cases h
  ·rw [if_neg hn] at h
   by_cases hk : 0 ≤ k
   ·rw [if_pos hk] at h
    by_cases ht : G.toks[a]? = some k
    ·rw [if_pos ht] at h
     injection h with h1 _ h3
     subst h1
     subst h3
     simp only [Tre.con, TrF.size]
     omega
    ·rw [if_neg ht] at h; cases h
   ·rw [if_neg hk] at h
    cases e : G.alt (ruL k) a with
    | none => rw [e] at h; cases h
    | some p =>
     obtain ⟨i, ks⟩ := p
     rw [e] at h
     dsimp only at h
     cases e2 : psSeq (psPut G m) ks a (n - 1) with
     | bad c x => rw [e2] at h; cases h
     | ok l c r =>
      rw [e2] at h
      have h1 := seq_size (fun k a n t b q h => put_size G m k a n h) ks a (n - 1) e2
      change PsR.ok (⟨k, i, 0, l⟩ : Tre) c r = _ at h
      injection h with h3 _ h5
      subst h3
      subst h5
      simp only [Tre.con, TrF.size]
      omega
theorem parse_put {G : PsG} {t : Tre} {a n : Nat} (h : psParse G = .ok t a n) : firstB G.T G.toks = none ∧ ∃ r, psPut G 20000 (-1) 0 20000 = .ok t G.toks.length r := by
 unfold psParse at h
 cases e : firstB G.T G.toks with
 | some j => rw [e] at h; cases h
 | none =>
  rw [e] at h
  change psTree G = _ at h
  unfold psTree at h
  cases e2 : psPut G 20000 (-1) 0 20000 with
  | bad c x => rw [e2] at h; cases h
  | ok t2 c r =>
   rw [e2] at h
   change (if c < G.toks.length then PsR.bad c 110 else PsR.ok t2 0 0) = _ at h
   by_cases hc : c < G.toks.length
   ·rw [if_pos hc] at h; cases h
   ·rw [if_neg hc] at h
    injection h with h1 _ _
    subst h1
    have h2 := (put_yield G 20000 (-1) 0 20000 (Nat.zero_le _) e2).hi
    have hcl : c = G.toks.length := by omega
    subst hcl
    exact ⟨rfl, r, rfl⟩
theorem goodF_W {d : CfD} {G : PsG} (hal : G.al = d.alts.map IrD.p) (hlen : d.names.length = d.alts.length) : ∀ {f : TrF} {ks : List Int}, goodF G f ks → goodW d f ks
 | .nil, ks, h => h
 | .cons h kids rest, ks, hg => by
  obtain ⟨ks', e, h2, h3⟩ := hg
  refine ⟨ks', e, ?_, goodF_W hal hlen h3⟩
  rcases h2 with h2 | ⟨h0, ha, i, l, hi, hx, hk⟩
  ·exact .inl h2
  ·have hr : ruL h.k < d.alts.length := by
    refine Classical.byContradiction fun hn => ?_
    have hno : (d.alts.map IrD.p)[ruL h.k]? = none := List.getElem?_eq_none (by rw [List.length_map]; omega)
    rw [hal, List.getD_eq_getElem?_getD, hno] at hx
    simp at hx
   rw [hal, List.getD_eq_getElem?_getD, List.getElem?_map, List.getElem?_eq_getElem hr] at hx
   have hx3 : ((d.alts[ruL h.k]).ds.map (fun d => d.l))[i]? = some l := hx
   rw [List.getElem?_map, Option.map_eq_some_iff] at hx3
   obtain ⟨x, hx2, rfl⟩ := hx3
   refine .inr ⟨h0, ha, x, ?_, goodF_W hal hlen hk⟩
   unfold altD
   rw [List.getElem?_eq_getElem hr]
   dsimp only
   rw [if_pos ⟨by omega, by omega⟩, hi, Int.toNat_natCast]
   exact hx2
theorem good_lo {d : CfD} {lo : Int} (hrg : ∀ r ∈ d.alts, ∀ a ∈ r.ds, ∀ x ∈ a.l, lo ≤ x) : ∀ {f : TrF} {ks : List Int}, goodW d f ks → (∀ k ∈ ks, lo ≤ k) → ∀ (p : Bool) (dd : Nat), ∀ x ∈ f.pre p dd, lo ≤ x.h.k
 | .nil, ks, _, _, p, dd, x, hx => by cases hx
 | .cons h kids rest, ks, hg, hk, p, dd, x, hx => by
  obtain ⟨ks', rfl, h2, h3⟩ := goodW_cons hg
  rw [TrF.pre_cons] at hx
  rcases List.mem_cons.1 hx with rfl | hx
  ·exact hk _ (by simp)
  ·rcases List.mem_append.1 hx with hx | hx
   ·unfold told at hx
    split at hx
    ·cases hx
    ·rcases h2 with ⟨_, rfl, _⟩ | ⟨_, _, a, ha, hkg⟩
     ·cases hx
     ·obtain ⟨ru, hru, hm⟩ := altD_mem ha
      exact good_lo hrg hkg (fun k hk => hrg ru hru a hm k hk) p _ x hx
   ·exact good_lo hrg h3 (fun k hk2 => hk k (List.mem_cons_of_mem _ hk2)) p _ x hx
/-- What is parsed is a derivation of the tokens. -/
theorem parsed_chk {d : CfD} {rs : List IltD} {toks : List Int} {t : Tre} {a n : Nat} (hlen : d.names.length = d.alts.length) (h : psParse (gOf d rs toks) = .ok t a n) : ChkD d ⟨t.k, t.i, t.a⟩ t.l toks ∧ t.l.size ≤ 20000 := by
 obtain ⟨h1, h2, h3, h4⟩ := parse_yield h
 obtain ⟨h5, r, h6⟩ := parse_put h
 have h7 := put_size _ _ _ _ _ h6
 have e : (t.con .nil) = TrF.cons ⟨t.k, t.i, t.a⟩ t.l .nil := rfl
 refine ⟨⟨h1, ⟨goodF_W (G := gOf d rs toks) rfl hlen h4, fun x hx => ?_⟩, h2, h3⟩, ?_⟩
 ·rw [← e, h2] at hx
  exact (firstB_none h5 x hx).2
 ·rw [e] at h7
  simp only [TrF.size] at h7
  omega
/-- And the only one. -/
theorem parsed_only {d : CfD} {rs : List IltD} {toks : List Int} {t y : Tre} {a n : Nat} (hl : rs.length = (d.alts.map IrD.p).length) (hrow : ∀ r, r < (d.alts.map IrD.p).length → rowL rs r = rowT (fun t j => takB (d.alts.map IrD.p) (nulB (d.alts.map IrD.p)) d.toks.length r (t : Int) j) ((d.alts.map IrD.p).getD r []).length (d.toks.length + 1))
 (hcl : allCl (d.alts.map IrD.p) (nulB (d.alts.map IrD.p)) d.toks.length = []) (h : psParse (gOf d rs toks) = .ok t a n) (hg : goodW d (y.con .nil) [-1]) (hy : (y.con .nil).yt = toks) (hya : (y.con .nil).ya = rngI 0 toks.length) : t = y := by
 obtain ⟨h5, r, h6⟩ := parse_put h
 have h7 : psSeq (psPut (gOf d rs toks) 20000) [-1] 0 20000 = .ok (t.con .nil) toks.length r := by
  rw [seq_cons, h6]
  rfl
 have hla : CtA (gOf d rs toks).al (gOf d rs toks).T [-1] ((gOf d rs toks).next (0 + (y.con .nil).yt.length)) := by
  intro i k hk h0 he
  have hi : i = 0 := by
   rcases i with _ | i
   ·rfl
   ·simp at hk
  subst hi
  have hk : k = -1 := by simpa using hk.symm
  subst hk
  have e9 : (gOf d rs toks).next toks.length = (d.toks.length : Int) := next_end (G := gOf d rs toks) (Nat.le_refl _)
  rw [Nat.zero_add, hy, e9]
  exact fol_end
 have hin : InA (gOf d rs toks).al (gOf d rs toks).T [-1] := by
  intro i k hk h0 t ht
  have hi : i = 0 := by
   rcases i with _ | i
   ·rfl
   ·simp at hk
  subst hi
  obtain ⟨x, hx, _⟩ := tok_iff.1 ht
  cases hx
 have h8 := seq_follow (d := d) (G := gOf d rs toks) rfl (by show (rs.map _).length = _; rw [List.length_map]; exact hl) (fun r hr => hrow r hr) hcl (y.con .nil) 20000 [-1] 0 20000 hg (fun i hi => by rw [hy, Nat.zero_add]; rfl) (by rw [Nat.zero_add, hy]; exact hya) hin hla h7
 obtain ⟨k, i, ia, l⟩ := t
 obtain ⟨k2, i2, a2, l2⟩ := y
 have h9 := h8.1
 unfold Tre.con at h9
 injection h9 with h10 h11 _
 injection h10 with h10 h12 h13
 subst h10 h12 h13 h11
 rfl
end Go.Proofs.Ythogiakfbgehnaa
namespace Go.Proofs.Ythogiakfbgehnaa
open Go.RowKit Go.Maps
attribute [local go_sem] Oper.semAt_some
theorem seq_bad0 {f : Int → Nat → Nat → PsR Tre} (hf : ∀ k a n c y, f k a n = .bad c y → y ≠ 0) : ∀ (ks : List Int) (a n : Nat) {c y}, psSeq f ks a n = .bad c y → y ≠ 0
 | [], a, n, c, y, h => by unfold psSeq at h; cases h
 | k :: ks, a, n, c, y, h => by
  rw [seq_cons] at h
  cases e : f k a n with
  | bad c1 x => rw [e] at h; injection h with _ h2; subst h2; exact hf k a n _ _ e
  | ok t c1 r =>
   rw [e] at h
   change (psSeq f ks c1 r).bind _ = _ at h
   cases e2 : psSeq f ks c1 r with
   | bad c2 x => rw [e2] at h; injection h with _ h2; subst h2; exact seq_bad0 hf ks _ _ e2
   | ok l2 c2 r2 => rw [e2] at h; cases h
theorem put_bad0 (G : PsG) : ∀ (m : Nat) (k : Int) (a n : Nat) {c y}, psPut G m k a n = .bad c y → y ≠ 0
 | 0, k, a, n, c, y, h => by unfold psPut at h; injection h with _ h2; subst h2; decide
 | m + 1, k, a, n, c, y, h => by
  unfold psPut at h
  by_cases hn : n = 0
  ·rw [if_pos hn] at h; injection h with _ h2; subst h2; decide
  ·rw [if_neg hn] at h
   by_cases hk : 0 ≤ k
   ·rw [if_pos hk] at h
    by_cases ht : G.toks[a]? = some k
    ·rw [if_pos ht] at h; cases h
    ·rw [if_neg ht] at h; injection h with _ h2; subst h2; decide
   ·rw [if_neg hk] at h
    cases e : G.alt (ruL k) a with
    | none => rw [e] at h; injection h with _ h2; subst h2; decide
    | some p =>
     obtain ⟨i, ks⟩ := p
     rw [e] at h
     dsimp only at h
     cases e2 : psSeq (psPut G m) ks a (n - 1) with
     | bad c2 x => rw [e2] at h; injection h with _ h2; subst h2; exact seq_bad0 (fun k a n c y h => put_bad0 G m k a n h) ks a (n - 1) e2
     | ok l c2 r => rw [e2] at h; cases h
theorem parse_bad0 {G : PsG} {b : Nat} {y : Int} (h : psParse G = .bad b y) : y ≠ 0 := by
 unfold psParse at h
 cases e : firstB G.T G.toks with
 | some j => rw [e] at h; injection h with _ h2; subst h2; decide
 | none =>
  rw [e] at h
  change psTree G = _ at h
  unfold psTree at h
  cases e2 : psPut G 20000 (-1) 0 20000 with
  | bad c x => rw [e2] at h; injection h with _ h2; subst h2; exact put_bad0 _ _ _ _ _ e2
  | ok t2 c r =>
   rw [e2] at h
   change (if c < G.toks.length then PsR.bad c 110 else PsR.ok t2 0 0) = _ at h
   by_cases hc : c < G.toks.length
   ·rw [if_pos hc] at h; injection h with _ h2; subst h2; decide
   ·rw [if_neg hc] at h; cases h
set_option maxRecDepth 100000 in
set_option maxHeartbeats 16000000 in
theorem lawParsed13_any (d : CfD) (ka : Option Addr) (kc : Nat) (toks : List Int) (sa : Option Addr) (sc : Nat) (st : List Int) (w : World) (hd : CfAt w d) (h1 : ∀ t ∈ d.toks, t.size ≤ maxLen) (h2 : ∀ t ∈ d.names, t.size ≤ maxLen) (h3 : ∀ r ∈ d.alts, ∀ a ∈ r.ds, ∀ x ∈ a.l, -9223372036854775808 ≤ x ∧ x ≤ 9223372036854775807)
 (hs : d.toks.length + d.names.length + szC (d.alts.map IrD.p) ≤ 1000000000000) (hk : Ints w ka kc toks) (hst : Ints w sa sc st) :
 Calls Try.prog 13 #[d.v, .slice ka toks.length kc, .slice sa st.length sc] w fun e w' => e = .returned (.bool true) ∧ Below w.heap.size w w' := by
 have hkm : toks.length ≤ kc ∧ kc ≤ 9223372036854775807 := ⟨by have := hk.le; rwa [List.length_map] at this, hk.max⟩
 have hsm : st.length ≤ sc ∧ sc ≤ 9223372036854775807 := ⟨by have := hst.le; rwa [List.length_map] at this, hst.max⟩
 have Hk := Lib.hid hk
 have Hd := Lib.hid hd
 have HF := Lib.hid (fun W (hb : Below w.heap.size w W) => refFewM_any 100 (by omega) d W (hd.grown hb) hs)
 have HV := Lib.hid (fun W (hb : Below w.heap.size w W) (hf : d.toks.length + d.names.length + szC (d.alts.map IrD.p) ≤ 100) => refValid_any d W (hd.grown hb) ⟨by omega, h1, h2⟩ h3)
 have HT0 := Lib.hid (fun W (hb : Below w.heap.size w W) (hf : few10 d = true) => refBuild_any10 d W (hd.grown hb) (few10_fit hf))
 have HGr := Lib.hid (fun V (hV : Below w.heap.size w V) => grow_law d sa sc st V (hd.grown hV) h3 (hst.grown hV))
 have Hfw : Hid (d.toks.length + d.names.length + szC (d.alts.map IrD.p) ≤ 100 → validE d.p = 0 → few10 d = true) := Lib.hid (fun ha hb => by unfold few10; rw [decide_eq_true (by omega), decide_eq_true hb]; rfl)
 have H3 := Lib.hid h3
 obtain ⟨E, hE⟩ : ∃ q, Hid (validE d.p = q) := ⟨_, Lib.hid rfl⟩
 rw [hE.out] at HV Hfw
 obtain ⟨Z, hZ⟩ : ∃ q, Hid (d.toks.length + d.names.length + szC (d.alts.map IrD.p) = q) := ⟨_, Lib.hid rfl⟩
 rw [hZ.out] at HF HV Hfw
 obtain ⟨xta, hxta⟩ : ∃ q, Hid (d.ta = q) := ⟨_, Lib.hid rfl⟩
 obtain ⟨xna, hxna⟩ : ∃ q, Hid (d.na = q) := ⟨_, Lib.hid rfl⟩
 obtain ⟨xaa, hxaa⟩ : ∃ q, Hid (d.aa = q) := ⟨_, Lib.hid rfl⟩
 obtain ⟨xtc, hxtc⟩ : ∃ q, Hid (d.tc = q) := ⟨_, Lib.hid rfl⟩
 obtain ⟨xnc, hxnc⟩ : ∃ q, Hid (d.nc = q) := ⟨_, Lib.hid rfl⟩
 obtain ⟨xac, hxac⟩ : ∃ q, Hid (d.ac = q) := ⟨_, Lib.hid rfl⟩
 obtain ⟨T, HT⟩ : ∃ q, Hid (d.toks.length = q) := ⟨_, Lib.hid rfl⟩
 obtain ⟨N, HN⟩ : ∃ q, Hid (d.names.length = q) := ⟨_, Lib.hid rfl⟩
 obtain ⟨L, HL⟩ : ∃ q, Hid (d.alts.length = q) := ⟨_, Lib.hid rfl⟩
 have hdv : d.v = .agg #[.slice xta T xtc, .slice xna N xnc, .slice xaa L xac] := by unfold CfD.v; rw [hxta.out, hxna.out, hxaa.out, hxtc.out, hxnc.out, hxac.out, HT.out, HN.out, HL.out]
 have Hdv := Lib.hid hdv
 rw [hdv] at HF HV HT0 HGr ⊢
 obtain ⟨KL, HK⟩ : ∃ q, Hid (toks.length = q) := ⟨_, Lib.hid rfl⟩
 obtain ⟨SL, HSL⟩ : ∃ q, Hid (st.length = q) := ⟨_, Lib.hid rfl⟩
 rw [HK.out] at hkm ⊢
 rw [HSL.out] at hsm HGr ⊢
 have HA1 := Lib.hid (Blk.new w 25 #[.slice xta T xtc, .slice xna N xnc, .slice xaa L xac])
 have hb1 : Below w.heap.size w (w.alloc (.cells #[.slice xta T xtc, .slice xna N xnc, .slice xaa L xac] 25)) := (Below.refl _ w).alloc (Nat.le_refl _) _
 have Hb1 := Lib.hid hb1
 clear hb1 hd h1 h2 h3 hs hk hst hdv hxta hxna hxaa hxtc hxnc hxac
 have HF' : Hid (∀ W, Below w.heap.size w W → Calls Try.prog 50 #[.agg #[.slice xta T xtc, .slice xna N xnc, .slice xaa L xac], .int .i64 100] W fun e w' => e = .returned (.bool (decide (Z ≤ 100))) ∧ Below W.heap.size W w') := HF
 go_enter Try.func13, Try.ntmps13
 go_wp2_with (fail)
 obtain ⟨bx, hbx⟩ : ∃ q, Hid (w.heap.size = q) := ⟨_, Lib.hid rfl⟩
 rw [hbx.out] at HA1 ⊢
 generalize hV : World.alloc w _ = V1 at HA1 Hb1 ⊢
 clear hV
 refine (live13_any V1).mono ?_
 rintro e w2 ⟨rfl, hb⟩
 have HA2 := Lib.hid (HA1.out.below hb HA1.out.lt)
 have Hb2 := Lib.hid (Hb1.out.trans (hb.mono Hb1.out.size))
 clear hb HF
 have x0 := HA2.out.cell 0
 have x1 := HA2.out.cell 1
 have x2 := HA2.out.cell 2
 have xl := HA2.out.lt
 simp only [List.getElem?_cons_zero, List.getElem?_cons_succ] at x0 x1 x2
 go_wp2_with (fail)
 refine (HF'.out w2 Hb2.out).mono ?_
 rintro e w3 ⟨rfl, hb⟩
 have HA3 := Lib.hid (HA2.out.below hb HA2.out.lt)
 have Hb3 := Lib.hid (Hb2.out.trans (hb.mono Hb2.out.size))
 clear hb x0 x1 x2 xl HF'
 by_cases hz : Z ≤ 100
 case neg =>
  rw [decide_eq_false hz]
  go_wp2_with (fail)
  exact bodyPost_ret (v := .bool true) (by simp [results, Try.results13, go_sem]; try first | rfl | assumption | omega) rfl ⟨rfl, Hb3.out⟩
 rw [decide_eq_true hz]
 have HV' := Lib.hid (fun W hb => HV.out W hb hz)
 have Hfw2 := Lib.hid (Hfw.out hz)
 clear HV Hfw hz
 have x0 := HA3.out.cell 0
 have x1 := HA3.out.cell 1
 have x2 := HA3.out.cell 2
 have xl := HA3.out.lt
 simp only [List.getElem?_cons_zero, List.getElem?_cons_succ] at x0 x1 x2
 go_wp2_with (fail)
 refine (HV'.out w3 Hb3.out).mono ?_
 rintro e w4 ⟨rfl, hb⟩
 have HA4 := Lib.hid (HA3.out.below hb HA3.out.lt)
 have Hb4 := Lib.hid (Hb3.out.trans (hb.mono Hb3.out.size))
 clear hb x0 x1 x2 xl HV'
 by_cases he : E = 0
 case neg =>
  have heb : (E != 0) = true := by simp [he]
  go_wp2_with (fail)
  exact bodyPost_ret (v := .bool true) (by simp [results, Try.results13, go_sem]; try first | rfl | assumption | omega) rfl ⟨rfl, Hb4.out⟩
 have Hw := Lib.hid (Hfw2.out he)
 have heb : (E != 0) = false := by simp [he]
 clear he Hfw2
 by_cases hK60 : 60 < KL
 ·have hKI : (60 : Int) < (KL : Int) := by omega
  go_wp2_with (fail)
  exact bodyPost_ret (v := .bool true) (by simp [results, Try.results13, go_sem]; try first | rfl | assumption | omega) rfl ⟨rfl, Hb4.out⟩
 have hKI : ¬ (60 : Int) < (KL : Int) := by omega
 by_cases hS60 : 60 < SL
 ·have hSI : (60 : Int) < (SL : Int) := by omega
  go_wp2_with (fail)
  exact bodyPost_ret (v := .bool true) (by simp [results, Try.results13, go_sem]; try first | rfl | assumption | omega) rfl ⟨rfl, Hb4.out⟩
 have hSI : ¬ (60 : Int) < (SL : Int) := by omega
 have x0 := HA4.out.cell 0
 have x1 := HA4.out.cell 1
 have x2 := HA4.out.cell 2
 have xl := HA4.out.lt
 simp only [List.getElem?_cons_zero, List.getElem?_cons_succ] at x0 x1 x2
 go_wp2_with (fail)
 refine (HT0.out w4 Hb4.out Hw.out).mono ?_
 rintro e w5 hB
 clear x0 x1 x2 xl HT0
 rcases hB with ⟨_, rfl, hb⟩ | ⟨hcl, oa, oc, rs, rfl, hrl, hra, hrow, hb⟩
 ·have HF9 := Lib.hid (Hb4.out.trans (hb.mono Hb4.out.size))
  clear hb
  go_wp2_with (fail)
  exact bodyPost_ret (v := .bool true) (by simp [results, Try.results13, go_sem]; try first | rfl | assumption | omega) rfl ⟨rfl, HF9.out⟩
 have HA5 := Lib.hid (HA4.out.below hb HA4.out.lt)
 have Hb5 := Lib.hid (Hb4.out.trans (hb.mono Hb4.out.size))
 clear hb
 have hrm : rs.length ≤ oc ∧ oc ≤ 9223372036854775807 := ⟨by have := hra.row.le; rwa [List.length_map] at this, hra.row.max⟩
 have hfit := few10_fit Hw.out
 have hmay := few10_may Hw.out
 have hlen : d.names.length = d.alts.length := by have := hmay.len; rwa [List.length_map] at this
 have hP := rparse_any11 d oa oc rs ka kc toks w5 (prf_of hfit (Hd.out.grown Hb5.out) hra hrl hrow (Hk.out.grown Hb5.out))
 have Honly0 := Lib.hid (fun (t y : Tre) (a n : Nat) (h : psParse (gOf d rs toks) = .ok t a n) => parsed_only (y := y) hrl hrow hcl h)
 have Hchk0 := Lib.hid (fun (t : Tre) (a n : Nat) (h : psParse (gOf d rs toks) = .ok t a n) => parsed_chk hlen h)
 obtain ⟨rn, hrn⟩ : ∃ q, Hid (rs.length = q) := ⟨_, Lib.hid rfl⟩
 rw [hrn.out] at hrm
 rw [hrn.out, Hdv.out, HK.out] at hP
 rw [hrn.out]
 have HP := Lib.hid hP
 clear hP hra hrl hrow hfit hcl hmay hlen
 have x0 := HA5.out.cell 0
 have x1 := HA5.out.cell 1
 have x2 := HA5.out.cell 2
 have xl := HA5.out.lt
 simp only [List.getElem?_cons_zero, List.getElem?_cons_succ] at x0 x1 x2
 go_wp2_with (fail)
 refine HP.out.mono ?_
 rintro e w6 ⟨hb, hq⟩
 have HA6 := Lib.hid (HA5.out.below hb HA5.out.lt)
 have Hb6 := Lib.hid (Hb5.out.trans (hb.mono Hb5.out.size))
 clear x0 x1 x2 xl HP
 cases hps : psParse (gOf d rs toks) with
 | bad b y =>
  rw [hps] at hq
  have hy0 := parse_bad0 hps
  dsimp only at hq
  subst hq
  have hyn : (y != 0) = true := by rw [bne_iff_ne]; exact hy0
  have HF9 := Lib.hid (Hb6.out.alloc Hb6.out.size (.cells #[.int .i64 0, .int .i64 0, .int .i64 0, .slice none 0 0] 51))
  clear hb hps
  go_wp2_with (fail)
  exact bodyPost_ret (v := .bool true) (by simp [results, Try.results13, go_sem]; try first | rfl | assumption | omega) rfl ⟨rfl, HF9.out⟩
 | ok xt a9 n9 =>
  rw [hps] at hq
  obtain ⟨ga, gc, rfl, hxt⟩ := hq
  have Honly := Lib.hid (fun y hg hy hya => Honly0.out xt y a9 n9 hps hg hy hya)
  obtain ⟨hck, hxsz⟩ := Hchk0.out xt a9 n9 hps
  obtain ⟨xk, xi, xh, xf⟩ := xt
  dsimp only at hxt hck hxsz ⊢
  have htl := hxt.imp (Q := fun _ => True) (fun _ _ _ => trivial)
  have htm9 := htl.le
  have htx9 := htl.max
  have hCk0 : ∀ V, Below w6.heap.size w6 V → Below w.heap.size w V → Calls Try.prog 52 #[d.v, treV ⟨xk, xi, xh⟩ ga xf.len gc, .slice ka toks.length kc] V fun e W => e = .returned (.bool true) ∧ Below V.heap.size V W := fun V hV hV0 =>
   (tcheck_any d ⟨xk, xi, xh⟩ xf ga gc ka kc toks V (Hd.out.grown hV0) (htl.grown hV) (Hk.out.grown hV0) (by omega) (good_lo (fun r hr a ha x hx => (H3.out r hr a ha x hx).1) hck.2.1.1 (fun k hk => by rw [List.mem_singleton.1 hk]; decide) true 1)).mono (fun e W hh => by
    obtain ⟨b, he, hbc, hbb⟩ := hh
    rw [hbc.2 hck] at he
    exact ⟨he, hbb⟩)
  rw [Hdv.out, HK.out] at hCk0
  have Htx0 := Lib.hid htl
  obtain ⟨XL, HXL⟩ : ∃ q, Hid (xf.len = q) := ⟨_, Lib.hid rfl⟩
  rw [HXL.out] at htm9 hCk0 ⊢
  dsimp only [treV] at hCk0
  have HCk0 := Lib.hid hCk0
  have hb9 : Below w6.heap.size w6 (w6.alloc (.cells #[.int .i64 xk, .int .i64 xi, .int .i64 xh, .slice ga XL gc] 51)) := (Below.refl _ _).alloc (Nat.le_refl _) _
  have HX7 := Lib.hid (Blk.new w6 51 #[.int .i64 xk, .int .i64 xi, .int .i64 xh, .slice ga XL gc])
  have HA7 := Lib.hid (HA6.out.below hb9 HA6.out.lt)
  have Hb7 := Lib.hid (Hb6.out.trans (hb9.mono Hb6.out.size))
  have Hq7 := Lib.hid hb9
  have Htx := Lib.hid (Htx0.out.grown hb9)
  clear hb hps hxt hck hxsz htl hCk0 hb9 Honly0 Hchk0
  go_upto_region 8 with fail
  obtain ⟨b1, hb1⟩ : ∃ q, Hid (w6.heap.size = q) := ⟨_, Lib.hid rfl⟩
  have hb1o := hb1.out
  have HCk1 := Lib.hid (fun V (hV : Below (w6.alloc (.cells #[.int .i64 xk, .int .i64 xi, .int .i64 xh, .slice ga XL gc] 51)).heap.size (w6.alloc (.cells #[.int .i64 xk, .int .i64 xi, .int .i64 xh, .slice ga XL gc] 51)) V) (hV0 : Below w.heap.size w V) => HCk0.out V (Hq7.out.trans (hV.mono Hq7.out.size)) hV0)
  rw [hb1o] at HX7 ⊢
  clear HCk0 Hq7 Htx0
  generalize World.alloc w6 _ = v5 at HX7 HA7 Hb7 Htx HCk1 ⊢
  clear hb1o
  have HX5 := HX7
  have HA5 := HA7
  have Hb5 := Hb7
  clear HX7 HA7 Hb7
  have x0 := HA5.out.cell 0
  have x1 := HA5.out.cell 1
  have x2 := HA5.out.cell 2
  have xl := HA5.out.lt
  simp only [List.getElem?_cons_zero, List.getElem?_cons_succ] at x0 x1 x2
  go_wp2_with (fail)
  refine (HGr.out v5 Hb5.out).mono ?_
  rintro e v6 ⟨hb, hq⟩
  have HA6 := Lib.hid (HA5.out.below hb HA5.out.lt)
  have HX6 := Lib.hid (HX5.out.below hb HX5.out.lt)
  have Hb6 := Lib.hid (Hb5.out.trans (hb.mono Hb5.out.size))
  have Hq5 := Lib.hid hb
  have HCk : Hid (∀ V, Below v6.heap.size v6 V → Calls Try.prog 52 #[.agg #[.slice xta T xtc, .slice xna N xnc, .slice xaa L xac], .agg #[.int .i64 xk, .int .i64 xi, .int .i64 xh, .slice ga XL gc], .slice ka KL kc] V fun e W => e = .returned (.bool true) ∧ Below V.heap.size V W) := Lib.hid (fun V hV => HCk1.out V (Hq5.out.trans (hV.mono Hq5.out.size)) (Hb6.out.trans (hV.mono Hb6.out.size)))
  clear hb x0 x1 x2 xl HGr HCk1
  rcases hq with ⟨s, x2, hx2, -, rfl⟩ | ⟨y, s9, a8, n8, gb, gd, hgr, rfl, hyt⟩
  ·have hxn : (x2 == 0) = false := by rw [beq_eq_false_iff_ne]; exact hx2
   have hb : Below v6.heap.size v6 (v6.alloc (.cells #[.int .i64 0, .int .i64 0, .int .i64 0, .slice none 0 0] 51)) := (Below.refl _ _).alloc (Nat.le_refl _) _
   have HA7 := Lib.hid (HA6.out.below hb HA6.out.lt)
   have HX7 := Lib.hid (HX6.out.below hb HX6.out.lt)
   have Hb7 := Lib.hid (Hb6.out.trans (hb.mono Hb6.out.size))
   have Hq7 := Lib.hid hb
   clear hb
   go_upto_region 13 with fail
   generalize World.alloc v6 _ = v7 at HA7 HX7 Hb7 Hq7 ⊢
   have x0 := HA7.out.cell 0
   have x1 := HA7.out.cell 1
   have x2 := HA7.out.cell 2
   have xl := HA7.out.lt
   simp only [List.getElem?_cons_zero, List.getElem?_cons_succ] at x0 x1 x2
   have m0 := HX7.out.cell 0
   have m1 := HX7.out.cell 1
   have m2 := HX7.out.cell 2
   have m3 := HX7.out.cell 3
   have ml := HX7.out.lt
   simp only [List.getElem?_cons_zero, List.getElem?_cons_succ] at m0 m1 m2 m3
   have hck := HCk.out v7 Hq7.out
   have Hck := Lib.hid hck
   clear hck
   go_wp2_with (fail)
   refine Hck.out.mono ?_
   rintro e9 v8 ⟨rfl, hb⟩
   have HF := Lib.hid (Hb7.out.trans (hb.mono Hb7.out.size))
   clear hb x0 x1 x2 xl m0 m1 m2 m3 ml Hck
   go_wp2_with (fail)
   exact bodyPost_ret (v := .bool true) (by simp [results, Try.results13, go_sem]; try first | rfl | assumption | omega) rfl ⟨rfl, HF.out⟩
  ·obtain ⟨hgw, -⟩ := grow_t hgr
   obtain ⟨yk, yi, yh, yf⟩ := y
   dsimp only at hyt ⊢
   have ec : (Tre.con ⟨yk, yi, yh, yf⟩ .nil) = .cons ⟨yk, yi, yh⟩ yf .nil := rfl
   have hysz : yf.size ≤ 20000 := by
    have h9 := hgw.sz
    rw [ec] at h9
    simp only [TrF.size] at h9
    omega
   have htl := hyt.imp (Q := fun _ => True) (fun _ _ _ => trivial)
   have htm := htl.le
   have htx := htl.max
   have hb : Below v6.heap.size v6 (v6.alloc (.cells #[.int .i64 yk, .int .i64 yi, .int .i64 yh, .slice gb yf.len gd] 51)) := (Below.refl _ _).alloc (Nat.le_refl _) _
   have hYD := tyield_any ⟨yk, yi, yh⟩ yf gb gd (v6.alloc (.cells #[.int .i64 yk, .int .i64 yi, .int .i64 yh, .slice gb yf.len gd] 51)) (htl.grown hb) (by omega)
   have hHY := Blk.new v6 51 #[.int .i64 yk, .int .i64 yi, .int .i64 yh, .slice gb yf.len gd]
   have Hyt6 := Lib.hid htl
   have Hgw := Lib.hid hgw
   obtain ⟨YL, hYL⟩ : ∃ q, Hid (yf.len = q) := ⟨_, Lib.hid rfl⟩
   rw [hYL.out] at hb hYD hHY htm ⊢
   dsimp only [treV] at hYD
   have HA7 := Lib.hid (HA6.out.below hb HA6.out.lt)
   have HX7 := Lib.hid (HX6.out.below hb HX6.out.lt)
   have Hb7 := Lib.hid (Hb6.out.trans (hb.mono Hb6.out.size))
   have Hq7 := Lib.hid hb
   have HY7 := Lib.hid hHY
   have HYd := Lib.hid hYD
   clear hb hYD hHY htl hyt hgw
   obtain ⟨b2, hb2⟩ : ∃ q, Hid (v6.heap.size = q) := ⟨_, Lib.hid rfl⟩
   go_upto_region 11 with fail
   have hb2o := hb2.out
   rw [hb2o] at HY7 ⊢
   generalize World.alloc v6 _ = v7 at HA7 HX7 HY7 Hb7 Hq7 HYd ⊢
   clear hb2o
   have n0 := HY7.out.cell 0
   have n1 := HY7.out.cell 1
   have n2 := HY7.out.cell 2
   have n3 := HY7.out.cell 3
   have nl := HY7.out.lt
   simp only [List.getElem?_cons_zero, List.getElem?_cons_succ] at n0 n1 n2 n3
   have hKI2 : KL ≤ kc ∧ kc ≤ 9223372036854775807 := hkm
   by_cases hyy : (TrF.cons ⟨yk, yi, yh⟩ yf .nil).yt = toks
   ·have HYY := Lib.hid hyy
    go_wp2_with (fail)
    refine HYd.out.mono ?_
    rintro e8 v8 ⟨ra, rc, rfl, hyo, hb⟩
    have hInt := OwnKZ.vs hyo
    rw [HYY.out] at hInt
    rw [HYY.out, HK.out]
    have HA8 := Lib.hid (HA7.out.below hb HA7.out.lt)
    have HX8 := Lib.hid (HX7.out.below hb HX7.out.lt)
    have HY8 := Lib.hid (HY7.out.below hb HY7.out.lt)
    have Hb8 := Lib.hid (Hb7.out.trans (hb.mono Hb7.out.size))
    have Hq8 := Lib.hid (Hq7.out.trans (hb.mono Hq7.out.size))
    have hsi := si13_any toks KL HK.out ra ka rc kc v8 hInt (Hk.out.grown Hb8.out)
    have Hsi := Lib.hid hsi
    clear hb hyo hInt hsi n0 n1 n2 n3 nl HYd
    go_wp2_with (fail)
    refine Hsi.out.mono ?_
    rintro e9 v9 ⟨rfl, hb⟩
    have HA9 := Lib.hid (HA8.out.below hb HA8.out.lt)
    have HX9 := Lib.hid (HX8.out.below hb HX8.out.lt)
    have HY9 := Lib.hid (HY8.out.below hb HY8.out.lt)
    have Hb9 := Lib.hid (Hb8.out.trans (hb.mono Hb8.out.size))
    have Hq9 := Lib.hid (Hq8.out.trans (hb.mono Hq8.out.size))
    clear hb Hsi
    have hsame := Honly.out ⟨yk, yi, yh, yf⟩ (by have h9 := Hgw.out.gd; exact h9) HYY.out (by
     have h9 := Hgw.out.ya
     have h8 := Hgw.out.yt
     have h7 : ((Tre.con ⟨yk, yi, yh, yf⟩ .nil).yt) = toks := HYY.out
     rw [h7] at h8
     rw [h9]
     congr 1
     omega)
    have hxk : xk = yk ∧ xi = yi ∧ xh = yh ∧ xf = yf := by injection hsame with q0 q1 q2 q3; exact ⟨q0, q1, q2, q3⟩
    obtain ⟨rfl, rfl, rfl, rfl⟩ := hxk
    have hsm := refSameT_any (xf.size + 1) ⟨xk, xi, xh⟩ ⟨xk, xi, xh⟩ xf xf ga gb gc gd v9 _ _ (Nat.lt_succ_self _) (Htx.out.grown (Hq5.out.trans (Hq9.out.mono Hq5.out.size))) (Hyt6.out.grown Hq9.out)
    rw [hdT_self, sameT_self] at hsm
    dsimp only [treV] at hsm
    have hXY : YL = XL := hYL.out.symm.trans HXL.out
    subst hXY
    rw [hYL.out] at hsm
    have Hsm := Lib.hid hsm
    clear hsame hsm
    have m0 := HX9.out.cell 0
    have m1 := HX9.out.cell 1
    have m2 := HX9.out.cell 2
    have m3 := HX9.out.cell 3
    have ml := HX9.out.lt
    simp only [List.getElem?_cons_zero, List.getElem?_cons_succ] at m0 m1 m2 m3
    have n0 := HY9.out.cell 0
    have n1 := HY9.out.cell 1
    have n2 := HY9.out.cell 2
    have n3 := HY9.out.cell 3
    have nl := HY9.out.lt
    simp only [List.getElem?_cons_zero, List.getElem?_cons_succ] at n0 n1 n2 n3
    go_wp2_with (fail)
    refine Hsm.out.mono ?_
    rintro e10 v10 ⟨rfl, hb⟩
    have HA10 := Lib.hid (HA9.out.below hb HA9.out.lt)
    have HX10 := Lib.hid (HX9.out.below hb HX9.out.lt)
    have Hb10 := Lib.hid (Hb9.out.trans (hb.mono Hb9.out.size))
    have Hq10 := Lib.hid (Hq9.out.trans (hb.mono Hq9.out.size))
    clear hb Hsm m0 m1 m2 m3 ml n0 n1 n2 n3 nl
    have x0 := HA10.out.cell 0
    have x1 := HA10.out.cell 1
    have x2 := HA10.out.cell 2
    have xl := HA10.out.lt
    simp only [List.getElem?_cons_zero, List.getElem?_cons_succ] at x0 x1 x2
    have m0 := HX10.out.cell 0
    have m1 := HX10.out.cell 1
    have m2 := HX10.out.cell 2
    have m3 := HX10.out.cell 3
    have ml := HX10.out.lt
    simp only [List.getElem?_cons_zero, List.getElem?_cons_succ] at m0 m1 m2 m3
    have hck := HCk.out v10 Hq10.out
    have Hck := Lib.hid hck
    clear hck
    go_wp2_with (fail)
    refine Hck.out.mono ?_
    rintro e9 v11 ⟨rfl, hb⟩
    have HF := Lib.hid (Hb10.out.trans (hb.mono Hb10.out.size))
    clear hb x0 x1 x2 xl m0 m1 m2 m3 ml Hck
    go_wp2_with (fail)
    exact bodyPost_ret (v := .bool true) (by simp [results, Try.results13, go_sem]; try first | rfl | assumption | omega) rfl ⟨rfl, HF.out⟩
   ·have hsi0 : ∀ ra rc V, Ints V ra rc (TrF.cons ⟨yk, yi, yh⟩ yf .nil).yt → Below w.heap.size w V → Calls Try.prog 25 #[.slice ra (TrF.cons ⟨yk, yi, yh⟩ yf .nil).yt.length rc, .slice ka KL kc] V fun e w' => e = .returned (.bool false) ∧ Below V.heap.size V w' := fun ra rc V hi hV => by
     have h9 := sameInts8_any ra ka rc kc _ toks V hi (Hk.out.grown hV)
     rw [decide_eq_false hyy, HK.out] at h9
     exact h9
    have Hsi0 := Lib.hid hsi0
    clear hsi0 hyy
    obtain ⟨ylen, hylen⟩ : ∃ q, Hid ((TrF.cons ⟨yk, yi, yh⟩ yf .nil).yt.length = q) := ⟨_, Lib.hid rfl⟩
    rw [hylen.out] at HYd Hsi0
    go_wp2_with (fail)
    refine HYd.out.mono ?_
    rintro e8 v8 ⟨ra, rc, rfl, hyo, hb⟩
    have hInt := OwnKZ.vs hyo
    have HA8 := Lib.hid (HA7.out.below hb HA7.out.lt)
    have HX8 := Lib.hid (HX7.out.below hb HX7.out.lt)
    have Hb8 := Lib.hid (Hb7.out.trans (hb.mono Hb7.out.size))
    have Hq8 := Lib.hid (Hq7.out.trans (hb.mono Hq7.out.size))
    have Hsi := Lib.hid (Hsi0.out ra rc v8 hInt Hb8.out)
    clear hb hyo hInt n0 n1 n2 n3 nl HYd Hsi0
    go_wp2_with (fail)
    refine Hsi.out.mono ?_
    rintro e9 v9 ⟨rfl, hb⟩
    have HA9 := Lib.hid (HA8.out.below hb HA8.out.lt)
    have HX9 := Lib.hid (HX8.out.below hb HX8.out.lt)
    have Hb9 := Lib.hid (Hb8.out.trans (hb.mono Hb8.out.size))
    have Hq9 := Lib.hid (Hq8.out.trans (hb.mono Hq8.out.size))
    clear hb Hsi
    go_upto_region 13 with fail
    have x0 := HA9.out.cell 0
    have x1 := HA9.out.cell 1
    have x2 := HA9.out.cell 2
    have xl := HA9.out.lt
    simp only [List.getElem?_cons_zero, List.getElem?_cons_succ] at x0 x1 x2
    have m0 := HX9.out.cell 0
    have m1 := HX9.out.cell 1
    have m2 := HX9.out.cell 2
    have m3 := HX9.out.cell 3
    have ml := HX9.out.lt
    simp only [List.getElem?_cons_zero, List.getElem?_cons_succ] at m0 m1 m2 m3
    have hck := HCk.out v9 Hq9.out
    have Hck := Lib.hid hck
    clear hck
    go_wp2_with (fail)
    refine Hck.out.mono ?_
    rintro e9 v10 ⟨rfl, hb⟩
    have HF := Lib.hid (Hb9.out.trans (hb.mono Hb9.out.size))
    clear hb x0 x1 x2 xl m0 m1 m2 m3 ml Hck
    go_wp2_with (fail)
    exact bodyPost_ret (v := .bool true) (by simp [results, Try.results13, go_sem]; try first | rfl | assumption | omega) rfl ⟨rfl, HF.out⟩
end Go.Proofs.Ythogiakfbgehnaa
