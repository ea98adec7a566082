/- Texts joined: Ve Vf. -/
import Derived.Test.YtngbfjimmdkfeaaPXV3
import Derived.Test.YtngbfjimmdkfeaaPXS2
set_option linter.unusedVariables false
set_option linter.unusedSimpArgs false
namespace Go.Proofs.Ytngbfjimmdkfeaa
open Go.RowKit

/-- What stands between two places. -/
def sub (l : List UInt8) (i j : Nat) : List UInt8 := (l.take j).drop i
theorem sub_len (l : List UInt8) (i j : Nat) (hj : j ≤ l.length) : (sub l i j).length = j - i := by
  unfold sub; rw [List.length_drop, List.length_take, Nat.min_eq_left hj]
theorem sub_cat (l : List UInt8) {i k j : Nat} (h1 : i ≤ k) (h2 : k ≤ j) : sub l i j = sub l i k ++ sub l k j := by
  unfold sub
  have e : l.take j = l.take k ++ (l.take j).drop k := by
    have := (List.take_append_drop k (l.take j)).symm
    rwa [List.take_take, Nat.min_eq_left h2] at this
  by_cases hk : k ≤ l.length
  · conv => lhs; rw [e]
    rw [List.drop_append_of_le_length (by rw [List.length_take]; omega)]
  · have e2 : l.take j = l := List.take_of_length_le (by omega)
    have e3 : l.take k = l := List.take_of_length_le (by omega)
    rw [e2, e3, List.drop_eq_nil_of_le (by omega : l.length ≤ k), List.append_nil]
theorem sub_split (l : List UInt8) {i j : Nat} {u v : List UInt8} (hij : i ≤ j) (hj : j ≤ l.length) (h : sub l i j = u ++ v) : i ≤ i + u.length ∧ i + u.length ≤ j ∧ sub l i (i + u.length) = u ∧ sub l (i + u.length) j = v := by
  have hl := sub_len l i j hj
  rw [h, List.length_append] at hl
  have h1 : i + u.length ≤ j := by omega
  have hc := sub_cat l (Nat.le_add_right i u.length) h1
  rw [h] at hc
  have hlu := sub_len l i (i + u.length) (by omega)
  obtain ⟨e1, e2⟩ := List.append_inj hc (by rw [hlu]; omega)
  exact ⟨Nat.le_add_right _ _, h1, e1.symm, e2.symm⟩
/-- A table tells just what L has. -/
def PT (l : List UInt8) (t : Nat → Nat → Bool) (L : List UInt8 → Prop) : Prop := ∀ i j, i ≤ l.length → j ≤ l.length → (t i j = true ↔ i ≤ j ∧ L (sub l i j))
theorem PT.congr {l : List UInt8} {t : Nat → Nat → Bool} {L M : List UInt8 → Prop} (h : PT l t L) (he : ∀ s, M s ↔ L s) : PT l t M := fun i j hi hj => by rw [h i j hi hj, he]
theorem PT.then {l : List UInt8} {a b : Nat → Nat → Bool} {L M : List UInt8 → Prop} (ha : PT l a L) (hb : PT l b M) : PT l (thenT l.length a b) (fun s => ∃ u v, s = u ++ v ∧ L u ∧ M v) := by
  intro i j hi hj
  unfold thenT thenK
  rw [List.any_eq_true]
  constructor
  · rintro ⟨k, hk, h⟩
    simp only [Bool.and_eq_true, decide_eq_true_eq] at h
    obtain ⟨⟨⟨h1, h2⟩, h3⟩, h4⟩ := h
    exact ⟨Nat.le_trans h1 h2, sub l i k, sub l k j, sub_cat l h1 h2, ((ha i k hi (by omega)).1 h3).2, ((hb k j (by omega) hj).1 h4).2⟩
  · rintro ⟨hij, u, v, e, hu, hv⟩
    obtain ⟨h1, h2, e1, e2⟩ := sub_split l hij hj e
    refine ⟨i + u.length, List.mem_range.2 (by omega), ?_⟩
    simp only [Bool.and_eq_true, decide_eq_true_eq]
    exact ⟨⟨⟨h1, h2⟩, (ha i _ hi (by omega)).2 ⟨h1, by rw [e1]; exact hu⟩⟩, (hb _ j (by omega) hj).2 ⟨h2, by rw [e2]; exact hv⟩⟩
theorem PT.or {l : List UInt8} {a b : Nat → Nat → Bool} {L M : List UInt8 → Prop} (ha : PT l a L) (hb : PT l b M) : PT l (orT a b) (fun s => L s ∨ M s) := by
  intro i j hi hj
  unfold orT
  rw [Bool.or_eq_true, ha i j hi hj, hb i j hi hj]
  exact ⟨fun h => h.elim (fun h => ⟨h.1, .inl h.2⟩) (fun h => ⟨h.1, .inr h.2⟩), fun h => h.2.imp (fun k => ⟨h.1, k⟩) (fun k => ⟨h.1, k⟩)⟩
theorem PT.none (l : List UInt8) : PT l (fun i j => decide (i = j)) (fun s => s = []) := by
  intro i j hi hj
  rw [decide_eq_true_eq]
  have := sub_len l i j hj
  constructor
  · rintro rfl; exact ⟨Nat.le_refl _, List.length_eq_zero_iff.1 (by omega)⟩
  · rintro ⟨h, e⟩; rw [e] at this; simp at this; omega
theorem PT.false (l : List UInt8) : PT l (fun _ _ => false) (fun _ => False) := fun i j _ _ => ⟨fun h => (by cases h), fun h => h.2.elim⟩
/-- The places of a Set. -/
def setB (l : List UInt8) (q : List Sp) : Nat → Nat → Bool := fun i j => decide (j = i + 1) && (match l[i]? with | some c => inSp q c.toNat | .none => Bool.false)
theorem PT.set (l : List UInt8) (q : List Sp) : PT l (setB l q) (fun s => ∃ c : UInt8, s = [c] ∧ inSp q c.toNat = true) := by
  intro i j hi hj
  unfold setB
  rw [Bool.and_eq_true, decide_eq_true_eq]
  have hl := sub_len l i j hj
  have hone : ∀ (h : i < l.length), sub l i (i + 1) = [l[i]] := fun h => by
    unfold sub
    rw [List.take_succ_eq_append_getElem h, List.drop_append_of_le_length (by rw [List.length_take]; omega), List.drop_eq_nil_of_le (by rw [List.length_take]; omega)]
    rfl
  constructor
  · rintro ⟨rfl, h⟩
    have hlt : i < l.length := by omega
    rw [List.getElem?_eq_getElem hlt] at h
    exact ⟨by omega, _, hone hlt, h⟩
  · rintro ⟨hij, c, e, hc⟩
    rw [e] at hl
    simp at hl
    obtain rfl : j = i + 1 := by omega
    have hlt : i < l.length := by omega
    rw [hone hlt] at e
    refine ⟨rfl, ?_⟩
    rw [List.getElem?_eq_getElem hlt]
    simp only [List.cons.injEq, and_true] at e
    simp only [e]
    exact hc
theorem wS_sound {l : List UInt8} {a : Nat → Nat → Bool} {L : List UInt8 → Prop} (ha : PT l a L) : ∀ K, K ≤ l.length + 1 → ∀ i j, i ≤ l.length → j ≤ l.length → wS a K i j = true → i ≤ j ∧ Star L (sub l i j) := by
  intro K
  induction K with
  | zero =>
    intro _ i j hi hj h
    have h : (a i j || decide (i = j)) = true := h
    rw [Bool.or_eq_true, decide_eq_true_eq] at h
    rcases h with h | rfl
    · obtain ⟨h1, h2⟩ := (ha i j hi hj).1 h
      have := Star.app h2 .nil
      rw [List.append_nil] at this
      exact ⟨h1, this⟩
    · exact ⟨Nat.le_refl _, by rw [List.length_eq_zero_iff.1 (show (sub l i i).length = 0 by rw [sub_len l i i hj]; omega)]; exact .nil⟩
  | succ K ih =>
    intro hK i j hi hj h
    have h : (wS a K i j || (wS a K i K && wS a K K j)) = true := h
    rw [Bool.or_eq_true, Bool.and_eq_true] at h
    rcases h with h | ⟨h1, h2⟩
    · exact ih (by omega) i j hi hj h
    · obtain ⟨x1, x2⟩ := ih (by omega) i K hi (by omega) h1
      obtain ⟨y1, y2⟩ := ih (by omega) K j (by omega) hj h2
      exact ⟨Nat.le_trans x1 y1, by rw [sub_cat l x1 y1]; exact x2.app' y2⟩
theorem wS_up {a : Nat → Nat → Bool} {i j : Nat} : ∀ K d, wS a K i j = true → wS a (K + d) i j = true := by
  intro K d h
  induction d with
  | zero => exact h
  | succ d ih => show (wS a (K + d) i j || _) = true; rw [ih]; rfl
/-- Behind the round of k, what goes to k and on from it goes. -/
theorem wS_via {l : List UInt8} {a : Nat → Nat → Bool} {L : List UInt8 → Prop} (ha : PT l a L) {k : Nat} (hk : k ≤ l.length) : ∀ d, k + 1 + d ≤ l.length + 1 → ∀ i j, i ≤ l.length → j ≤ l.length → wS a (k + 1 + d) i k = true → wS a (k + 1 + d) k j = true → wS a (k + 1 + d) i j = true := by
  intro d
  induction d with
  | zero =>
    intro _ i j _ _ h1 h2
    have h1 : (wS a k i k || (wS a k i k && wS a k k k)) = true := h1
    have h2 : (wS a k k j || (wS a k k k && wS a k k j)) = true := h2
    have e1 : wS a k i k = true := by cases h : wS a k i k <;> rw [h] at h1 <;> simp at h1 ⊢
    have e2 : wS a k k j = true := by cases h : wS a k k j <;> rw [h] at h2 <;> simp at h2 ⊢
    show (wS a k i j || (wS a k i k && wS a k k j)) = true
    rw [e1, e2]; simp
  | succ d ih =>
    intro hd i j hi hj h1 h2
    have h1 : (wS a (k + 1 + d) i k || (wS a (k + 1 + d) i (k + 1 + d) && wS a (k + 1 + d) (k + 1 + d) k)) = true := h1
    have h2 : (wS a (k + 1 + d) k j || (wS a (k + 1 + d) k (k + 1 + d) && wS a (k + 1 + d) (k + 1 + d) j)) = true := h2
    have e1 : wS a (k + 1 + d) i k = true := by
      rw [Bool.or_eq_true, Bool.and_eq_true] at h1
      rcases h1 with h | ⟨_, h⟩
      · exact h
      · have := (wS_sound ha (k + 1 + d) (by omega) (k + 1 + d) k (by omega) hk h).1
        omega
    show (wS a (k + 1 + d) i j || (wS a (k + 1 + d) i (k + 1 + d) && wS a (k + 1 + d) (k + 1 + d) j)) = true
    rw [Bool.or_eq_true, Bool.and_eq_true] at h2 ⊢
    rcases h2 with h | ⟨h3, h4⟩
    · exact .inl (ih (by omega) i j hi hj e1 h)
    · exact .inr ⟨ih (by omega) i (k + 1 + d) hi (by omega) e1 h3, h4⟩
theorem wS_all {a : Nat → Nat → Bool} {i j : Nat} (K : Nat) (h : (a i j || decide (i = j)) = true) : wS a K i j = true := by
  have := wS_up (a := a) 0 K h
  rwa [Nat.zero_add] at this
theorem PT.often {l : List UInt8} {a : Nat → Nat → Bool} {L : List UInt8 → Prop} (ha : PT l a L) : PT l (oftenT l.length a) (Star L) := by
  intro i j hi hj
  constructor
  · intro h; exact wS_sound ha (l.length + 1) (Nat.le_refl _) i j hi hj h
  intro hh
  obtain ⟨hij, h⟩ := hh
  generalize hs : sub l i j = s at h
  induction h generalizing i with
  | nil =>
    have := sub_len l i j hj
    rw [hs] at this
    simp at this
    obtain rfl : i = j := by omega
    exact wS_all _ (by simp)
  | app hu _ ih =>
    rename_i u v _
    obtain ⟨h1, h2, e1, e2⟩ := sub_split l hij hj hs
    have h3 := ih (i + u.length) (by omega) h2 e2
    have h4 : wS a (l.length + 1) i (i + u.length) = true := wS_all _ (by rw [(ha i _ hi (by omega)).2 ⟨h1, by rw [e1]; exact hu⟩]; rfl)
    have hv := wS_via ha (k := i + u.length) (by omega) (l.length - (i + u.length)) (by omega) i j hi hj
    rw [show i + u.length + 1 + (l.length - (i + u.length)) = l.length + 1 by omega] at hv
    exact hv h4 h3
end Go.Proofs.Ytngbfjimmdkfeaa

namespace Go.Proofs.Ytngbfjimmdkfeaa
open Go.RowKit Go.Shelf

attribute [local go_sem] Oper.semAt_some

theorem blk_drew' {w : World} {b : Nat} {e : TypeId} {cs : List Value} (h : Blk w b e cs) : Blk w.drew b e cs := h
theorem PT.ext {l : List UInt8} {t t' : Nat → Nat → Bool} {L : List UInt8 → Prop} (h : PT l t L) (he : ∀ i j, i ≤ l.length → j ≤ l.length → t' i j = t i j) : PT l t' L := fun i j hi hj => by rw [he i j hi hj]; exact h i j hi hj

set_option maxRecDepth 100000 in
set_option maxHeartbeats 1000000 in
theorem pl_empty (S sc : Nat) (sa : Option Addr) (L cap : Nat) (a : Option Addr) (s : ByteArray) (w : World) (hn : s.size ≤ 100) :
    Calls Try.prog 48 #[.agg #[.int .i64 1, .slice sa S sc, .slice a L cap], .string s] w fun e w' => (∃ g t, w.heap.size ≤ g ∧ e = .returned (tabV s.size g) ∧ Tab w' s.size g t ∧ PT s.data.toList t (fun s => s = [])) ∧ Below w.heap.size w w' := by
  have hnI : (s.size : Int) ≤ 100 := by omega
  have hnI0 : (0 : Int) ≤ (s.size : Int) := by omega
  have hA0 := Blk.new w 45 #[.int .i64 1, .slice sa S sc, .slice a L cap]
  have hb0 : Below w.heap.size w (w.alloc (.cells #[.int .i64 1, .slice sa S sc, .slice a L cap] 45)) := (Below.refl _ w).alloc (Nat.le_refl _) _
  go_enter Try.func48, Try.ntmps48
  go_wp2_with (fail)
  refine (table_any s.size hn _).mono ?_
  rintro e w1 ⟨rfl, hT1, hb1⟩
  have hA1 := hA0.below hb1 hA0.lt
  have hb01 := hb0.trans (hb1.mono hb0.size)
  obtain ⟨g1, hg1⟩ : ∃ g, Hid ((w.alloc (.cells #[.int .i64 1, .slice sa S sc, .slice a L cap] 45)).heap.size = g) := ⟨_, Lib.hid rfl⟩
  have hgw1 : w.heap.size ≤ g1 := by rw [← hg1.out]; simp
  rw [hg1.out] at hT1 ⊢
  have x0 := hA1.cell 0
  have x1 := hA1.cell 1
  have x2 := hA1.cell 2
  have xl := hA1.lt
  simp only [List.getElem?_cons_zero, List.getElem?_cons_succ] at x0 x1 x2
  clear hA0 hb0 hb1
  go_wp2_with (fail)
  refine (none_any s.size hn w1).mono ?_
  rintro e w2 ⟨rfl, hT2, hb2⟩
  go_wp2_with (fail)
  exact bodyPost_ret (v := tabV s.size w1.heap.size) (by simp [results, Try.results48, go_sem]; try rfl) rfl ⟨⟨w1.heap.size, _, hb01.size, rfl, hT2, PT.none _⟩, hb01.trans (hb2.mono hb01.size)⟩
set_option maxRecDepth 100000 in
set_option maxHeartbeats 1000000 in
theorem pl_set (q : List Sp) (sc : Nat) (sa : Option Addr) (L cap : Nat) (a : Option Addr) (s : ByteArray) (w : World) (hn : s.size ≤ 100) (hq : Sps w sa sc q) :
    Calls Try.prog 48 #[.agg #[.int .i64 2, .slice sa q.length sc, .slice a L cap], .string s] w fun e w' => (∃ g t, w.heap.size ≤ g ∧ e = .returned (tabV s.size g) ∧ Tab w' s.size g t ∧ PT s.data.toList t (fun s => ∃ c : UInt8, s = [c] ∧ inSp q c.toNat = true)) ∧ Below w.heap.size w w' := by
  have hnI : (s.size : Int) ≤ 100 := by omega
  have hnI0 : (0 : Int) ≤ (s.size : Int) := by omega
  have hA0 := Blk.new w 45 #[.int .i64 2, .slice sa q.length sc, .slice a L cap]
  have hb0 : Below w.heap.size w (w.alloc (.cells #[.int .i64 2, .slice sa q.length sc, .slice a L cap] 45)) := (Below.refl _ w).alloc (Nat.le_refl _) _
  have hqi := hq
  go_enter Try.func48, Try.ntmps48
  go_wp2_with (fail)
  refine (table_any s.size hn _).mono ?_
  rintro e w1 ⟨rfl, hT1, hb1⟩
  have hA1 := hA0.below hb1 hA0.lt
  have hb01 := hb0.trans (hb1.mono hb0.size)
  obtain ⟨g1, hg1⟩ : ∃ g, Hid ((w.alloc (.cells #[.int .i64 2, .slice sa q.length sc, .slice a L cap] 45)).heap.size = g) := ⟨_, Lib.hid rfl⟩
  have hgw1 : w.heap.size ≤ g1 := by rw [← hg1.out]; simp
  rw [hg1.out] at hT1 ⊢
  have x0 := hA1.cell 0
  have x1 := hA1.cell 1
  have x2 := hA1.cell 2
  have xl := hA1.lt
  simp only [List.getElem?_cons_zero, List.getElem?_cons_succ] at x0 x1 x2
  clear hA0 hb0 hb1
  have hI : ∃ i : Nat, i ≤ s.size ∧ Value.int .i64 0 = .int .i64 (i : Int) ∧ Tab w1 s.size g1 (fun x y => setB s.data.toList q x y && decide (x < i)) ∧ Below w1.heap.size w1 w1 := ⟨0, Nat.zero_le _, rfl, hT1.congr (fun x y _ _ => by simp), Below.refl _ _⟩
  have hg1l : w.heap.size < g1 := by rw [← hg1.out]; simp
  clear hT1
  obtain ⟨Q, hQ⟩ : ∃ Q, Hid (q.length = Q) := ⟨_, Lib.hid rfl⟩
  rw [hQ.out] at hA1 x1 ⊢
  go_wp2_with (fail)
  go_loopw [6] (fun iv wr => ∃ i : Nat, i ≤ s.size ∧ iv = .int .i64 (i : Int) ∧ Tab wr s.size g1 (fun x y => setB s.data.toList q x y && decide (x < i)) ∧ Blk wr w.heap.size 45 [.int .i64 2, .slice sa Q sc, .slice a L cap] ∧ Below w.heap.size w wr) (fun iv _ => s.size - (intOf iv).toNat)
  case atStart => obtain ⟨i, h1, h2, h3, _⟩ := hI; exact ⟨i, h1, h2, h3, hA1, hb01⟩
  case round =>
    obtain ⟨i, hi, rfl, hT, hAr, hbr⟩ := hrel
    clear hI
    by_cases hit : i < s.size
    · have hiI : (i : Int) < (s.size : Int) := by omega
      have hiI0 : (0 : Int) ≤ (i : Int) := by omega
      have hiI2 : (i : Int) + 1 < (s.size : Int) + 1 := by omega
      have hiI3 : (i : Int) < (s.size : Int) + 1 := by omega
      have hiI4 : (0 : Int) ≤ (i : Int) + 1 := by omega
      have hiw : IntKind.i64.wrap ((i : Int) + 1) = (i : Int) + 1 := by rw [IntKind.wrap_i64]; omega
      have hiw2 : IntKind.i64.wrap (i : Int) = (i : Int) := by rw [IntKind.wrap_i64]; omega
      obtain ⟨c, hc⟩ : ∃ c, Hid (s[i] = c) := ⟨_, Lib.hid rfl⟩
      have hc' := hc.out
      obtain ⟨V, hV⟩ : ∃ b, Hid (inSp q c.toNat = b) := ⟨_, Lib.hid rfl⟩
      have hAr := blk_drew' hAr
      have hin : ∀ W : World, (W.cell? ⟨g1, i, none⟩ = some (.slice (some ⟨g1 + 1 + i, 0, none⟩) (s.size + 1) (s.size + 1)) ∧ W.cell? ⟨w.heap.size, 1, none⟩ = some (.slice sa Q sc)) → Calls Try.prog 60 #[.slice sa Q sc, .int .u8 (c.toNat : Int)] wr.drew fun e w' => e = .returned (.bool V) ∧ Below wr.drew.heap.size wr.drew w' := fun W _ => by
        have := in_any sa sc q c.toNat c.toNat_lt wr.drew ((hqi.grown hbr).grown (Below.refl _ wr).drew)
        rw [hQ.out, hV.out] at this
        exact this
      go_wp2_with (fail)
      refine wp_region_held_drew (S := fun w' => (w'.cell? ⟨g1, i, none⟩ = some (.slice (some ⟨g1 + 1 + i, 0, none⟩) (s.size + 1) (s.size + 1)) ∧ w'.cell? ⟨w.heap.size, 1, none⟩ = some (.slice sa Q sc))) (by kernel_rfl) ?_ (fun hHeld => ?_)
      · exact ⟨hT.drew.outAt (by omega), hAr.cell 1⟩
      refine wpAnyH_take (i := 0) (v := ?_) (vatL vatZ) (by kernel_rfl) (by kernel_rfl) (by kernel_rfl) (fun _ _ _ h => h) (Or.inl ⟨by rfl, ?_⟩) (by assumption) ?_
      rotate_left
      · intro w hSw
        try dsimp only at hSw
        go_simp
        all_goals with_reducible rfl
      try simp only [Act.put, List.setIfInBounds_toArray, List.set_cons_zero, List.set_cons_succ]
      refine wpAnyH_take (i := 1) (v := ?_) (vatL (vatS vatZ)) (by kernel_rfl) (by kernel_rfl) (by kernel_rfl) (fun _ _ _ h => h) (Or.inl ⟨by rfl, ?_⟩) (by assumption) ?_
      rotate_left
      · intro w hSw
        try dsimp only at hSw
        go_simp
        all_goals with_reducible rfl
      try simp only [Act.put, List.setIfInBounds_toArray, List.set_cons_zero, List.set_cons_succ]
      refine wpAnyH_take (i := 2) (v := ?_) (vatL (vatS (vatS vatZ))) (by kernel_rfl) (by kernel_rfl) (by kernel_rfl) (fun _ _ _ h => h) (Or.inl ⟨by rfl, ?_⟩) (by assumption) ?_
      rotate_left
      · intro w hSw
        try dsimp only at hSw
        go_simp
        all_goals with_reducible rfl
      try simp only [Act.put, List.setIfInBounds_toArray, List.set_cons_zero, List.set_cons_succ]
      refine wpAnyH_take (i := 3) (v := ?_) (vatL (vatS (vatS (vatS vatZ)))) (by kernel_rfl) (by kernel_rfl) (by kernel_rfl) (fun _ _ _ h => h) (Or.inl ⟨by rfl, ?_⟩) (by assumption) ?_
      rotate_left
      · intro w hSw
        try dsimp only at hSw
        go_simp
        all_goals with_reducible rfl
      try simp only [Act.put, List.setIfInBounds_toArray, List.set_cons_zero, List.set_cons_succ]
      refine wpAnyH_take (i := 4) (v := ?_) (vatL (vatS (vatS (vatS (vatS vatZ))))) (by kernel_rfl) (by kernel_rfl) (by kernel_rfl) (fun _ _ _ h => h) (Or.inl ⟨by rfl, ?_⟩) (by assumption) ?_
      rotate_left
      · intro w hSw
        try dsimp only at hSw
        go_simp
        all_goals with_reducible rfl
      try simp only [Act.put, List.setIfInBounds_toArray, List.set_cons_zero, List.set_cons_succ]
      refine wpAnyH_take (i := 5) (v := ?_) (vatL (vatS (vatS (vatS (vatS (vatS vatZ)))))) (by kernel_rfl) (by kernel_rfl) (by kernel_rfl) (fun _ _ _ h => h) (Or.inl ⟨by rfl, ?_⟩) (by assumption) ?_
      rotate_left
      · intro w hSw
        try dsimp only at hSw
        go_simp
        all_goals with_reducible rfl
      try simp only [Act.put, List.setIfInBounds_toArray, List.set_cons_zero, List.set_cons_succ]
      refine wpAnyH_take (i := 6) (v := ?_) (vatL (vatS (vatS (vatS (vatS (vatS (vatS vatZ))))))) (by kernel_rfl) (by kernel_rfl) (by kernel_rfl) (fun _ _ _ h => h) (Or.inl ⟨by rfl, ?_⟩) (by assumption) ?_
      rotate_left
      · intro w hSw
        try dsimp only at hSw
        go_simp
        all_goals with_reducible rfl
      try simp only [Act.put, List.setIfInBounds_toArray, List.set_cons_zero, List.set_cons_succ]
      refine wpAnyH_take (i := 7) (v := ?_) (vatL (vatS (vatS (vatS (vatS (vatS (vatS (vatS vatZ)))))))) (by kernel_rfl) (by kernel_rfl) (by kernel_rfl) (fun _ _ _ h => h) (Or.inl ⟨by rfl, ?_⟩) (by assumption) ?_
      rotate_left
      · intro w hSw
        try dsimp only at hSw
        go_simp
        all_goals with_reducible rfl
      try simp only [Act.put, List.setIfInBounds_toArray, List.set_cons_zero, List.set_cons_succ]
      refine wpAnyH_take (i := 8) (v := ?_) (vatL (vatS (vatS (vatS (vatS (vatS (vatS (vatS (vatS vatZ))))))))) (by kernel_rfl) (by kernel_rfl) (by kernel_rfl) (fun _ _ _ h => h) (Or.inl ⟨by rfl, ?_⟩) (by assumption) ?_
      rotate_left
      · intro w hSw
        try dsimp only at hSw
        go_simp
        all_goals with_reducible rfl
      try simp only [Act.put, List.setIfInBounds_toArray, List.set_cons_zero, List.set_cons_succ]
      refine wpAnyH_take (i := 9) (v := ?_) (vatL (vatS (vatS (vatS (vatS (vatS (vatS (vatS (vatS (vatS vatZ)))))))))) (by kernel_rfl) (by kernel_rfl) (by kernel_rfl) (fun _ _ _ h => h) (Or.inl ⟨by rfl, ?_⟩) (by assumption) ?_
      rotate_left
      · intro w hSw
        try dsimp only at hSw
        go_simp
        all_goals with_reducible rfl
      try simp only [Act.put, List.setIfInBounds_toArray, List.set_cons_zero, List.set_cons_succ]
      refine wpAnyH_take (i := 10) (v := ?_) (vatL (vatS (vatS (vatS (vatS (vatS (vatS (vatS (vatS (vatS (vatS vatZ))))))))))) (by kernel_rfl) (by kernel_rfl) (by kernel_rfl) (fun _ _ _ h => h) (Or.inl ⟨by rfl, ?_⟩) (by assumption) ?_
      rotate_left
      · intro w hSw
        try dsimp only at hSw
        go_simp
        all_goals with_reducible rfl
      try simp only [Act.put, List.setIfInBounds_toArray, List.set_cons_zero, List.set_cons_succ]
      refine wpAnyH_ready (rs := [11]) (by kernel_rfl) (by simp) ?_
      refine AllReadyH.cons (vatL (vatS (vatS (vatS (vatS (vatS (vatS (vatS (vatS (vatS (vatS (vatS vatZ)))))))))))) (fun K hK => ?_) AllReadyH.nil
      go_simp
      go_at_call 60
      (with_reducible refine (hin _ (by assumption)).mono ?_)
      rintro e w6 ⟨rfl, hb6⟩
      have hT6 := hT.drew.below hb6 hT.drew.lt
      have hA6 := hAr.below hb6 hAr.lt
      have f6 := (hT6.row i (by omega)).frozen (i + 1)
      have l6 := (hT6.row i (by omega)).lt
      have c6 := hT6.rowAt (i := i) (j := i + 1) (by omega) (by omega)
      refine hK.out _ _ ?_ (fun hHeld => ?_)
      · exact ⟨hT6.outAt (by omega), hA6.cell 1⟩
      clear hK K
      try simp only [Act.put, List.setIfInBounds_toArray, List.set_cons_zero, List.set_cons_succ]
      refine wpAnyH_take (i := 12) (v := ?_) (vatL (vatS (vatS (vatS (vatS (vatS (vatS (vatS (vatS (vatS (vatS (vatS (vatS vatZ))))))))))))) (by kernel_rfl) (by kernel_rfl) (by kernel_rfl) (fun _ _ _ h => h) (Or.inl ⟨by rfl, ?_⟩) (by assumption) ?_
      rotate_left
      · intro w hSw
        try dsimp only at hSw
        go_simp
        all_goals with_reducible rfl
      try simp only [Act.put, List.setIfInBounds_toArray, List.set_cons_zero, List.set_cons_succ]
      refine wpAnyH_ready (rs := [13]) (by kernel_rfl) (by simp) ?_
      refine AllReadyH.cons (vatL (vatS (vatS (vatS (vatS (vatS (vatS (vatS (vatS (vatS (vatS (vatS (vatS (vatS vatZ)))))))))))))) (fun K hK => ?_) AllReadyH.nil
      go_simp
      refine hK.out _ _ ?_ (fun hHeld => ?_)
      · exact ⟨(hT6.set (j := i + 1) (by omega) V).outAt (by omega), (hA6.setOther (b' := g1 + 1 + i) (j := i + 1) (by omega) (.bool V)).cell 1⟩
      clear hK K
      try simp only [Act.put, List.setIfInBounds_toArray, List.set_cons_zero, List.set_cons_succ]
      refine wpAnyH_done (by kernel_rfl) ?_ _
      go_wp2_with (fail)
      refine ⟨⟨i + 1, by omega, by simp, (hT6.set (j := i + 1) (by omega) V).congr (fun x y hx hy => ?_), hA6.setOther (b' := g1 + 1 + i) (j := i + 1) (by omega) (.bool V), (hbr.drew.trans (hb6.mono (by have := hbr.size; exact this))).setCell (p := ⟨g1 + 1 + i, i + 1, none⟩) (by show w.heap.size ≤ g1 + 1 + i; omega) _⟩, by simp [intOf]; omega⟩
      unfold upd
      by_cases h1 : x = i ∧ y = i + 1
      · rw [if_pos h1, h1.1, h1.2]
        unfold setB
        rw [decide_eq_true rfl, decide_eq_true (Nat.lt_succ_self i), Bool.true_and, Bool.and_true, List.getElem?_eq_getElem (by rw [dlen]; exact hit)]
        show inSp q (s.data.toList[i]'(by rw [dlen]; exact hit)).toNat = V
        rw [← hV.out, ← hc.out]
        rfl
      · rw [if_neg h1]
        unfold setB
        by_cases h2 : y = x + 1
        · rw [show decide (x < i + 1) = decide (x < i) from decide_eq_decide.2 (by omega)]
        · simp [h2]
    · obtain rfl : i = s.size := by omega
      have hiI : ¬ (s.size : Int) < (s.size : Int) := by omega
      go_wp2_with (fail)
      exact bodyPost_ret (v := tabV s.size g1) (by simp [results, Try.results48, go_sem]; try rfl) rfl ⟨⟨g1, hgw1, rfl, _, hT, (PT.set s.data.toList q).ext (fun x y hx hy => by
        rw [dlen] at hx hy
        unfold setB
        by_cases h1 : y = x + 1
        · rw [decide_eq_true (by omega : x < s.size), Bool.and_true]
        · rw [decide_eq_false h1, Bool.false_and, Bool.false_and])⟩, hbr⟩
end Go.Proofs.Ytngbfjimmdkfeaa

