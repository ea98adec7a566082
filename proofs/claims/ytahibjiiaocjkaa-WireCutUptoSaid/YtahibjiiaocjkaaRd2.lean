/- What was written is read as what it was, what was cut is short, what is read is written as these very bytes. No program is walked. -/
import Derived.Test.YtahibjiiaocjkaaRd
namespace Go.Proofs.Ytahibjiiaocjkaa
open Go.RowKit

/-- All of it fits what a count and a number can tell. -/
def Fo.ok : Fo → Prop
  | .nil => True
  | .cons h k r => fits h ∧ h.s.size ≤ 2147483647 ∧ k.len ≤ 2147483647 ∧ k.ok ∧ r.ok

theorem empty_of {s : ByteArray} (h : s.toList.isEmpty = true) : s = ByteArray.empty := str_eq (by rw [List.isEmpty_iff.1 h, ByteArray.toList_eq]; rfl)

theorem plain1 {n : Int} {s : ByteArray} {len : Nat} (h : plainB ⟨1, n, s⟩ len = true) : s = ByteArray.empty ∧ len = 0 := by
  unfold plainB at h
  simp at h
  exact ⟨empty_of (by simp [h.1]), h.2⟩
theorem plain2 {n : Int} {s : ByteArray} {len : Nat} (h : plainB ⟨2, n, s⟩ len = true) : n = 0 ∧ len = 0 := by
  unfold plainB at h
  simp at h
  exact h
theorem plain3 {n : Int} {s : ByteArray} {len : Nat} (h : plainB ⟨3, n, s⟩ len = true) : n = 0 ∧ s = ByteArray.empty := by
  unfold plainB at h
  simp at h
  exact ⟨h.1, empty_of (by simp [h.2])⟩

theorem head1 (n : Int) (s : ByteArray) (len : Nat) : headB ⟨1, n, s⟩ len = 1 :: hiB 8 (u64N n) := by unfold headB; rfl
theorem head2 (n : Int) (s : ByteArray) (len : Nat) : headB ⟨2, n, s⟩ len = 2 :: (countB s.size ++ s.data.toList) := by unfold headB; rfl
theorem head3 (n : Int) (s : ByteArray) (len : Nat) : headB ⟨3, n, s⟩ len = 3 :: countB len := by unfold headB; rfl
theorem u64N_lt (n : Int) : u64N n < 18446744073709551616 := by unfold u64N; omega

set_option maxRecDepth 100000 in
theorem item_back {h : Hd} {k : Fo} {d : Nat} (hp : plainB h k.len = true) (hf : fits h) (hs : h.s.size ≤ 2147483647) (hl : k.len ≤ 2147483647)
    (hk : ∀ zs, rdList (rdItem d) k.len (encL (k.pre 1) ++ zs) = .inr (k, (encL (k.pre 1)).length)) (zs : List UInt8) :
    rdItem (d + 1) (headB h k.len ++ (encL (k.pre 1) ++ zs)) = .inr (h, k, (headB h k.len).length + (encL (k.pre 1)).length) := by
  obtain ⟨kk, n, s⟩ := h
  rcases plain_kind hp with e | e | e <;> simp only at e <;> subst e
  · obtain ⟨rfl, hl0⟩ := plain1 hp
    obtain rfl := fo_nil hl0
    rw [head1]
    simp only [encL, Fo.pre, List.map_nil, List.flatten_nil, List.nil_append, List.cons_append, List.length_cons, List.length_nil, hiB_length]
    unfold rdItem
    rw [if_pos rfl, if_neg (by simp [hiB_length]), List.take_append_of_le_length (by rw [hiB_length]; exact Nat.le_refl _), List.take_of_length_le (by rw [hiB_length]; exact Nat.le_refl _), hiV_hiB 8 _ (u64N_lt n), s64_u64N hf]
  · obtain ⟨rfl, hl0⟩ := plain2 hp
    obtain rfl := fo_nil hl0
    rw [head2]
    simp only [encL, Fo.pre, List.map_nil, List.flatten_nil, List.nil_append, List.cons_append, List.length_cons, List.length_nil, List.append_assoc]
    unfold rdItem
    simp only at hs
    rw [if_neg (by decide), if_pos rfl, rdCnt_back s.size _ hs]
    simp only [List.drop_left, List.length_append, data_len]
    rw [if_neg (by omega), List.take_append_of_le_length (by rw [data_len]; exact Nat.le_refl _), List.take_of_length_le (by rw [data_len]; exact Nat.le_refl _)]
    have es : (⟨s.data.toList.toArray⟩ : ByteArray) = s := bytes_eq (by simp)
    rw [es]
    congr 3
    omega
  · obtain ⟨rfl, rfl⟩ := plain3 hp
    rw [head3]
    simp only [List.cons_append, List.length_cons]
    unfold rdItem
    rw [if_neg (by decide), if_neg (by decide), if_pos rfl, rdCnt_back k.len _ hl]
    simp only [List.drop_left, hk zs]
    congr 3
    omega

theorem rd_back : ∀ (f : Fo) (d : Nat) (ys : List UInt8), mayB f = true → f.ok → f.deep ≤ d → rdList (rdItem d) f.len (encL (f.pre 1) ++ ys) = .inr (f, (encL (f.pre 1)).length) := by
  intro f
  induction f with
  | nil => intro d ys _ _ _; rfl
  | cons h k r ihk ihr =>
    intro d ys hm ho hd
    rw [mayB_cons, Bool.and_eq_true, Bool.and_eq_true] at hm
    obtain ⟨o1, o2, o3, o4, o5⟩ := ho
    simp only [Fo.deep] at hd
    cases d with
    | zero => omega
    | succ d =>
      rw [encL_cons, encL_depth k 2 1, List.append_assoc, List.append_assoc]
      simp only [Fo.len]
      rw [rdList, item_back hm.1.1 o1 o2 o3 (fun zs => ihk d zs hm.1.2 o4 (by omega))]
      simp only
      rw [show (headB h k.len ++ (encL (k.pre 1) ++ (encL (r.pre 1) ++ ys))).drop ((headB h k.len).length + (encL (k.pre 1)).length) = encL (r.pre 1) ++ ys from by
        rw [← List.append_assoc, ← List.length_append, List.drop_left]]
      rw [ihr (d + 1) ys hm.2 o5 (by omega)]
      simp only [List.length_append]
      congr 2
      omega

set_option maxRecDepth 100000 in
theorem item_cut {h : Hd} {k : Fo} {d : Nat} (hp : plainB h k.len = true) (hs : h.s.size ≤ 2147483647) (hl : k.len ≤ 2147483647)
    (hk : ∀ j, j < (encL (k.pre 1)).length → rdList (rdItem d) k.len ((encL (k.pre 1)).take j) = .inl 10) {j : Nat} (hj : j < (headB h k.len ++ encL (k.pre 1)).length) :
    rdItem (d + 1) ((headB h k.len ++ encL (k.pre 1)).take j) = .inl 10 := by
  cases j with
  | zero => simp [rdItem]
  | succ j =>
  obtain ⟨kk, n, s⟩ := h
  rcases plain_kind hp with e | e | e <;> simp only at e <;> subst e
  · obtain ⟨rfl, hl0⟩ := plain1 hp
    obtain rfl := fo_nil hl0
    rw [head1] at hj ⊢
    simp only [encL, Fo.pre, List.map_nil, List.flatten_nil, List.append_nil, List.length_cons, hiB_length, List.take_succ_cons] at hj ⊢
    unfold rdItem
    rw [if_pos rfl, if_pos (by rw [List.length_take, hiB_length]; omega)]
  · obtain ⟨rfl, hl0⟩ := plain2 hp
    obtain rfl := fo_nil hl0
    rw [head2] at hj ⊢
    simp only [encL, Fo.pre, List.map_nil, List.flatten_nil, List.append_nil, List.length_cons, List.length_append, data_len, List.take_succ_cons] at hj ⊢
    unfold rdItem
    simp only at hs
    rw [if_neg (by decide), if_pos rfl]
    by_cases hc : j < (countB s.size).length
    · rw [List.take_append_of_le_length (by omega), rdCnt_cut hs hc]
    · rw [List.take_append, List.take_of_length_le (by omega), rdCnt_back s.size _ hs]
      simp only [List.length_append, List.length_take, data_len]
      rw [if_pos (by omega)]
  · obtain ⟨rfl, rfl⟩ := plain3 hp
    rw [head3] at hj ⊢
    simp only [List.cons_append, List.length_cons, List.length_append, List.take_succ_cons] at hj ⊢
    unfold rdItem
    rw [if_neg (by decide), if_neg (by decide), if_pos rfl]
    by_cases hc : j < (countB k.len).length
    · rw [List.take_append_of_le_length (by omega), rdCnt_cut hl hc]
    · rw [List.take_append, List.take_of_length_le (by omega), rdCnt_back k.len _ hl]
      simp only [List.drop_left]
      rw [hk _ (by omega)]

theorem rd_cut : ∀ (f : Fo) (d j : Nat), mayB f = true → f.ok → f.deep ≤ d → j < (encL (f.pre 1)).length → rdList (rdItem d) f.len ((encL (f.pre 1)).take j) = .inl 10 := by
  intro f
  induction f with
  | nil => intro d j _ _ _ hj; simp [encL, Fo.pre] at hj
  | cons h k r ihk ihr =>
    intro d j hm ho hd hj
    rw [mayB_cons, Bool.and_eq_true, Bool.and_eq_true] at hm
    obtain ⟨o1, o2, o3, o4, o5⟩ := ho
    simp only [Fo.deep] at hd
    cases d with
    | zero => omega
    | succ d =>
      rw [encL_cons, encL_depth k 2 1, ← List.append_assoc] at hj ⊢
      simp only [Fo.len]
      rw [rdList]
      by_cases hc : j < (headB h k.len ++ encL (k.pre 1)).length
      · rw [List.take_append_of_le_length (by omega), item_cut hm.1.1 o2 o3 (fun j hj => ihk d j hm.1.2 o4 (by omega) hj) hc]
      · rw [List.take_append, List.take_of_length_le (by omega), List.append_assoc, item_back hm.1.1 o1 o2 o3 (fun zs => rd_back k d zs hm.1.2 o4 (by omega))]
        simp only
        rw [← List.length_append, ← List.append_assoc, List.drop_left, ihr (d + 1) _ hm.2 o5 (by omega) (by rw [List.length_append] at hj; omega)]

/-- What the reading of one item gives. -/
structure Read1 (d : Nat) (xs : List UInt8) (h : Hd) (k : Fo) (n : Nat) : Prop where
  pos : 1 ≤ n
  le : n ≤ xs.length
  enc : headB h k.len ++ encL (k.pre 1) = xs.take n
  plain : plainB h k.len = true
  may : mayB k = true
  deep : k.deep + 1 ≤ d
  wt : h.s.size + 1 + k.wtS ≤ n
structure ReadN (d : Nat) (xs : List UInt8) (c : Nat) (f : Fo) (m : Nat) : Prop where
  len : f.len = c
  le : m ≤ xs.length
  enc : encL (f.pre 1) = xs.take m
  may : mayB f = true
  deep : f.deep ≤ d
  wt : f.wtS ≤ m

theorem take_add_drop (xs : List UInt8) (a b : Nat) : xs.take (a + b) = xs.take a ++ (xs.drop a).take b := by
  rw [List.take_add]

theorem rdList_sound {g : List UInt8 → Sum Int (Hd × Fo × Nat)} {d : Nat} (hg : ∀ xs h k n, g xs = .inr (h, k, n) → Read1 d xs h k n) : ∀ (c : Nat) (xs : List UInt8) (f : Fo) (m : Nat), rdList g c xs = .inr (f, m) → ReadN d xs c f m := by
  intro c
  induction c with
  | zero =>
    intro xs f m h
    simp only [rdList, Sum.inr.injEq, Prod.mk.injEq] at h
    obtain ⟨rfl, rfl⟩ := h
    exact ⟨rfl, by omega, by simp [encL, Fo.pre], rfl, by simp [Fo.deep], by simp [Fo.wtS]⟩
  | succ c ih =>
    intro xs f m h
    rw [rdList] at h
    split at h
    · cases h
    · rename_i hh k n he
      split at h
      · cases h
      · rename_i f' m' hf
        simp only [Sum.inr.injEq, Prod.mk.injEq] at h
        obtain ⟨rfl, rfl⟩ := h
        have h1 := hg _ _ _ _ he
        have h2 := ih _ _ _ hf
        have hl := h2.le
        rw [List.length_drop] at hl
        have := h1.le
        refine ⟨by simp [Fo.len, h2.len], by omega, ?_, ?_, ?_, ?_⟩
        · rw [encL_cons, encL_depth k 2 1, ← List.append_assoc, h1.enc, h2.enc, take_add_drop]
        · rw [mayB_cons, h1.plain, h1.may, h2.may]; rfl
        · have := h1.deep; have := h2.deep; simp only [Fo.deep]; omega
        · have := h1.wt; have := h2.wt; simp only [Fo.wtS]; omega

set_option maxRecDepth 100000 in
theorem rd_sound : ∀ (d : Nat) (xs : List UInt8) (h : Hd) (k : Fo) (n : Nat), rdItem d xs = .inr (h, k, n) → Read1 d xs h k n := by
  intro d
  induction d with
  | zero => intro xs h k n e; cases xs <;> simp [rdItem] at e
  | succ d ih =>
    intro xs h k n e
    cases xs with
    | nil => simp [rdItem] at e
    | cons c r =>
      unfold rdItem at e
      split at e
      · rename_i hc
        subst hc
        split at e
        · cases e
        · rename_i h8
          simp only [Sum.inr.injEq, Prod.mk.injEq] at e
          obtain ⟨rfl, rfl, rfl⟩ := e
          have hl8 : (r.take 8).length = 8 := by rw [List.length_take]; omega
          have hlt : hiV (r.take 8) < 18446744073709551616 := by have := hiV_lt (r.take 8); rw [hl8] at this; exact this
          refine ⟨by omega, by simp; omega, ?_, by simp [plainB, Fo.len, ByteArray.toList_eq], rfl, by simp [Fo.deep], by simp [Fo.wtS]⟩
          rw [head1, u64N_s64 hlt]
          have := hiB_hiV (r.take 8)
          rw [hl8] at this
          rw [this]
          simp [encL, Fo.pre]
      · split at e
        · rename_i hc
          subst hc
          split at e
          · cases e
          · rename_i m i hcnt
            split at e
            · cases e
            · rename_i hroom
              simp only [Sum.inr.injEq, Prod.mk.injEq] at e
              obtain ⟨rfl, rfl, rfl⟩ := e
              obtain ⟨t, ht, h1, h2, h3, h4⟩ := rdCnt_sound _ _ _ _ _ (by omega) hcnt
              rw [Nat.zero_add] at ht
              subst ht
              have hdl : ((r.drop i).take m).length = m := by rw [List.length_take, List.length_drop]; omega
              have hsz : (⟨((r.drop i).take m).toArray⟩ : ByteArray).size = m := by
                show ((r.drop i).take m).toArray.size = m
                rw [List.size_toArray]; exact hdl
              refine ⟨by omega, by simp; omega, ?_, by simp [plainB, Fo.len], rfl, by simp [Fo.deep], by rw [hsz]; simp [Fo.wtS]; omega⟩
              rw [head2, hsz, h4]
              simp only [grpB, if_pos, List.nil_append, encL, Fo.pre, List.map_nil, List.flatten_nil, List.append_nil]
              rw [show 1 + (i + m) = (i + m) + 1 from by omega, List.take_succ_cons, take_add_drop]
        · split at e
          · rename_i hc
            subst hc
            split at e
            · cases e
            · rename_i m i hcnt
              split at e
              · cases e
              · rename_i f t2 hlist
                simp only [Sum.inr.injEq, Prod.mk.injEq] at e
                obtain ⟨rfl, rfl, rfl⟩ := e
                obtain ⟨t, ht, h1, h2, h3, h4⟩ := rdCnt_sound _ _ _ _ _ (by omega) hcnt
                rw [Nat.zero_add] at ht
                subst ht
                have hN := rdList_sound (fun xs h k n e => ih xs h k n e) _ _ _ _ hlist
                have hl := hN.le
                rw [List.length_drop] at hl
                refine ⟨by omega, by simp; omega, ?_, by simp [plainB, ByteArray.toList_eq], hN.may, by have := hN.deep; omega, by have := hN.wt; show 0 + 1 + f.wtS ≤ _; omega⟩
                rw [head3, hN.len, h4, hN.enc]
                simp only [grpB, if_pos, List.nil_append]
                rw [show 1 + (i + t2) = (i + t2) + 1 from by omega, List.take_succ_cons, take_add_drop]
                rfl
          · cases e
end Go.Proofs.Ytahibjiiaocjkaa
