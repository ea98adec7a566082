/- Layer 7: blanks and remarks ahead and behind; a text twice. -/
import Derived.Test.YtoaabfdilhbajaaYb
namespace Go.Proofs.Ytoaabfdilhbajaa
open Go.RowKit Go.Shelf

/-- The words of a list of bytes that begins at a place, where it begins with one. -/
def wL : Nat → Nat → List UInt8 → List (Nat × ByteArray)
  | 0, _, _ => []
  | _ + 1, _, [] => []
  | n + 1, k, c :: r => (k, ⟨((c :: r).take (wrdL (c :: r))).toArray⟩) :: wL n (k + wrdL (c :: r) + blkL false ((c :: r).drop (wrdL (c :: r)))) (((c :: r).drop (wrdL (c :: r))).drop (blkL false ((c :: r).drop (wrdL (c :: r)))))
theorem wL_nil : ∀ n k, wL n k [] = []
  | 0, _ => rfl
  | _ + 1, _ => rfl
theorem wL_enough : ∀ (n m k : Nat) (t : List UInt8), t.length ≤ n → t.length ≤ m → wL n k t = wL m k t
  | n, m, k, [], _, _ => by rw [wL_nil, wL_nil]
  | 0, _, _, c :: r, h, _ => by simp at h
  | _ + 1, 0, _, c :: r, _, h => by simp at h
  | n + 1, m + 1, k, c :: r, h1, h2 => by
    rw [wL, wL]
    have hp := wrdL_pos c r
    have hl : (((c :: r).drop (wrdL (c :: r))).drop (blkL false ((c :: r).drop (wrdL (c :: r))))).length < (c :: r).length := by
      rw [List.length_drop, List.length_drop]
      simp only [List.length_cons]; omega
    rw [wL_enough n m _ _ (by omega) (by omega)]
theorem wrdsF_wL (s : ByteArray) : ∀ (n k : Nat), wrdsF n s k = wL n k (s.data.toList.drop k)
  | 0, k => rfl
  | n + 1, k => by
    rw [wrdsF]
    by_cases hk : k < s.size
    · have hkl : k < s.data.toList.length := by rw [dlen]; exact hk
      rw [if_pos hk, wrdsF_wL s n]
      obtain ⟨c, r, hcr⟩ : ∃ c r, s.data.toList.drop k = c :: r := ⟨_, _, List.drop_eq_getElem_cons hkl⟩
      have hx : s.extract k (k + wrdL (c :: r)) = ⟨((c :: r).take (wrdL (c :: r))).toArray⟩ := by
        apply ByteArray.ext
        apply Array.ext'
        rw [ByteArray.data_extract, Array.toList_extract]
        simp only [List.extract, hcr, Nat.add_sub_cancel_left]
      have h1 : s.data.toList.drop (k + wrdL (c :: r)) = (c :: r).drop (wrdL (c :: r)) := by rw [← List.drop_drop, hcr]
      rw [hcr, wL, hx, h1]
      congr 2
      rw [← List.drop_drop, h1]
    · rw [if_neg hk, List.drop_eq_nil_of_le (by rw [dlen]; omega), wL_nil]
/-- All words of a list of bytes that begins at a place. -/
def allW (k : Nat) (l : List UInt8) : List (Nat × ByteArray) := wL l.length (k + blkL false l) (l.drop (blkL false l))
theorem words_all (s : ByteArray) : wordsP s = allW 0 s.data.toList := by
  unfold wordsP allW
  rw [wrdsF_wL, Nat.zero_add, dlen]
def shW (d : Nat) (x : Nat × ByteArray) : Nat × ByteArray := (x.1 + d, x.2)
theorem wL_shift (d : Nat) : ∀ (n k : Nat) (t : List UInt8), wL n (k + d) t = (wL n k t).map (shW d)
  | 0, _, _ => rfl
  | _ + 1, _, [] => rfl
  | n + 1, k, c :: r => by
    rw [wL, wL, List.map_cons, ← wL_shift d n]
    congr 2
    omega
theorem allW_shift (d k : Nat) (l : List UInt8) : allW (k + d) l = (allW k l).map (shW d) := by
  unfold allW
  rw [← wL_shift]
  congr 1; omega
theorem blk_app (v : List UInt8) : ∀ (b : Bool) (t : List UInt8), blkL b (t ++ 10 :: v) = if blkL b t < t.length then blkL b t else t.length + 1 + blkL false v
  | true, [] => by simp [blkL]
  | false, [] => by simp [blkL]
  | false, c :: r => by
    have h1 := blk_app v false r
    have h2 := blk_app v true r
    rw [List.cons_append, blkL, blkL]
    simp only [List.length_cons]
    split
    · by_cases hx : blkL false r < r.length
      · rw [h1, if_pos hx, if_pos (by omega)]
      · rw [h1, if_neg hx, if_neg (by omega)]; omega
    · split
      · by_cases hx : blkL true r < r.length
        · rw [h2, if_pos hx, if_pos (by omega)]
        · rw [h2, if_neg hx, if_neg (by omega)]; omega
      · rw [if_pos (by omega)]
  | true, c :: r => by
    have h1 := blk_app v false r
    have h2 := blk_app v true r
    rw [List.cons_append, blkL, blkL]
    simp only [List.length_cons]
    split
    · by_cases hx : blkL false r < r.length
      · rw [h1, if_pos hx, if_pos (by omega)]
      · rw [h1, if_neg hx, if_neg (by omega)]; omega
    · by_cases hx : blkL true r < r.length
      · rw [h2, if_pos hx, if_pos (by omega)]
      · rw [h2, if_neg hx, if_neg (by omega)]; omega
theorem tw_stop (p : UInt8 → Bool) (c : UInt8) (v : List UInt8) (hc : p c = false) : ∀ r : List UInt8, (r ++ c :: v).takeWhile p = r.takeWhile p
  | [] => by simp [hc]
  | d :: r => by
    rw [List.cons_append, List.takeWhile_cons, List.takeWhile_cons, tw_stop p c v hc r]
theorem wrd_app (c : UInt8) (r v : List UInt8) : wrdL (c :: r ++ 10 :: v) = wrdL (c :: r) := by
  rw [List.cons_append, wrdL, wrdL, tw_stop _ 10 v (by decide) r]
theorem wL_app (v : List UInt8) : ∀ (n n' k : Nat) (t : List UInt8), t ≠ [] → t.length ≤ n → (t ++ 10 :: v).length ≤ n' → wL n' k (t ++ 10 :: v) = wL n k t ++ wL v.length (k + t.length + 1 + blkL false v) (v.drop (blkL false v))
  | n, n', k, [], h, _, _ => absurd rfl h
  | 0, _, _, c :: r, _, h, _ => by simp at h
  | _, 0, _, c :: r, _, _, h => by simp at h
  | n + 1, n' + 1, k, c :: r, _, h1, h2 => by
    have hw := wrd_app c r v
    have hle := wrdL_le (c :: r)
    have hp := wrdL_pos c r
    rw [List.cons_append] at hw h2 ⊢
    rw [wL, wL, hw, ← List.cons_append, List.take_append_of_le_length hle, List.drop_append_of_le_length hle, List.cons_append]
    congr 1
    obtain ⟨m, hm⟩ : ∃ m, wrdL (c :: r) = m := ⟨_, rfl⟩
    rw [hm] at hle hp ⊢
    obtain ⟨t1, ht1⟩ : ∃ t1, (c :: r).drop m = t1 := ⟨_, rfl⟩
    have hl1 : t1.length = (c :: r).length - m := by rw [← ht1, List.length_drop]
    rw [ht1, blk_app]
    have hb := blkL_le false t1
    simp only [List.length_cons, List.length_append] at h1 h2 hl1 hle ⊢
    by_cases hb1 : blkL false t1 < t1.length
    · rw [if_pos hb1, List.drop_append_of_le_length hb]
      have hl2 : (t1.drop (blkL false t1)).length = t1.length - blkL false t1 := List.length_drop ..
      rw [wL_app v n n' _ (t1.drop (blkL false t1)) (fun e => by rw [e] at hl2; simp at hl2; omega) (by rw [hl2]; omega) (by simp only [List.length_append, List.length_cons]; rw [hl2]; omega)]
      congr 2
      rw [hl2]; omega
    · rw [if_neg hb1]
      have he : blkL false t1 = t1.length := by omega
      rw [he, List.drop_length, wL_nil, List.nil_append]
      have hd : (t1 ++ 10 :: v).drop (t1.length + 1 + blkL false v) = v.drop (blkL false v) := by
        rw [show t1.length + 1 + blkL false v = t1.length + (1 + blkL false v) by omega, ← List.drop_drop, List.drop_left, Nat.add_comm 1, List.drop_succ_cons]
      rw [hd, wL_enough n' v.length _ _ (by rw [List.length_drop]; omega) (by rw [List.length_drop]; omega)]
      congr 1
      omega
theorem allW_app (k : Nat) (t v : List UInt8) : allW k (t ++ 10 :: v) = allW k t ++ allW (k + t.length + 1) v := by
  unfold allW
  rw [blk_app]
  by_cases hb1 : blkL false t < t.length
  · have hl2 : (t.drop (blkL false t)).length = t.length - blkL false t := List.length_drop ..
    rw [if_pos hb1, List.drop_append_of_le_length (Nat.le_of_lt hb1), wL_app v t.length _ _ _ (fun e => by rw [e] at hl2; simp at hl2; omega) (by omega) (by simp only [List.length_append, List.length_cons]; omega)]
    congr 2
    rw [hl2]; omega
  · have hb := blkL_le false t
    have he : blkL false t = t.length := by omega
    rw [if_neg hb1, he, List.drop_length, wL_nil, List.nil_append]
    have hd : (t ++ 10 :: v).drop (t.length + 1 + blkL false v) = v.drop (blkL false v) := by
      rw [show t.length + 1 + blkL false v = t.length + (1 + blkL false v) by omega, ← List.drop_drop, List.drop_left, Nat.add_comm 1, List.drop_succ_cons]
    rw [hd, wL_enough (t ++ 10 :: v).length v.length _ _ (by rw [List.length_drop]; simp only [List.length_append, List.length_cons]; omega) (by rw [List.length_drop]; omega)]
    congr 1
    omega
theorem allW_ahead (k : Nat) (a t : List UInt8) (h : blkL false (a ++ t) = a.length + blkL false t) : allW k (a ++ t) = allW (k + a.length) t := by
  unfold allW
  rw [h, ← List.drop_drop, List.drop_left, wL_enough (a ++ t).length t.length _ _ (by rw [List.length_drop]; simp only [List.length_append]; omega) (by rw [List.length_drop]; omega)]
  congr 1; omega
theorem allW_blank (k : Nat) (a : List UInt8) (h : blkL false a = a.length) : allW k a = [] := by
  unfold allW
  rw [h, List.drop_length, wL_nil]

def shE (d : Nat) : Except Nat Rst → Except Nat Rst
  | .error k => .error (k + d)
  | .ok st => .ok st
theorem fold_shift (d : Nat) : ∀ (ws : List (Nat × ByteArray)) (st : Rst), foldP st (ws.map (shW d)) = shE d (foldP st ws)
  | [], st => rfl
  | x :: ws, st => by
    rw [List.map_cons, foldP, foldP]
    show (match takeP st x.2 with | none => _ | some st' => _) = _
    cases h : takeP st x.2 with
    | none => rfl
    | some st' => exact fold_shift d ws st'
theorem addLast_pre {α : Type} (f : α → α) : ∀ (pre l : List α), l ≠ [] → addLast f (pre ++ l) = pre ++ addLast f l
  | [], l, _ => rfl
  | [x], [], h => absurd rfl h
  | [x], y :: l, _ => rfl
  | x :: y :: pre, l, h => by
    have := addLast_pre f (y :: pre) l h
    simp only [List.cons_append, addLast] at this ⊢
    rw [this]
theorem addLast_ne {α : Type} (f : α → α) : ∀ (l : List α), l ≠ [] → addLast f l ≠ []
  | [], h => h
  | [x], _ => by simp [addLast]
  | x :: y :: l, _ => by simp [addLast]
def okS (st : Rst) : Prop := st.place = 0 ∨ st.rules ≠ []
theorem take_pre (pre : List Rl) (st : Rst) (w : ByteArray) (h : okS st) : takeP ⟨pre ++ st.rules, st.place⟩ w = (takeP st w).map (fun r => ⟨pre ++ r.rules, r.place⟩) ∧ ∀ st', takeP st w = some st' → okS st' := by
  obtain ⟨rs, p⟩ := st
  unfold takeP
  dsimp only
  split
  · exact ⟨by simp, fun st' e => by cases e; right; simp⟩
  · split
    · rename_i h1 h2
      have hr : rs ≠ [] := by rcases h with h | h; (have := h2.1; dsimp only at h; omega); exact h
      exact ⟨by simp [addLast_pre _ pre rs hr], fun st' e => by cases e; right; exact addLast_ne _ rs hr⟩
    · split
      · rename_i h1 h2 h3
        have hr : rs ≠ [] := by rcases h with h | h; (have := h3.1; dsimp only at h; omega); exact h
        exact ⟨by simp [addLast_pre _ pre rs hr], fun st' e => by cases e; right; exact addLast_ne _ rs hr⟩
      · split
        · rename_i h1 h2 h3 h4
          have hr : rs ≠ [] := by rcases h with h | h; (have := h4.1; dsimp only at h; omega); exact h
          exact ⟨by simp [addLast_pre _ pre rs hr], fun st' e => by cases e; right; exact addLast_ne _ rs hr⟩
        · split
          · exact ⟨by simp, fun st' e => by cases e; left; rfl⟩
          · exact ⟨rfl, fun st' e => by cases e⟩
def pfE (pre : List Rl) : Except Nat Rst → Except Nat Rst
  | .error k => .error k
  | .ok st => .ok ⟨pre ++ st.rules, st.place⟩
theorem fold_pre (pre : List Rl) : ∀ (ws : List (Nat × ByteArray)) (st : Rst), okS st → foldP ⟨pre ++ st.rules, st.place⟩ ws = pfE pre (foldP st ws)
  | [], st, _ => rfl
  | x :: ws, st, h => by
    obtain ⟨h1, h2⟩ := take_pre pre st x.2 h
    rw [foldP, foldP, h1]
    cases e : takeP st x.2 with
    | none => rfl
    | some st' => exact fold_pre pre ws st' (h2 st' e)
/-- What Blanks asks, plainly: with blanks ahead and behind. -/
theorem blanks_ahead (s a : ByteArray) (X : ByteArray) (hX : X.data.toList = a.data.toList ++ (s.data.toList ++ 10 :: a.data.toList)) (ha : ∀ t, blkL false (a.data.toList ++ t) = a.data.toList.length + blkL false t) (hs : s.size ≤ 2000) (has : a.size ≤ 20) :
    (parseP X).1 = (parseP s).1 ∧ (parseP X).2.2 = (parseP s).2.2 ∧ ((parseP s).2.2 = 70 → (parseP X).2.1 = (parseP s).2.1 + a.size ∨ (parseP s).2.1 = s.size) := by
  have hXs : X.size = a.size + (s.size + 1 + a.size) := by
    rw [← dlen X, hX]
    simp only [List.length_append, List.length_cons, dlen]; omega
  have hw : wordsP X = (wordsP s).map (shW a.size) := by
    have ha0 := ha []
    rw [List.append_nil] at ha0
    rw [words_all, words_all, hX, allW_ahead 0 _ _ (ha _), allW_app, allW_blank _ a.data.toList (by rw [ha0]; rfl), List.append_nil, dlen, ← allW_shift]
  unfold parseP
  rw [if_neg (by omega), if_neg (by omega), hw, fold_shift]
  cases h : foldP ⟨[], 0⟩ (wordsP s) with
  | error k => exact ⟨rfl, rfl, fun _ => .inl rfl⟩
  | ok st =>
    simp only [shE, parseT]
    split
    · exact ⟨rfl, rfl, fun _ => .inr rfl⟩
    · split
      · exact ⟨rfl, rfl, fun e => absurd e (by simp)⟩
      · exact ⟨rfl, rfl, fun e => absurd e (by simp)⟩
/-- A text twice. -/
theorem blanks_twice (s X : ByteArray) (hX : X.data.toList = s.data.toList ++ 10 :: s.data.toList) (hs : s.size ≤ 2000) (h0 : (parseP s).2.2 = 0) :
    (30 < (parseP s).1.length ∧ (parseP X).2.2 = 2) ∨ ((parseP X).2.2 = 0 ∧ (parseP X).1 = (parseP s).1 ++ (parseP s).1) := by
  have hXs : X.size = s.size + 1 + s.size := by
    rw [← dlen X, hX]
    simp only [List.length_append, List.length_cons, dlen]; omega
  have hw : wordsP X = wordsP s ++ (wordsP s).map (shW (s.size + 1)) := by
    rw [words_all, words_all, hX, allW_app, dlen, ← allW_shift]
    congr 2
  have e1 : parseP s = parseT s.size (foldP ⟨[], 0⟩ (wordsP s)) := by unfold parseP; rw [if_neg (by omega)]
  have e2 : parseP X = parseT X.size (foldP ⟨[], 0⟩ (wordsP X)) := by unfold parseP; rw [if_neg (by omega)]
  rw [e2, hw]
  rw [e1] at h0 ⊢
  cases h : foldP ⟨[], 0⟩ (wordsP s) with
  | error k => rw [h] at h0; simp [parseT] at h0
  | ok st =>
    rw [h] at h0
    have hnb : ¬ (st.place ≠ 0 ∨ st.rules = []) := fun hb => by simp only [parseT, if_pos hb] at h0; exact absurd h0 (by decide)
    have hnl : ¬ longP st.rules = true := fun hb => by simp only [parseT, if_neg hnb, if_pos hb] at h0; exact absurd h0 (by decide)
    have hp0 : st.place = 0 := Decidable.byContradiction fun e => hnb (.inl e)
    have hr0 : st.rules ≠ [] := fun e => hnb (.inr e)
    have hst : (⟨st.rules ++ ([] : List Rl), 0⟩ : Rst) = st := by rw [List.append_nil, ← hp0]
    have hf := fold_pre st.rules ((wordsP s).map (shW (s.size + 1))) ⟨[], 0⟩ (.inl rfl)
    rw [fold_shift (s.size + 1) (wordsP s) ⟨[], 0⟩, h] at hf
    rw [foldP_ok _ _ _ _ h]
    have hf2 : foldP st ((wordsP s).map (shW (s.size + 1))) = .ok ⟨st.rules ++ st.rules, st.place⟩ := by
      have e : (⟨st.rules ++ (⟨[], 0⟩ : Rst).rules, (⟨[], 0⟩ : Rst).place⟩ : Rst) = st := hst
      rw [e] at hf
      exact hf
    rw [hf2]
    simp only [parseT]
    rw [if_neg hnb, if_neg hnl, if_neg (by simp [hp0, hr0])]
    have hl : longP (st.rules ++ st.rules) = decide (30 < st.rules.length) := by
      have hnl2 : longP st.rules = false := by simpa using hnl
      unfold longP at hnl2 ⊢
      rw [Bool.or_eq_false_iff] at hnl2
      rw [List.any_append, hnl2.2, Bool.or_false, Bool.or_false, List.length_append]
      rw [Bool.eq_iff_iff]; simp; omega
    rw [hl]
    by_cases h3 : 30 < st.rules.length
    · rw [if_pos (by simpa using h3)]
      exact .inl ⟨h3, rfl⟩
    · rw [if_neg (by simpa using h3)]
      exact .inr ⟨rfl, rfl⟩
end Go.Proofs.Ytoaabfdilhbajaa
