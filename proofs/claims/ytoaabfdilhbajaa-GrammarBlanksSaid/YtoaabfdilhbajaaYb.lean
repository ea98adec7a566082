/- Layer 7: what is read of a grammar's text is the grammar. -/
import Derived.Test.YtoaabfdilhbajaaXp
import Derived.Test.YtoaabfdilhbajaaXl
namespace Go.Proofs.Ytoaabfdilhbajaa
open Go.RowKit Go.Shelf

/-- From where t is left on, the words bring the reader from st to r. -/
def DD (s : ByteArray) (st : Rst) (t : List UInt8) (r : Except Nat Rst) : Prop := ∀ n k, s.size - k ≤ n → s.data.toList.drop k = t → foldP st (wrdsF n s k) = r
theorem DD.end_ (s : ByteArray) (st : Rst) : DD s st [] (.ok st) := by
  intro n k _ hd
  have hk : ¬ k < s.size := by
    intro h
    have := congrArg List.length hd
    rw [List.length_drop, dlen] at this
    simp at this; omega
  cases n with
  | zero => rfl
  | succ n => rw [wrdsF, if_neg hk]; rfl
theorem DD.step {s : ByteArray} {st st' : Rst} {w t : List UInt8} {c : UInt8} {r : Except Nat Rst} (hw : wrdL (w ++ c :: t) = w.length) (hb : blkL false (c :: t) = 1) (ht : takeP st ⟨w.toArray⟩ = some st') (h : DD s st' t r) : DD s st (w ++ c :: t) r := by
  intro n k hn hd
  have hlen := congrArg List.length hd
  rw [List.length_drop, dlen] at hlen
  simp only [List.length_append, List.length_cons] at hlen
  have hk : k < s.size := by omega
  obtain ⟨m, rfl⟩ : ∃ m, n = m + 1 := ⟨n - 1, by omega⟩
  have hd2 : s.data.toList.drop (k + w.length) = c :: t := by rw [← List.drop_drop, hd]; simp
  have hx : s.extract k (k + w.length) = ⟨w.toArray⟩ := by
    apply ByteArray.ext
    apply Array.ext'
    rw [ByteArray.data_extract, Array.toList_extract]
    simp only [List.extract, hd, Nat.add_sub_cancel_left]
    simp
  rw [wrdsF, if_pos hk, hd, hw, hd2, hb, hx, foldP, ht]
  refine h m _ (by omega) ?_
  rw [← List.drop_drop, hd2]; rfl
/-- The same, where a blank comes first. -/
def DB (s : ByteArray) (st : Rst) (t : List UInt8) (r : Except Nat Rst) : Prop := ∃ t', t = 32 :: t' ∧ blkL false t' = 0 ∧ DD s st t' r
theorem blk_32 {t : List UInt8} (h : blkL false t = 0) : blkL false (32 :: t) = 1 := by rw [blkL, if_pos (by decide), h]
theorem blk_10 {t : List UInt8} (h : blkL false t = 0) : blkL false (10 :: t) = 1 := by rw [blkL, if_pos (by decide), h]
theorem let_blk {c : UInt8} {r : List UInt8} (h : letB c = true) : blkL false (c :: r) = 0 := by
  unfold letB at h
  simp only [Bool.or_eq_true, Bool.and_eq_true, decide_eq_true_eq] at h
  rw [blkL, if_neg (by omega), if_neg (by omega)]
theorem take_all (p : UInt8 → Bool) : ∀ (r : List UInt8) (c : UInt8) (t : List UInt8), r.all p = true → p c = false → (r ++ c :: t).takeWhile p = r
  | [], c, t, _, hc => by simp [hc]
  | d :: r, c, t, h, hc => by
    rw [List.all_cons, Bool.and_eq_true] at h
    rw [List.cons_append, List.takeWhile_cons, h.1, if_pos rfl, take_all p r c t h.2 hc]
theorem name_parts {w : ByteArray} (h : nameB w = true) : ∃ c r, w.data.toList = c :: r ∧ letB c = true ∧ r.all (fun d => letB d || digB d) = true := by
  unfold nameB at h
  cases hl : w.data.toList with
  | nil => rw [hl] at h; exact absurd h (by decide)
  | cons c r =>
    rw [hl, nameL, List.all_cons] at h
    simp only [Bool.and_eq_true, Bool.or_eq_true, Bool.not_eq_true'] at h
    refine ⟨c, r, rfl, ?_, h.2.2⟩
    rcases h.2.1 with h1 | h1
    · exact h1
    · rw [h1] at h; exact absurd h.1.2 (by decide)
theorem name_word {w : ByteArray} (h : nameB w = true) (c : UInt8) (t : List UInt8) (hc : (letB c || digB c) = false) : wrdL (w.data.toList ++ c :: t) = w.data.toList.length ∧ blkL false (w.data.toList ++ c :: t) = 0 := by
  obtain ⟨d, r, e, hd, hr⟩ := name_parts h
  rw [e, List.cons_append]
  refine ⟨?_, let_blk hd⟩
  rw [wrdL, if_pos hd, take_all _ r c t hr hc]
  simp only [List.length_cons]; omega
theorem ba_eta (w : ByteArray) : (⟨w.data.toList.toArray⟩ : ByteArray) = w := by cases w; rfl
theorem DB.name {s w : ByteArray} {st st' : Rst} {t : List UInt8} {r : Except Nat Rst} (h : nameB w = true) (ht : takeP st w = some st') (hD : DB s st' t r) : DB s st (32 :: (w.data.toList ++ t)) r := by
  obtain ⟨t', rfl, hb, hd⟩ := hD
  obtain ⟨h1, h2⟩ := name_word h 32 t' (by decide)
  exact ⟨_, rfl, h2, DD.step h1 (blk_32 hb) (by rw [ba_eta]; exact ht) hd⟩
theorem DB.sign {s : ByteArray} {st st' : Rst} {t : List UInt8} {c : UInt8} {r : Except Nat Rst} (hl : letB c = false) (hbk : ∀ t, blkL false (c :: t) = 0) (ht : takeP st ⟨#[c]⟩ = some st') (hD : DB s st' t r) : DB s st (32 :: c :: t) r := by
  obtain ⟨t', rfl, hb, hd⟩ := hD
  exact ⟨_, rfl, hbk _, DD.step (w := [c]) (by rw [List.cons_append, wrdL, if_neg (by rw [hl]; decide)]; rfl) (blk_32 hb) ht hd⟩
theorem bk_61 (t : List UInt8) : blkL false (61 :: t) = 0 := by rw [blkL, if_neg (by decide), if_neg (by decide)]
theorem bk_124 (t : List UInt8) : blkL false (124 :: t) = 0 := by rw [blkL, if_neg (by decide), if_neg (by decide)]
theorem bk_59 (t : List UInt8) : blkL false (59 :: t) = 0 := by rw [blkL, if_neg (by decide), if_neg (by decide)]

theorem take_word {dn : List Rl} {n w : ByteArray} {aa : List (List ByteArray)} {a : List ByteArray} (h : nameB w = true) : takeP ⟨dn ++ [(n, aa ++ [a])], 2⟩ w = some ⟨dn ++ [(n, aa ++ [a ++ [w]])], 2⟩ := by
  unfold takeP
  rw [if_neg (by simp), if_neg (by simp), if_pos ⟨rfl, h⟩, addLast_snoc, addLast_snoc]
theorem take_bar {dn : List Rl} {n : ByteArray} {aa : List (List ByteArray)} : takeP ⟨dn ++ [(n, aa)], 2⟩ ⟨#[124]⟩ = some ⟨dn ++ [(n, aa ++ [[]])], 2⟩ := by
  unfold takeP
  rw [if_neg (by simp), if_neg (by simp), if_neg (by intro h; exact absurd h.2 (by decide)), if_pos ⟨rfl, rfl⟩, addLast_snoc]
theorem take_eq {dn : List Rl} {n : ByteArray} : takeP ⟨dn ++ [(n, [])], 1⟩ ⟨#[61]⟩ = some ⟨dn ++ [(n, [[]])], 2⟩ := by
  unfold takeP
  rw [if_neg (by simp), if_pos ⟨rfl, rfl⟩, addLast_snoc]
  rfl
theorem take_semi {rs : List Rl} : takeP ⟨rs, 2⟩ ⟨#[59]⟩ = some ⟨rs, 0⟩ := by
  unfold takeP
  rw [if_neg (by simp), if_neg (by simp), if_neg (by intro h; exact absurd h.2 (by decide)), if_neg (by intro h; exact absurd h.2 (by decide)), if_pos ⟨rfl, rfl⟩]
theorem take_nm {rs : List Rl} {w : ByteArray} (h : nameB w = true) : takeP ⟨rs, 0⟩ w = some ⟨rs ++ [(w, [])], 1⟩ := by
  unfold takeP
  rw [if_pos ⟨rfl, h⟩]

theorem DB.names {s : ByteArray} {dn : List Rl} {n : ByteArray} {aa : List (List ByteArray)} {t : List UInt8} {r : Except Nat Rst} : ∀ (l a : List ByteArray), (∀ x ∈ l, nameB x = true) → DB s ⟨dn ++ [(n, aa ++ [a ++ l])], 2⟩ t r → DB s ⟨dn ++ [(n, aa ++ [a])], 2⟩ (nmT l ++ t) r
  | [], a, _, h => by rw [List.append_nil] at h; exact h
  | w :: l, a, hn, h => by
    have hw := hn w List.mem_cons_self
    have := DB.names (s := s) (dn := dn) (n := n) (aa := aa) (t := t) (r := r) l (a ++ [w]) (fun x hx => hn x (List.mem_cons_of_mem _ hx)) (by rw [show a ++ [w] ++ l = a ++ w :: l by simp]; exact h)
    have e : nmT (w :: l) ++ t = 32 :: (w.data.toList ++ (nmT l ++ t)) := by unfold nmT; rw [List.flatMap_cons]; simp
    rw [e]
    exact DB.name hw (take_word hw) this
theorem DB.alts {s : ByteArray} {dn : List Rl} {n : ByteArray} {t : List UInt8} {r : Except Nat Rst} : ∀ (l aa : List (List ByteArray)), (∀ x ∈ l, ∀ y ∈ x, nameB y = true) → DB s ⟨dn ++ [(n, aa ++ l)], 2⟩ t r → DB s ⟨dn ++ [(n, aa)], 2⟩ (alT [32, 124] l ++ t) r
  | [], aa, _, h => by rw [List.append_nil] at h; exact h
  | x :: l, aa, hn, h => by
    have h1 := DB.alts (s := s) (dn := dn) (n := n) (t := t) (r := r) l (aa ++ [x]) (fun y hy => hn y (List.mem_cons_of_mem _ hy)) (by rw [show aa ++ [x] ++ l = aa ++ x :: l by simp]; exact h)
    have h2 := DB.names (dn := dn) (n := n) (aa := aa) x [] (hn x List.mem_cons_self) (by rw [List.nil_append]; exact h1)
    have e : alT [32, 124] (x :: l) ++ t = 32 :: 124 :: (nmT x ++ (alT [32, 124] l ++ t)) := by rw [alT]; simp
    rw [e]
    exact DB.sign (by decide) bk_124 take_bar h2
theorem DD.rule {s : ByteArray} {dn : List Rl} {q : Rl} {t : List UInt8} {r : Except Nat Rst} (hn : nameB q.1 = true) (h0 : q.2 ≠ []) (ha : ∀ x ∈ q.2, ∀ y ∈ x, nameB y = true) (hb : blkL false t = 0) (h : DD s ⟨dn ++ [q], 0⟩ t r) : DD s ⟨dn, 0⟩ (rlT q ++ t) r ∧ blkL false (rlT q ++ t) = 0 := by
  obtain ⟨n, aa⟩ := q
  cases aa with
  | nil => exact absurd rfl h0
  | cons x l =>
    have k1 : DB s ⟨dn ++ [(n, x :: l)], 2⟩ (32 :: 59 :: 10 :: t) r := ⟨_, rfl, bk_59 _, DD.step (w := [59]) (by rw [List.cons_append, wrdL, if_neg (by decide)]; rfl) (blk_10 hb) take_semi h⟩
    have k2 := DB.alts (dn := dn) (n := n) l [x] (fun y hy => ha y (List.mem_cons_of_mem _ hy)) k1
    have k3 := DB.names (dn := dn) (n := n) (aa := []) x [] (ha x List.mem_cons_self) (by rw [List.nil_append, List.nil_append]; exact k2)
    have k4 : DB s ⟨dn ++ [(n, [])], 1⟩ (32 :: 61 :: (nmT x ++ (alT [32, 124] l ++ (32 :: 59 :: 10 :: t)))) r := DB.sign (by decide) bk_61 take_eq k3
    have e : rlT (n, x :: l) ++ t = n.data.toList ++ (32 :: 61 :: (nmT x ++ (alT [32, 124] l ++ (32 :: 59 :: 10 :: t)))) := by unfold rlT; rw [alT]; simp
    rw [e]
    obtain ⟨t', e', hb', hd'⟩ := k4
    obtain ⟨h1, h2⟩ := name_word (w := n) hn 32 t' (by decide)
    rw [e']
    exact ⟨DD.step h1 (blk_32 hb') (by rw [ba_eta]; exact take_nm hn) hd', h2⟩
theorem DD.gram {s : ByteArray} : ∀ (g dn : List Rl), (∀ q ∈ g, nameB q.1 = true ∧ q.2 ≠ [] ∧ ∀ x ∈ q.2, ∀ y ∈ x, nameB y = true) → DD s ⟨dn, 0⟩ (grT g) (.ok ⟨dn ++ g, 0⟩) ∧ blkL false (grT g) = 0
  | [], dn, _ => ⟨by rw [List.append_nil]; exact DD.end_ s _, rfl⟩
  | q :: g, dn, h => by
    obtain ⟨h1, h2, h3⟩ := h q List.mem_cons_self
    obtain ⟨k1, k2⟩ := DD.gram g (dn ++ [q]) (fun x hx => h x (List.mem_cons_of_mem _ hx))
    have e : grT (q :: g) = rlT q ++ grT g := by unfold grT; rw [List.flatMap_cons]
    rw [e]
    exact DD.rule h1 h2 h3 k2 (by have := k1; rwa [List.append_assoc] at this)
theorem parse_back {rs : List RlD} (h : chkG rs = 0) (hs : (txG rs).size ≤ 4096) : parseP (txG rs) = (grP rs, 0, 0) := by
  obtain ⟨h1, _, h2⟩ := chk_parts h
  have e : (txG rs).data.toList = grT (grP rs) := by unfold txG; rw [if_pos h]
  obtain ⟨k1, k2⟩ := DD.gram (s := txG rs) (grP rs) [] (fun q hq => ⟨(h2 q hq).1, fun e => by have := (h2 q hq).2.1; rw [e] at this; simp at this, fun x hx => ((h2 q hq).2.2.2 x hx).1⟩)
  have k3 := k1 (txG rs).size 0 (by omega) (by rw [List.drop_zero]; exact e)
  have hne : grP rs ≠ [] := fun e => by have := congrArg List.length e; unfold grP at this; rw [List.length_map] at this; simp at this; rw [this] at h1; exact absurd h1 (by decide)
  have hlg : longP (grP rs) = false := by rw [← long_is]; exact (chk_zero h).2
  unfold parseP wordsP
  rw [if_neg (by omega), e, k2, k3, List.nil_append, parseT, if_neg (by intro h; rcases h with h | h; exact h rfl; exact hne h), hlg]
  rfl
end Go.Proofs.Ytoaabfdilhbajaa
