/- Layer 7: the reference's reader, word by word. -/
import Derived.Test.YtoaabfdilhbajaaYi
import Derived.Test.YtoaabfdilhbajaaXl
import Derived.Test.YtoaabfdilhbajaaXy
import Derived.Test.YtoaabfdilhbajaaYb
import Derived.StillTailTactics
namespace Go.Proofs.Ytoaabfdilhbajaa
open Go.RowKit Go.Shelf

attribute [local go_sem] Oper.semAt_some

/-- Where the next word is. -/
def nxA (s : ByteArray) (k : Nat) : Nat := k + blkL false (s.data.toList.drop k)
/-- The word at a place. -/
def wordA (s : ByteArray) (p : Nat) : ByteArray := s.extract p (p + wrdL (s.data.toList.drop p))
def wrdsA (s : ByteArray) (k : Nat) : List (Nat × ByteArray) := wrdsF s.size s (nxA s k)
theorem nxA_le {s : ByteArray} {k : Nat} (h : k ≤ s.size) : nxA s k ≤ s.size := by
  have := blkL_le false (s.data.toList.drop k)
  rw [List.length_drop, dlen] at this
  unfold nxA; omega
theorem le_nxA (s : ByteArray) (k : Nat) : k ≤ nxA s k := by unfold nxA; omega
theorem blk_idem : ∀ (b : Bool) (l : List UInt8), blkL false (l.drop (blkL b l)) = 0
  | true, [] => rfl
  | false, [] => rfl
  | false, c :: r => by
    have h1 := blk_idem false r
    have h2 := blk_idem true r
    rw [blkL]
    split
    · rw [Nat.add_comm, List.drop_succ_cons]; exact h1
    · split
      · rw [Nat.add_comm, List.drop_succ_cons]; exact h2
      · rename_i h3 h4
        rw [List.drop_zero, blkL, if_neg h3, if_neg h4]
  | true, c :: r => by
    have h1 := blk_idem false r
    have h2 := blk_idem true r
    rw [blkL]
    split
    · rw [Nat.add_comm, List.drop_succ_cons]; exact h1
    · rw [Nat.add_comm, List.drop_succ_cons]; exact h2
theorem nxA_nxA (s : ByteArray) (k : Nat) : nxA s (nxA s k) = nxA s k := by
  have := blk_idem false (s.data.toList.drop k)
  rw [List.drop_drop] at this
  unfold nxA
  omega
theorem wrds_nxA (s : ByteArray) (k : Nat) : wrdsA s (nxA s k) = wrdsA s k := by unfold wrdsA; rw [nxA_nxA]
theorem wrdsF_enough (s : ByteArray) : ∀ (n m k : Nat), s.size - k ≤ n → s.size - k ≤ m → wrdsF n s k = wrdsF m s k
  | 0, 0, _, _, _ => rfl
  | 0, m + 1, k, h, _ => by rw [wrdsF, wrdsF, if_neg (by omega)]
  | n + 1, 0, k, _, h => by rw [wrdsF, wrdsF, if_neg (by omega)]
  | n + 1, m + 1, k, h1, h2 => by
    rw [wrdsF, wrdsF]
    by_cases hk : k < s.size
    · rw [if_pos hk, if_pos hk]
      have hp : 0 < wrdL (s.data.toList.drop k) := by
        rw [List.drop_eq_getElem_cons (by rw [dlen]; exact hk)]
        exact wrdL_pos _ _
      rw [wrdsF_enough s n m _ (by omega) (by omega)]
    · rw [if_neg hk, if_neg hk]
theorem wrdsA_end {s : ByteArray} {k : Nat} (h : s.size ≤ nxA s k) : wrdsA s k = [] := by
  unfold wrdsA
  cases hs : s.size with
  | zero => rfl
  | succ n => rw [wrdsF, if_neg (by omega)]
theorem wordA_size {s : ByteArray} {p : Nat} (h : p ≤ s.size) : (wordA s p).size = wrdL (s.data.toList.drop p) ∧ p + (wordA s p).size ≤ s.size := by
  have := wrdL_le (s.data.toList.drop p)
  rw [List.length_drop, dlen] at this
  have e : (wordA s p).size = wrdL (s.data.toList.drop p) := by
    unfold wordA
    rw [ByteArray.size_extract]
    omega
  exact ⟨e, by omega⟩
theorem wrdsA_cons {s : ByteArray} {k : Nat} (h : nxA s k < s.size) : wrdsA s k = (nxA s k, wordA s (nxA s k)) :: wrdsA s (nxA s k + (wordA s (nxA s k)).size) := by
  rw [(wordA_size (Nat.le_of_lt h)).1]
  have hp : 0 < wrdL (s.data.toList.drop (nxA s k)) := by
    rw [List.drop_eq_getElem_cons (by rw [dlen]; exact h)]
    exact wrdL_pos _ _
  obtain ⟨n, hn⟩ : ∃ n, s.size = n + 1 := ⟨s.size - 1, by omega⟩
  have e : wrdsF s.size s (nxA s k) = wrdsF (n + 1) s (nxA s k) := by rw [hn]
  unfold wrdsA
  rw [e, wrdsF, if_pos h]
  congr 1
  exact wrdsF_enough s _ _ _ (by omega) (by unfold nxA; omega)
theorem wordA_end {s : ByteArray} {p : Nat} (h : s.size ≤ p) : wordA s p = ⟨#[]⟩ := by
  unfold wordA
  rw [List.drop_eq_nil_of_le (by rw [dlen]; exact h), wrdL, Nat.add_zero, ext_nil]
theorem wordA_ne {s : ByteArray} {p : Nat} (h : p < s.size) : wordA s p ≠ ⟨#[]⟩ := by
  intro e
  have h1 := (wordA_size (Nat.le_of_lt h)).1
  rw [e, List.drop_eq_getElem_cons (by rw [dlen]; exact h)] at h1
  have := wrdL_pos (s.data.toList[p]'(by rw [dlen]; exact h)) (s.data.toList.drop (p + 1))
  have h0 : (⟨#[]⟩ : ByteArray).size = 0 := rfl
  omega
theorem take_empty (st : Rst) : takeP st ⟨#[]⟩ = none := by
  have h0 : nameB ⟨#[]⟩ = false := rfl
  simp [takeP, h0]
/-- What all comes to, with the reader in a state at a place. -/
def ansA (s : ByteArray) (A : List Rl × Nat × Int) (st : Rst) (k : Nat) : Prop := parseT s.size (foldP st (wrdsA s k)) = A
theorem ansA.here {s : ByteArray} {A : List Rl × Nat × Int} {st : Rst} {k : Nat} (h : ansA s A st k) : ansA s A st (nxA s k) := by unfold ansA at h ⊢; rw [wrds_nxA]; exact h
theorem ansA.some_ {s : ByteArray} {A : List Rl × Nat × Int} {st st' : Rst} {k : Nat} (h : ansA s A st k) (ht : takeP st (wordA s (nxA s k)) = some st') : nxA s k < s.size ∧ ansA s A st' (nxA s k + (wordA s (nxA s k)).size) := by
  have hp : nxA s k < s.size := by
    rcases Nat.lt_or_ge (nxA s k) s.size with h | h
    · exact h
    · rw [wordA_end h, take_empty] at ht; cases ht
  refine ⟨hp, ?_⟩
  unfold ansA at h ⊢
  rw [wrdsA_cons hp, foldP, ht] at h
  exact h
theorem ansA.none_ {s : ByteArray} {A : List Rl × Nat × Int} {st : Rst} {k : Nat} (h : ansA s A st k) (hk : k ≤ s.size) (ht : takeP st (wordA s (nxA s k)) = none) (hs : st.place ≠ 0 ∨ st.rules = []) : A = ([], nxA s k, 70) := by
  unfold ansA at h
  rcases Nat.lt_or_ge (nxA s k) s.size with hp | hp
  · rw [wrdsA_cons hp, foldP, ht] at h
    exact h.symm
  · have e : nxA s k = s.size := Nat.le_antisymm (nxA_le hk) hp
    rw [wrdsA_end hp, foldP, parseT, if_pos hs] at h
    rw [e]; exact h.symm
theorem ansA.stop {s : ByteArray} {A : List Rl × Nat × Int} {st : Rst} {k : Nat} (h : ansA s A st k) (hk : k ≤ s.size) (hp : nxA s k < s.size) (ht : takeP st (wordA s (nxA s k)) = none) : A = ([], nxA s k, 70) := by
  unfold ansA at h
  rw [wrdsA_cons hp, foldP, ht] at h
  exact h.symm
theorem ansA.fin {s : ByteArray} {A : List Rl × Nat × Int} {st : Rst} {k : Nat} (h : ansA s A st k) (hp : s.size ≤ nxA s k) : A = parseT s.size (.ok st) := by
  unfold ansA at h
  rw [wrdsA_end hp, foldP] at h
  exact h.symm
theorem ansA.start (s : ByteArray) (h : s.size ≤ 4096) : ansA s (parseP s) ⟨[], 0⟩ 0 := by
  unfold ansA parseP wrdsA wordsP nxA
  rw [if_neg (by omega), List.drop_zero, Nat.zero_add]

abbrev RBx (w : World) (rb : Nat) (s : ByteArray) (k : Nat) (bad : Bool) : Prop := Blk w rb 61 [.string s, .int .i64 (k : Int), .bool bad]
theorem grown_drew (w : World) (r : Option Nat) : w.grownBy w.drew r := ⟨rfl, rfl, rfl, Nat.le_refl _, fun _ _ _ => rfl⟩
theorem grown_self {w a b : World} {r : Nat} (h : w.grownBy a (some r)) (k : a.grownBy b (some r)) : w.grownBy b (some r) := grownBy_trans h k (fun i e => .inl e)
theorem grown_refl (w : World) (r : Option Nat) : w.grownBy w r := ⟨rfl, rfl, rfl, Nat.le_refl _, fun _ _ _ => rfl⟩

set_option maxRecDepth 100000 in
set_option maxHeartbeats 1000000 in
theorem here_any (s : ByteArray) (rb k : Nat) (bad : Bool) (w : World) (hk : k ≤ s.size) (hs : s.size ≤ 4096) (hb : RBx w rb s k bad) :
    Calls Try.prog 31 #[.pointer (some ⟨rb, 0, none⟩)] w fun e w' => e = .returned (.string (wordA s (nxA s k))) ∧ RBx w' rb s (nxA s k) bad ∧ w.grownBy w' (some rb) := by
  have x0 := hb.cell 0
  have x1 := hb.cell 1
  have xl := hb.lt
  have xf := hb.frozen 1
  simp only [List.getElem?_cons_zero, List.getElem?_cons_succ] at x0 x1
  have Hb := Lib.hid hb
  have Hc := Lib.hid (fun V => refBlank_any s k V hk (by omega))
  rw [show k + blkL false (s.data.toList.drop k) = nxA s k from rfl] at Hc
  have hp := nxA_le hk
  have Hw := Lib.hid (fun V => refWord_any s (nxA s k) V hp (by omega))
  rw [show s.extract (nxA s k) (nxA s k + wrdL (s.data.toList.drop (nxA s k))) = wordA s (nxA s k) from rfl] at Hw
  generalize nxA s k = p at Hc Hw hp ⊢
  generalize wordA s p = W at Hw ⊢
  clear hb
  go_enter Try.func31, Try.ntmps31
  go_wp2_with (fail)
  go_still_tail 12, (by kernel_rfl)
  still_call (Hc.out _)
  repeat still_step
  refine wpStill_nil ?_
  change wpList _ _ _ _ _ w.drew
  have Hb1 : Hid (RBx w.drew rb s k bad) := Lib.hid (Hb.out.kept (grownBy_drew w none) (by simp))
  have y0 := Hb1.out.cell 0
  have y1 := Hb1.out.cell 1
  have yl := Hb1.out.lt
  have yf := Hb1.out.frozen 1
  simp only [List.getElem?_cons_zero, List.getElem?_cons_succ] at y0 y1
  have Hg1 : Hid (w.grownBy w.drew (some rb)) := Lib.hid (grown_drew w _)
  clear x0 x1 xl xf
  generalize w.drew = w1 at Hb1 Hg1 y0 y1 yl yf ⊢
  go_wp2_with (fail)
  have Hb2 : Hid (RBx (w1.setCell ⟨rb, 1, none⟩ (.int .i64 (p : Int))) rb s p bad) := Lib.hid (Hb1.out.set 1 _)
  have Hg2 := Lib.hid (grown_self Hg1.out (grownBy_set w1 rb 1 (.int .i64 (p : Int))))
  generalize w1.setCell ⟨rb, 1, none⟩ (.int .i64 (p : Int)) = w2 at Hb2 Hg2 ⊢
  clear y0 y1 yl yf
  have y0 := Hb2.out.cell 0
  have y1 := Hb2.out.cell 1
  have yl := Hb2.out.lt
  simp only [List.getElem?_cons_zero, List.getElem?_cons_succ] at y0 y1
  go_still_tail 9, (by kernel_rfl)
  still_call (Hw.out _)
  try refine wpStill_nil ?_
  change wpList _ _ _ _ _ w2.drew
  have Hb3 : Hid (RBx w2.drew rb s p bad) := Lib.hid (Hb2.out.kept (grownBy_drew w2 none) (by simp))
  have Hg3 := Lib.hid (grown_self Hg2.out (grown_drew w2 _))
  generalize w2.drew = w3 at Hb3 Hg3 ⊢
  go_wp2_with (fail)
  exact bodyPost_ret (v := .string W) (by simp [results, Try.results31, go_sem]; try first | rfl | assumption | omega) rfl ⟨rfl, Hb3.out, Hg3.out⟩
end Go.Proofs.Ytoaabfdilhbajaa
