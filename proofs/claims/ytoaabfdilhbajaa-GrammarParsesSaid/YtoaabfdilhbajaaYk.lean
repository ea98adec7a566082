/- Layer 7: the reference's name and need. -/
import Derived.Test.YtoaabfdilhbajaaYj
namespace Go.Proofs.Ytoaabfdilhbajaa
open Go.RowKit Go.Shelf

attribute [local go_sem] Oper.semAt_some

set_option maxRecDepth 100000 in
set_option maxHeartbeats 1000000 in
theorem nameR_no (s : ByteArray) (rb k : Nat) (bad : Bool) (w : World) (hk : k ≤ s.size) (hs : s.size ≤ 4096) (hb : RBx w rb s k bad) (hn : bad = true ∨ nameB (wordA s (nxA s k)) = false) :
    Calls Try.prog 46 #[.pointer (some ⟨rb, 0, none⟩)] w fun e w' => e = .returned (.tuple #[.string ⟨#[]⟩, .bool false]) ∧ RBx w' rb s (nxA s k) bad ∧ w.grownBy w' (some rb) := by
  have Hh := Lib.hid (here_any s rb k bad w hk hs hb)
  have Hi := Lib.hid (fun V => refIsName_any (wordA s (nxA s k)) V)
  generalize wordA s (nxA s k) = W at Hh Hi hn
  generalize nxA s k = p at Hh ⊢
  obtain ⟨nb, hnb⟩ : ∃ nb, Hid (nameB W = nb) := ⟨_, Lib.hid rfl⟩
  rw [hnb.out] at Hi hn
  clear hb
  cases bad
  · have hF : nb = false := by rcases hn with h | h; (cases h); exact h
    subst hF
    clear hn
    go_enter Try.func46, Try.ntmps46
    go_wp2_with (fail)
    refine Hh.out.mono ?_
    rintro e w1 ⟨rfl, hb1, hg1⟩
    have Hb1 := Lib.hid hb1
    have Hg1 := Lib.hid hg1
    have x2 := hb1.cell 2
    have xl := hb1.lt
    simp only [List.getElem?_cons_zero, List.getElem?_cons_succ] at x2
    clear hb1 hg1
    go_wp2_with (fail)
    refine (Hi.out _).mono ?_
    rintro e w2 ⟨rfl, hw2⟩
    subst w2
    go_wp2_with (fail)
    exact bodyPost_ret (v := .tuple #[.string ⟨#[]⟩, .bool false]) (by simp [results, Try.results46, go_sem]; try first | rfl | assumption | omega) rfl ⟨rfl, Hb1.out, Hg1.out⟩
  · clear hn
    go_enter Try.func46, Try.ntmps46
    go_wp2_with (fail)
    refine Hh.out.mono ?_
    rintro e w1 ⟨rfl, hb1, hg1⟩
    have Hb1 := Lib.hid hb1
    have Hg1 := Lib.hid hg1
    have x2 := hb1.cell 2
    have xl := hb1.lt
    simp only [List.getElem?_cons_zero, List.getElem?_cons_succ] at x2
    clear hb1 hg1
    go_wp2_with (fail)
    exact bodyPost_ret (v := .tuple #[.string ⟨#[]⟩, .bool false]) (by simp [results, Try.results46, go_sem]; try first | rfl | assumption | omega) rfl ⟨rfl, Hb1.out, Hg1.out⟩

set_option maxRecDepth 100000 in
set_option maxHeartbeats 1000000 in
theorem nameR_yes (s : ByteArray) (rb k : Nat) (w : World) (hk : k ≤ s.size) (hs : s.size ≤ 4096) (hb : RBx w rb s k false) (hn : nameB (wordA s (nxA s k)) = true) :
    Calls Try.prog 46 #[.pointer (some ⟨rb, 0, none⟩)] w fun e w' => e = .returned (.tuple #[.string (wordA s (nxA s k)), .bool true]) ∧ RBx w' rb s (nxA s k + (wordA s (nxA s k)).size) false ∧ w.grownBy w' (some rb) := by
  have Hh := Lib.hid (here_any s rb k false w hk hs hb)
  have Hi := Lib.hid (fun V => refIsName_any (wordA s (nxA s k)) V)
  rw [hn] at Hi
  have hz := (wordA_size (nxA_le hk)).2
  generalize wordA s (nxA s k) = W at Hh Hi hz ⊢
  generalize nxA s k = p at Hh hz ⊢
  clear hb hn
  go_enter Try.func46, Try.ntmps46
  go_wp2_with (fail)
  refine Hh.out.mono ?_
  rintro e w1 ⟨rfl, hb1, hg1⟩
  have Hb2 : Hid (RBx (w1.setCell ⟨rb, 1, none⟩ (.int .i64 ((p : Int) + (W.size : Int)))) rb s (p + W.size) false) := Lib.hid (hb1.set 1 _)
  have Hg2 : Hid (w.grownBy (w1.setCell ⟨rb, 1, none⟩ (.int .i64 ((p : Int) + (W.size : Int)))) (some rb)) := Lib.hid (grown_self hg1 (grownBy_set w1 rb 1 _))
  have x1 := hb1.cell 1
  have x2 := hb1.cell 2
  have xl := hb1.lt
  have xf := hb1.frozen 1
  simp only [List.getElem?_cons_zero, List.getElem?_cons_succ] at x1 x2
  clear hb1 hg1
  go_wp2_with (fail)
  refine (Hi.out _).mono ?_
  rintro e w2 ⟨rfl, hw2⟩
  subst w2
  go_wp2_with (fail)
  exact bodyPost_ret (v := .tuple #[.string W, .bool true]) (by simp [results, Try.results46, go_sem]; try first | rfl | assumption | omega) rfl ⟨rfl, Hb2.out, Hg2.out⟩

set_option maxRecDepth 100000 in
set_option maxHeartbeats 1000000 in
theorem need_bad (s x : ByteArray) (rb k : Nat) (w : World) (hb : RBx w rb s k true) :
    Calls Try.prog 47 #[.pointer (some ⟨rb, 0, none⟩), .string x] w fun e w' => e = .returned (.tuple #[]) ∧ RBx w' rb s k true ∧ w.grownBy w' (some rb) := by
  have Hb2 : Hid (RBx (w.setCell ⟨rb, 2, none⟩ (.bool true)) rb s k true) := Lib.hid (hb.set 2 _)
  have Hg2 : Hid (w.grownBy (w.setCell ⟨rb, 2, none⟩ (.bool true)) (some rb)) := Lib.hid (grownBy_set w rb 2 _)
  have x2 := hb.cell 2
  have xl := hb.lt
  have xf := hb.frozen 2
  simp only [List.getElem?_cons_zero, List.getElem?_cons_succ] at x2
  clear hb
  go_enter Try.func47, Try.ntmps47
  go_wp2_with (fail)
  exact bodyPost_ret (v := .tuple #[]) (by simp [results, Try.results47, go_sem]; try first | rfl | assumption | omega) rfl ⟨rfl, Hb2.out, Hg2.out⟩

set_option maxRecDepth 100000 in
set_option maxHeartbeats 1000000 in
theorem need_no (s x : ByteArray) (rb k : Nat) (w : World) (hk : k ≤ s.size) (hs : s.size ≤ 4096) (hb : RBx w rb s k false) (hx : wordA s (nxA s k) ≠ x) :
    Calls Try.prog 47 #[.pointer (some ⟨rb, 0, none⟩), .string x] w fun e w' => e = .returned (.tuple #[]) ∧ RBx w' rb s (nxA s k) true ∧ w.grownBy w' (some rb) := by
  have Hh := Lib.hid (here_any s rb k false w hk hs hb)
  generalize wordA s (nxA s k) = W at Hh hx
  have hbe : (W.toList == x.toList) = false := by
    rw [toList_is, toList_is, beq_dec]
    exact decide_eq_false (fun e => hx (ByteArray.ext (Array.ext' e)))
  clear hx
  generalize nxA s k = p at Hh ⊢
  have x2 := hb.cell 2
  have xl := hb.lt
  simp only [List.getElem?_cons_zero, List.getElem?_cons_succ] at x2
  clear hb
  go_enter Try.func47, Try.ntmps47
  go_wp2_with (fail)
  refine Hh.out.mono ?_
  rintro e w1 ⟨rfl, hb1, hg1⟩
  have Hb2 : Hid (RBx (w1.setCell ⟨rb, 2, none⟩ (.bool true)) rb s p true) := Lib.hid (hb1.set 2 _)
  have Hg2 : Hid (w.grownBy (w1.setCell ⟨rb, 2, none⟩ (.bool true)) (some rb)) := Lib.hid (grown_self hg1 (grownBy_set w1 rb 2 _))
  have y1 := hb1.cell 2
  have yl := hb1.lt
  have yf := hb1.frozen 2
  simp only [List.getElem?_cons_zero, List.getElem?_cons_succ] at y1
  clear hb1 hg1 x2 xl
  go_wp2_with (fail)
  exact bodyPost_ret (v := .tuple #[]) (by simp [results, Try.results47, go_sem]; try first | rfl | assumption | omega) rfl ⟨rfl, Hb2.out, Hg2.out⟩

set_option maxRecDepth 100000 in
set_option maxHeartbeats 1000000 in
theorem need_yes (s x : ByteArray) (rb k : Nat) (w : World) (hk : k ≤ s.size) (hs : s.size ≤ 4096) (hb : RBx w rb s k false) (hx : wordA s (nxA s k) = x) :
    Calls Try.prog 47 #[.pointer (some ⟨rb, 0, none⟩), .string x] w fun e w' => e = .returned (.tuple #[]) ∧ RBx w' rb s (nxA s k + x.size) false ∧ w.grownBy w' (some rb) := by
  have Hh := Lib.hid (here_any s rb k false w hk hs hb)
  have hz := (wordA_size (nxA_le hk)).2
  rw [hx] at Hh hz
  generalize nxA s k = p at Hh hz ⊢
  have x2 := hb.cell 2
  have xl := hb.lt
  simp only [List.getElem?_cons_zero, List.getElem?_cons_succ] at x2
  clear hb hx
  go_enter Try.func47, Try.ntmps47
  go_wp2_with (fail)
  refine Hh.out.mono ?_
  rintro e w1 ⟨rfl, hb1, hg1⟩
  have Hb2 : Hid (RBx (w1.setCell ⟨rb, 1, none⟩ (.int .i64 ((p : Int) + (x.size : Int)))) rb s (p + x.size) false) := Lib.hid (hb1.set 1 _)
  have Hg2 : Hid (w.grownBy (w1.setCell ⟨rb, 1, none⟩ (.int .i64 ((p : Int) + (x.size : Int)))) (some rb)) := Lib.hid (grown_self hg1 (grownBy_set w1 rb 1 _))
  have y1 := hb1.cell 1
  have yl := hb1.lt
  have yf := hb1.frozen 1
  simp only [List.getElem?_cons_zero, List.getElem?_cons_succ] at y1
  clear hb1 hg1 x2 xl
  go_wp2_with (fail)
  exact bodyPost_end (v := .tuple #[]) (by simp [results, Try.results47, go_sem]; try rfl) rfl ⟨rfl, Hb2.out, Hg2.out⟩
end Go.Proofs.Ytoaabfdilhbajaa
