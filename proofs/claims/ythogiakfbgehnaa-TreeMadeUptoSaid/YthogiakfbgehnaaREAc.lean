/- Texts joined: Be Bf Bg Bh Bi Bj Bk. -/
import Derived.Test.YthogiakfbgehnaaREAb
import Derived.Test.YthogiakfbgehnaaREAa
set_option linter.unusedVariables false
set_option linter.unusedSimpArgs false
namespace Go.Proofs.Ythogiakfbgehnaa
open Go.RowKit

attribute [local go_sem] Oper.semAt_some

def memF (x : Fl) (l : List Fl) : Bool := l.any (fun f => decide (f = x))
theorem memF_iff {x : Fl} {l : List Fl} : memF x l = true ↔ x ∈ l := by simp [memF]
/-- A flaw is laid behind the others, if it is not there. -/
def layP (l : List Fl) (x : Fl) : List Fl := if memF x l then l else l ++ [x]

set_option maxRecDepth 100000 in
set_option maxHeartbeats 2000000 in
theorem lay_any (l : List Fl) (a : Option Addr) (cap base : Nat) (kd : Int) (nm : ByteArray) (w : World) (hl : OwnF w base a cap l) (hfew : l.length ≤ 1000000) (hbase : base ≤ w.heap.size) :
    Calls Try.prog 160 #[.slice a l.length cap, .int .i64 kd, .string nm] w fun r w' => ∃ a' c', r = .returned (.slice a' (layP l (kd, nm)).length c') ∧ OwnF w' base a' c' (layP l (kd, nm)) ∧ w.grownBy w' (Value.slice a l.length cap).ownBlock := by
  have hF := own_fls hl
  have hlm : l.length ≤ cap ∧ cap ≤ 9223372036854775807 := ⟨hF.le, hF.max⟩
  have HOwn := Lib.hid hl
  clear hl
  obtain ⟨R, hR⟩ : ∃ R, Hid (memF (kd, nm) l = R) := ⟨_, Lib.hid rfl⟩
  obtain ⟨P, hP⟩ : ∃ P, Hid (layP l (kd, nm) = P) := ⟨_, Lib.hid rfl⟩
  have hP1 : Hid (R = true → P = l) := Lib.hid (fun e => by rw [← hP.out]; unfold layP; rw [hR.out, if_pos e])
  have hP2 : Hid (R = false → P = l ++ [(kd, nm)]) := Lib.hid (fun e => by rw [← hP.out]; unfold layP; rw [hR.out, e]; rfl)
  rw [hP.out]
  clear hP
  obtain ⟨L, HL⟩ : ∃ L, Hid (l.length = L) := ⟨_, Lib.hid rfl⟩
  rw [HL.out] at hlm hfew ⊢
  go_enter Try.func160, Try.ntmps160
  go_wp2_with (fail)
  go_loopw [11] (fun iv wr => ∃ k : Nat, k ≤ L ∧ iv = .int .i64 (k : Int) ∧ Hid (R = memF (kd, nm) (l.drop k)) ∧ Below w.heap.size w wr) (fun iv _ => L - (intOf iv).toNat)
  case atStart => exact ⟨0, Nat.zero_le _, rfl, Lib.hid hR.out.symm, Below.refl _ w⟩
  case round =>
    obtain ⟨k, hk, rfl, HR, hbr⟩ := hrel
    by_cases hlt : k < L
    · have hkI : (k : Int) < (L : Int) := by omega
      have hkI0 : (0 : Int) ≤ (k : Int) := by omega
      have hkl : k < l.length := by rw [HL.out]; exact hlt
      obtain ⟨b, off, rfl⟩ := hF.at_ k hkl
      obtain ⟨c0, c1⟩ := (hF.grown hbr).cell b off rfl k hkl
      have hdr : Hid (l.drop k = l[k] :: l.drop (k + 1)) := Lib.hid (List.drop_eq_getElem_cons hkl)
      obtain ⟨e, he⟩ : ∃ v, Hid (l[k] = v) := ⟨_, Lib.hid rfl⟩
      rw [he.out] at c0 c1
      obtain ⟨ek, en⟩ := e
      have hbl := World.block_lt_of_cell? wr _ c0
      have hB0 := Blk.new wr 217 #[.int .i64 ek, .string en]
      have hb1 : Below w.heap.size w (wr.alloc (.cells #[.int .i64 ek, .string en] 217)) := hbr.alloc hbr.size _
      have y0 := hB0.cell 0
      have y1 := hB0.cell 1
      have yl := hB0.lt
      simp only [List.getElem?_cons_zero, List.getElem?_cons_succ] at y0 y1
      clear hB0 hF
      simp only at c0 c1
      by_cases e1 : ek = kd
      · subst e1
        by_cases e2 : en = nm
        · subst e2
          have hT : Hid (R = true) := Lib.hid (by rw [HR.out, hdr.out, he.out]; simp [memF])
          have hO := Lib.hid (HOwn.out.kept (below_grownBy hb1 none) (by cases h : (Value.slice (some ⟨b, off, none⟩) l.length cap).ownBlock <;> simp))
          have hG := Lib.hid (below_grownBy hb1 (Value.slice (some ⟨b, off, none⟩) L cap).ownBlock)
          go_wp2_with (fail)
          exact bodyPost_ret (v := .slice (some ⟨b, off, none⟩) L cap) (by simp [results, Try.results160, go_sem]; try first | rfl | assumption | omega) rfl ⟨some ⟨b, off, none⟩, cap, by rw [hP1.out hT.out, HL.out], by rw [hP1.out hT.out]; exact hO.out, hG.out⟩
        · have e3 : (en.toList == nm.toList) = false := str_ne e2
          have hN : Hid (memF (ek, nm) (l.drop k) = memF (ek, nm) (l.drop (k + 1))) := Lib.hid (by rw [hdr.out, he.out]; simp [memF, e2])
          clear e2
          go_wp2_with (fail)
          exact ⟨⟨k + 1, by omega, by simp, Lib.hid (by rw [HR.out, hN.out]), hb1⟩, by simp [intOf]; omega⟩
      · have e3 : (ek == kd) = false := by rw [beq_eq_false_iff_ne]; exact e1
        have hN : Hid (memF (kd, nm) (l.drop k) = memF (kd, nm) (l.drop (k + 1))) := Lib.hid (by rw [hdr.out, he.out]; simp [memF, e1])
        go_wp2_with (fail)
        exact ⟨⟨k + 1, by omega, by simp, Lib.hid (by rw [HR.out, hN.out]), hb1⟩, by simp [intOf]; omega⟩
    · obtain rfl : k = L := by omega
      have hkI : ¬ (k : Int) < (k : Int) := by omega
      have hT : Hid (R = false) := Lib.hid (by rw [HR.out, List.drop_eq_nil_of_le (by rw [HL.out]; exact Nat.le_refl _)]; rfl)
      have hO := HOwn.out.kept (below_grownBy hbr none) (by cases h : (Value.slice a l.length cap).ownBlock <;> simp)
      rw [HL.out] at hO
      obtain ⟨a2, c2, w2, hrun, ho, hg⟩ := run_pushV wr 181 181 217 _ 2 24 Try.underlying181 info_flaw rfl (by decide) (by decide) [.int .i64 kd, .string nm] rfl (by simp [Value.oneCell']) hO (by omega) (Nat.le_trans hbase hbr.size)
      have Hrun := Lib.hid hrun
      have HO := Lib.hid ho
      have HG := Lib.hid (grownBy_trans (below_grownBy hbr (Value.slice a k cap).ownBlock) hg (fun i e => .inl e))
      clear hrun ho hg hO hF
      go_wp2_with (at_builtin; refine wpList_append_run rfl _ _ 181 181 rfl _ _ _ _ rfl rfl Hrun.out ?_)
      exact bodyPost_ret (v := .slice a2 (k + 1) c2) (by simp [results, Try.results160, go_sem]; try first | rfl | assumption | omega) rfl ⟨a2, c2, by rw [hP2.out hT.out, List.length_append, HL.out]; rfl, by rw [hP2.out hT.out]; unfold OwnF; rw [List.length_append, HL.out, List.flatMap_append]; exact HO.out, HG.out⟩
end Go.Proofs.Ythogiakfbgehnaa

namespace Go.Proofs.Ythogiakfbgehnaa
open Go.RowKit Go.Shelf

attribute [local go_sem] Oper.semAt_some

end Go.Proofs.Ythogiakfbgehnaa

namespace Go.Proofs.Ythogiakfbgehnaa
open Go.RowKit

/-- An own row of names. -/
abbrev OwnS (w : World) (base n : Nat) (a : Option Addr) (cap : Nat) (l : List ByteArray) : Prop := w.ownsRow base 9 1 (.slice a n cap) n (l.map Value.string)
theorem OwnS.len {w : World} {base n cap : Nat} {a : Option Addr} {l : List ByteArray} (h : OwnS w base n a cap l) : l.length = n := by
  have := h.1
  simpa using this
theorem OwnS.nms {w : World} {base n cap : Nat} {a : Option Addr} {l : List ByteArray} (h : OwnS w base n a cap l) : Nms w a cap l := own_vs h
theorem OwnS.below {w w' : World} {base n cap : Nat} {a : Option Addr} {l : List ByteArray} (h : OwnS w base n a cap l) (hb : Below w.heap.size w w') : OwnS w' base n a cap l :=
  World.ownsRow.kept h (below_grownBy hb none) (by cases e : (Value.slice a n cap).ownBlock <;> simp)
/-- A name is put onto an own row. -/
theorem OwnS.push {w : World} {base n cap : Nat} {a : Option Addr} {l : List ByteArray} (h : OwnS w base n a cap l) (nm : ByteArray) (ty : TypeId) (hn : n + 1 ≤ 1099511627780) (hb : base ≤ w.heap.size) :
    ∃ a' c' w', (Builtin.append_ #[22, 22] ty #[.slice a n cap, .slice (some ⟨w.heap.size, 0, none⟩) 1 1]).run Try.prog (w.alloc (.cells #[.string nm] 9)) = .ok (.slice a' (n + 1) c') w' ∧
      OwnS w' base (n + 1) a' c' (l ++ [nm]) ∧ Below base w w' ∧ w.grownBy w' (Value.slice a n cap).ownBlock := by
  obtain ⟨a', c', w', hrun, ho, hg⟩ := run_pushV w 22 ty 9 _ 1 16 Try.underlying22 info_str rfl (by decide) (by decide) [.string nm] rfl (by simp [Value.oneCell']) h hn hb
  exact ⟨a', c', w', hrun, by simpa [OwnS] using ho, below_at hg (fun g e0 => (own_typ h g e0).1) hb, hg⟩
/-- Names are put onto an own row. -/
theorem OwnS.app {w : World} {base n cap : Nat} {a : Option Addr} {l : List ByteArray} (h : OwnS w base n a cap l) (b : Option Addr) (bc : Nat) (m : List ByteArray) (hm : Nms w b bc m) (ty : TypeId) (hn : n + m.length ≤ 1099511627780) (hb : base ≤ w.heap.size) :
    ∃ a' c' w', (Builtin.append_ #[22, 22] ty #[.slice a n cap, .slice b m.length bc]).run Try.prog w = .ok (.slice a' (n + m.length) c') w' ∧
      OwnS w' base (n + m.length) a' c' (l ++ m) ∧ Below base w w' := by
  obtain ⟨i0, hi, hz0, hz1, hz2⟩ := info_parts info_str
  cases b with
  | none =>
    have e0 := hm.nil_ rfl
    have hml : m = [] := by
      have := hm.le
      rw [e0] at this
      simpa using this
    subst e0
    subst hml
    exact ⟨a, cap, w, run_append_owned_none (P := Try.prog) w base _ ty _ i0 1 Try.underlying22 hi _ _ _ h, by simpa [OwnS] using h, Below.refl _ w⟩
  | some b' =>
    have hnew : ∀ j u, (m.map Value.string)[j]? = some u → w.cell? (b'.add j) = some u := by
      intro j u hj
      have hjl : j < (m.map Value.string).length := (List.getElem?_eq_some_iff.1 hj).1
      obtain ⟨b2, off, e⟩ := hm.at_ j hjl
      have e := Option.some.inj e
      subst e
      have := hm.cell b2 off rfl j hjl
      rw [show (⟨b2, off, none⟩ : Addr).add j = ⟨b2, off + j, none⟩ from by unfold Addr.add; split <;> simp_all]
      exact this.trans ((List.getElem?_eq_getElem hjl).symm.trans hj)
    obtain ⟨v', w', hrun, ho, hg, _⟩ := run_append_own (P := Try.prog) w base 22 ty 9 i0 _ 1 16 Try.underlying22 hi hz0 hz1 hz2 rfl (by decide) _ n _ h b' m.length bc (m.map Value.string) (by simp) hnew (fun u hu => by
      obtain ⟨x, _, rfl⟩ := List.mem_map.1 hu
      rfl) (by unfold maxLen; omega) (by omega) hb
    obtain ⟨a', cap', rfl⟩ := slice_of_own ho
    exact ⟨a', cap', w', hrun, by simpa [OwnS] using ho, below_at hg (fun g e0 => (own_typ h g e0).1) hb⟩

/-- One alternative of a rule of this name, told by the names that are known. -/
def altStep (nm : ByteArray) (o : List ByteArray) (a : List ByteArray) : List ByteArray := if (a.all (fun n => mem n o) && !mem nm o) = true then o ++ [nm] else o
def altsP (nm : ByteArray) (al : List (List ByteArray)) (o : List ByteArray) : List ByteArray := al.foldl (altStep nm) o
def passP (rs : List Rl) (o : List ByteArray) : List ByteArray := rs.foldl (fun o r => altsP r.1 r.2 o) o
def fertN (rs : List Rl) (t : List ByteArray) : Nat → List ByteArray
  | 0 => t
  | k + 1 => passP rs (fertN rs t k)
theorem altsP_snoc (nm : ByteArray) (al : List (List ByteArray)) (a : List ByteArray) (o : List ByteArray) : altsP nm (al ++ [a]) o = altStep nm (altsP nm al o) a := by simp [altsP, List.foldl_append]
theorem passP_snoc (rs : List Rl) (r : Rl) (o : List ByteArray) : passP (rs ++ [r]) o = altsP r.1 r.2 (passP rs o) := by simp [passP, List.foldl_append]
theorem altStep_len (nm : ByteArray) (o a : List ByteArray) : (altStep nm o a).length ≤ o.length + 1 ∧ (mem nm o = true → altStep nm o a = o) ∧ (altStep nm o a = o ∨ mem nm (altStep nm o a) = true) := by
  unfold altStep
  split
  · rename_i h
    simp only [Bool.and_eq_true, Bool.not_eq_true'] at h
    exact ⟨by simp, fun e => by rw [e] at h; exact absurd h.2 (by simp), .inr (by simp [mem])⟩
  · exact ⟨by omega, fun _ => rfl, .inl rfl⟩
theorem altsP_len (nm : ByteArray) : ∀ (al : List (List ByteArray)) (o : List ByteArray), (altsP nm al o).length ≤ o.length + 1 ∧ (mem nm o = true → altsP nm al o = o)
  | [], o => ⟨by simp [altsP], fun _ => rfl⟩
  | a :: al, o => by
    obtain ⟨h1, h2, h3⟩ := altStep_len nm o a
    obtain ⟨i1, i2⟩ := altsP_len nm al (altStep nm o a)
    have e : altsP nm (a :: al) o = altsP nm al (altStep nm o a) := rfl
    refine ⟨?_, fun h => ?_⟩
    · rcases h3 with h3 | h3
      · rw [e, h3]; rw [h3] at i1; exact i1
      · rw [e, i2 h3]; exact h1
    · rw [e, h2 h]
      rw [h2 h] at i2
      exact i2 h
theorem passP_len : ∀ (rs : List Rl) (o : List ByteArray), (passP rs o).length ≤ o.length + rs.length
  | [], o => by simp [passP]
  | r :: rs, o => by
    have h1 := (altsP_len r.1 r.2 o).1
    have h2 := passP_len rs (altsP r.1 r.2 o)
    have e : passP (r :: rs) o = passP rs (altsP r.1 r.2 o) := rfl
    rw [e, List.length_cons]
    omega
theorem fertN_len (rs : List Rl) (t : List ByteArray) : ∀ k, (fertN rs t k).length ≤ t.length + k * rs.length
  | 0 => by simp [fertN]
  | k + 1 => by
    have h1 := fertN_len rs t k
    have h2 := passP_len rs (fertN rs t k)
    rw [fertN, Nat.add_mul]
    omega
end Go.Proofs.Ythogiakfbgehnaa

namespace Go.Proofs.Ythogiakfbgehnaa
open Go.RowKit Go.Shelf

attribute [local go_sem] Oper.semAt_some

set_option maxRecDepth 100000 in
set_option maxHeartbeats 4000000 in
theorem refFertile_any (rs : List RlD) (a : Option Addr) (cap : Nat) (ts : List ByteArray) (ta : Option Addr) (tc : Nat) (w : World) (hl : Rls w a cap rs) (ht : Nms w ta tc ts) (hfew : rs.length ≤ 1000) (hfew2 : ts.length ≤ 1000) :
    Calls Try.prog 161 #[.agg #[.slice a rs.length cap], .slice ta ts.length tc] w fun r w' => ∃ a' c' n, r = .returned (.slice a' n c') ∧ OwnS w' w.heap.size n a' c' (fertN (grP rs) ts rs.length) ∧ Below w.heap.size w w' := by
  have hlm : rs.length ≤ cap ∧ cap ≤ 9223372036854775807 := ⟨hl.le, hl.max⟩
  have htm : ts.length ≤ tc ∧ tc ≤ 9223372036854775807 := ⟨by have := ht.le; rwa [List.length_map] at this, ht.max⟩
  have hA0 := Blk.new w 124 #[.slice a rs.length cap]
  have hb0 : Below w.heap.size w (w.alloc (.cells #[.slice a rs.length cap] 124)) := (Below.refl _ w).alloc (Nat.le_refl _) _
  have hs0 : w.heap.size < (w.alloc (.cells #[.slice a rs.length cap] 124)).heap.size := by simp [go_sem]
  obtain ⟨P, hP⟩ : ∃ P : Nat → List ByteArray, Hid (fertN (grP rs) ts = P) := ⟨_, Lib.hid rfl⟩
  have hP0 : Hid (P 0 = ts) := Lib.hid (by rw [← hP.out]; rfl)
  have hPs : Hid (∀ k, P (k + 1) = passP (grP rs) (P k)) := Lib.hid (fun k => by rw [← hP.out]; rfl)
  have hPl : Hid (∀ k, k ≤ rs.length → (P k).length ≤ 1001000) := Lib.hid (fun k hk => by
    have h1 := fertN_len (grP rs) ts k
    rw [hP.out, show (grP rs).length = rs.length by simp [grP]] at h1
    have := Nat.mul_le_mul hk (Nat.le_refl rs.length)
    have := Nat.mul_le_mul hfew hfew
    omega)
  rw [hP.out]
  obtain ⟨L, HL⟩ : ∃ L, Hid (rs.length = L) := ⟨_, Lib.hid rfl⟩
  obtain ⟨T, HT⟩ : ∃ L, Hid (ts.length = L) := ⟨_, Lib.hid rfl⟩
  rw [HL.out] at hlm hfew hA0 hb0 hs0 hPl ⊢
  rw [HT.out] at hfew2 htm ⊢
  have x0 := hA0.cell 0
  have xl := hA0.lt
  simp only [List.getElem?_cons_zero] at x0
  obtain ⟨a1, c1, w1, hrun, ho, hb1⟩ := OwnS.app (n := 0) (l := []) (base := (w.alloc (.cells #[.slice a L cap] 124)).heap.size) (World.ownsRow_nil (w.alloc (.cells #[.slice a L cap] 124)) _ 9 1) ta tc ts (ht.grown hb0) 22 (by rw [HT.out]; omega) (Nat.le_refl _)
  rw [Nat.zero_add, HT.out] at hrun ho
  have Hrun := Lib.hid hrun
  clear hrun
  rw [List.nil_append] at ho
  have HO1 := Lib.hid ho
  clear ho
  have x1 := cell_up hb1 x0
  have xl1 := Nat.lt_of_lt_of_le xl hb1.size
  go_enter Try.func161, Try.ntmps161
  go_wp2_with (at_builtin; refine wpList_append_run rfl _ _ 22 22 rfl _ _ _ _ rfl rfl Hrun.out ?_)
  clear Hrun
  generalize hW : World.alloc w _ = W at x0 xl hA0 hb0 hs0 hb1 x1 xl1 HO1 ⊢
  have HW := Lib.hid hW
  clear hW hA0
  go_loopw [5, 15] (fun s iv wr => ∃ (k n : Nat) (a' : Option Addr) (c' : Nat), k ≤ L ∧ iv = .int .i64 (k : Int) ∧ s = .slice a' n c' ∧ Hid (OwnS wr W.heap.size n a' c' (P k)) ∧ Below W.heap.size W wr) (fun _ iv _ => L - (intOf iv).toNat)
  case atStart => exact ⟨0, T, a1, c1, Nat.zero_le _, rfl, rfl, Lib.hid (by rw [hP0.out]; exact HO1.out), hb1⟩
  case round =>
    obtain ⟨k, n, a', c', hk, rfl, rfl, HO, hbr⟩ := hrel
    have z0 := cell_up hbr x0
    have zl := Nat.lt_of_lt_of_le xl hbr.size
    by_cases hlt : k < L
    · have hkI : (k : Int) < (L : Int) := by omega
      have hkI0 : (0 : Int) ≤ (k : Int) := by omega
      go_wp2_with (fail)
      go_loopw [5, 20] (fun s iv wr => ∃ (i n : Nat) (a' : Option Addr) (c' : Nat), i ≤ L ∧ iv = .int .i64 (i : Int) ∧ s = .slice a' n c' ∧ Hid (OwnS wr W.heap.size n a' c' (passP ((grP rs).take i) (P k))) ∧ Below W.heap.size W wr) (fun _ iv _ => L - (intOf iv).toNat)
      case atStart => exact ⟨0, n, a', c', Nat.zero_le _, rfl, rfl, Lib.hid (by exact HO.out), hbr⟩
      case round =>
        clear HO z0 zl hbr
        obtain ⟨i, n, a', c', hi, rfl, rfl, HO, hbr⟩ := hrel
        by_cases hlt2 : i < L
        · have hiI : (i : Int) < (L : Int) := by omega
          have hiI0 : (0 : Int) ≤ (i : Int) := by omega
          have hil : i < rs.length := by rw [HL.out]; exact hlt2
          have hbw := hb0.trans (hbr.mono hb0.size)
          obtain ⟨b, off, rfl⟩ := hl.at_ i hil
          obtain ⟨c0, c2⟩ := (hl.grown hbw).cell b off rfl i hil
          have hm : rs[i] ∈ rs := List.getElem_mem hil
          have htk := Lib.hid (grP_take rs i hil)
          obtain ⟨e, he⟩ : ∃ v, Hid (rs[i] = v) := ⟨_, Lib.hid rfl⟩
          rw [he.out] at c0 c2 hm htk
          have hbl := World.block_lt_of_cell? wr _ c0
          have hal := Lib.hid (hl.alts e hm)
          have hem : e.ds.length ≤ e.c ∧ e.c ≤ 9223372036854775807 := ⟨by have := hal.out.row.le; rw [List.length_map] at this; exact this, hal.out.row.max⟩
          have hB0 := Blk.new wr 177 #[.string e.n, .slice e.a e.ds.length e.c]
          have hb2 : Below W.heap.size W (wr.alloc (.cells #[.string e.n, .slice e.a e.ds.length e.c] 177)) := hbr.alloc hbr.size _
          obtain ⟨M, HM⟩ : ∃ M, Hid (e.ds.length = M) := ⟨_, Lib.hid rfl⟩
          rw [HM.out] at hB0 c2 hem hb2
          have y0 := hB0.cell 0
          have y1 := hB0.cell 1
          have yl := hB0.lt
          simp only [List.getElem?_cons_zero, List.getElem?_cons_succ] at y0 y1
          obtain ⟨O1, hO1⟩ : ∃ q, Hid (passP ((grP rs).take i) (P k) = q) := ⟨_, Lib.hid rfl⟩
          have hlen := Lib.hid (show O1.length ≤ 1002000 by
            have h1 := passP_len ((grP rs).take i) (P k)
            have h2 := hPl.out k (by omega)
            rw [hO1.out] at h1
            have h3 : ((grP rs).take i).length ≤ i := by simp; omega
            omega)
          rw [hO1.out] at HO
          have HO2 := Lib.hid (OwnS.below HO.out ((Below.refl _ wr).alloc (Nat.le_refl _) (.cells #[.string e.n, .slice e.a M e.c] 177)))
          obtain ⟨nm, hnm⟩ : ∃ q, Hid (e.n = q) := ⟨_, Lib.hid rfl⟩
          obtain ⟨ea, hea⟩ : ∃ q, Hid (e.a = q) := ⟨_, Lib.hid rfl⟩
          obtain ⟨ec, hec⟩ : ∃ q, Hid (e.c = q) := ⟨_, Lib.hid rfl⟩
          rw [hnm.out] at c0 hB0 hb2 y0 y1 yl HO2
          rw [hea.out] at c2 hB0 hb2 y0 y1 yl HO2
          rw [hec.out] at c2 hB0 hb2 y0 y1 yl HO2 hem
          clear hm HO
          go_wp2_with (fail)
          generalize hV : World.alloc wr _ = V at y0 y1 yl hb2 HO2 hB0 ⊢
          have HV := Lib.hid hV
          have HB0 := Lib.hid hB0
          clear hV hB0
          go_loopw [5, 27] (fun s iv wv => ∃ (j n : Nat) (a' : Option Addr) (c' : Nat), j ≤ M ∧ iv = .int .i64 (j : Int) ∧ s = .slice a' n c' ∧ Hid (OwnS wv W.heap.size n a' c' (altsP nm ((e.ds.map AltD.l).take j) O1)) ∧ Below W.heap.size W wv ∧ Hid (Blk wv wr.heap.size 177 [.string nm, .slice ea M ec])) (fun _ iv _ => M - (intOf iv).toNat)
          case atStart => exact ⟨0, n, a', c', Nat.zero_le _, rfl, rfl, Lib.hid (by exact HO2.out), hb2, HB0⟩
          case round =>
            obtain ⟨j, n2, a2, c3, hj, rfl, rfl, HO3, hbv, HZ⟩ := hrel
            have z1 := HZ.out.cell 0
            have zl1 := HZ.out.lt
            simp only [List.getElem?_cons_zero] at z1
            obtain ⟨O, hO⟩ : ∃ q, Hid (altsP nm ((e.ds.map AltD.l).take j) O1 = q) := ⟨_, Lib.hid rfl⟩
            rw [hO.out] at HO3
            have hOn : Hid (O.length = n2) := Lib.hid (OwnS.len HO3.out)
            have hOl : Hid (n2 ≤ 1002001) := Lib.hid (by
              have h1 := (altsP_len nm ((e.ds.map AltD.l).take j) O1).1
              rw [hO.out, hOn.out] at h1
              have := hlen.out
              omega)
            by_cases hlt3 : j < M
            · have hjI : (j : Int) < (M : Int) := by omega
              have hjI0 : (0 : Int) ≤ (j : Int) := by omega
              have hjl : j < e.ds.length := by rw [HM.out]; exact hlt3
              have hbwv := hb0.trans (hbv.mono hb0.size)
              obtain ⟨b3, o3, hb3⟩ := hal.out.row.at_ j (by rw [List.length_map]; exact hjl)
              have hea2 : ea = some ⟨b3, o3, none⟩ := hea.out.symm.trans hb3
              subst hea2
              have d0 := (hal.out.row.grown hbwv).cell b3 o3 hb3 j (by rw [List.length_map]; exact hjl)
              rw [List.getElem_map] at d0
              have hmd : e.ds[j] ∈ e.ds := List.getElem_mem hjl
              have htk2 := Lib.hid (alP_take e.ds j hjl)
              obtain ⟨d, hd⟩ : ∃ v, Hid (e.ds[j] = v) := ⟨_, Lib.hid rfl⟩
              rw [hd.out] at d0 hmd htk2
              rw [altv] at d0
              have hNd := (hal.out.nms d hmd).grown hbwv
              have Hc := Lib.hid (refAll_any d.l d.a d.c O a2 c3 wr hNd HO3.out.nms)
              have Hc2 := Lib.hid (refHas_any O a2 c3 nm wr HO3.out.nms)
              have hdm : d.l.length ≤ d.c ∧ d.c ≤ 9223372036854775807 := ⟨by have := hNd.le; rwa [List.length_map] at this, hNd.max⟩
              have hst := Lib.hid (show altsP nm ((e.ds.map AltD.l).take (j + 1)) O1 = altStep nm O d.l by rw [← List.map_take, htk2.out, altsP_snoc, List.map_take, hO.out])
              obtain ⟨D, hD⟩ : ∃ q, Hid (d.l.length = q) := ⟨_, Lib.hid rfl⟩
              rw [hD.out] at d0 Hc hdm
              rw [hOn.out] at Hc Hc2
              obtain ⟨S, hS⟩ : ∃ S, Hid (d.l.all (fun n => mem n O) = S) := ⟨_, Lib.hid rfl⟩
              obtain ⟨S2, hS2⟩ : ∃ S, Hid (mem nm O = S) := ⟨_, Lib.hid rfl⟩
              have hst2 : Hid (altStep nm O d.l = if (S && !S2) = true then O ++ [nm] else O) := Lib.hid (by unfold altStep; rw [hS.out, hS2.out])
              rw [hS.out] at Hc
              rw [hS2.out] at Hc2
              have hbl3 := World.block_lt_of_cell? wr _ d0
              clear hNd hmd
              go_wp2_with (fail)
              refine Hc.out.mono ?_
              rintro r w3 ⟨rfl, hw3⟩
              subst w3
              cases S
              · go_wp2_with (fail)
                exact ⟨⟨j + 1, n2, a2, c3, by omega, by go_num, rfl, Lib.hid (by rw [hst.out, hst2.out]; exact HO3.out), hbv, HZ⟩, by simp [intOf]; omega⟩
              · go_wp2_with (fail)
                refine Hc2.out.mono ?_
                rintro r w3 ⟨rfl, hw3⟩
                subst w3
                cases S2
                · obtain ⟨a4, c4, w4, hrun, ho, hb4, hg4⟩ := OwnS.push HO3.out nm 22 (by have := hOl.out; omega) hbv.size
                  have Hrun := Lib.hid hrun
                  have HO4 := Lib.hid ho
                  clear hrun ho
                  have hbW : Below W.heap.size W w4 := hbv.trans hb4
                  have HZ4 := Lib.hid (HZ.out.kept hg4 (fun e0 => own_ne_ty HO3.out HZ.out (by decide) e0.symm))
                  clear hg4 hb4
                  go_wp2_with (at_builtin; refine wpList_append_run rfl _ _ 22 22 rfl _ _ _ _ rfl rfl Hrun.out ?_)
                  exact ⟨⟨j + 1, n2 + 1, a4, c4, by omega, by go_num, rfl, Lib.hid (by rw [hst.out, hst2.out]; exact HO4.out), hbW, HZ4⟩, by simp [intOf]; omega⟩
                · go_wp2_with (fail)
                  exact ⟨⟨j + 1, n2, a2, c3, by omega, by go_num, rfl, Lib.hid (by rw [hst.out, hst2.out]; exact HO3.out), hbv, HZ⟩, by simp [intOf]; omega⟩
            · obtain rfl : j = M := by omega
              have hjI : ¬ (j : Int) < (j : Int) := by omega
              have hfin := Lib.hid (show passP ((grP rs).take (i + 1)) (P k) = O by
                have := htk.out
                rw [grP, grP, List.map_take, List.map_take] at this
                rw [grP, this, passP_snoc]
                rw [show passP ((rs.map RlD.p).take i) (P k) = O1 from hO1.out]
                show altsP e.n (e.ds.map AltD.l) O1 = O
                rw [hnm.out, ← hO.out, List.take_of_length_le (by rw [List.length_map, HM.out]; exact Nat.le_refl _)])
              go_wp2_with (fail)
              exact ⟨⟨i + 1, n2, a2, c3, by omega, by go_num, rfl, Lib.hid (by rw [hfin.out]; exact HO3.out), hbv⟩, by simp [intOf]; omega⟩
        · obtain rfl : i = L := by omega
          have hiI : ¬ (i : Int) < (i : Int) := by omega
          have hfin := Lib.hid (show P (k + 1) = passP ((grP rs).take i) (P k) by rw [hPs.out, List.take_of_length_le (by simp [grP, HL.out])])
          go_wp2_with (fail)
          exact ⟨⟨k + 1, n, a', c', by omega, by go_num, rfl, Lib.hid (by rw [hfin.out]; exact HO.out), hbr⟩, by simp [intOf]; omega⟩
    · obtain rfl : k = L := by omega
      have hkI : ¬ (k : Int) < (k : Int) := by omega
      have hbw := hb0.trans (hbr.mono hb0.size)
      go_wp2_with (fail)
      exact bodyPost_ret (v := .slice a' n c') (by simp [results, Try.results161, go_sem]; try first | rfl | assumption | omega) rfl ⟨a', c', n, rfl, own_mono HO.out (Nat.le_of_lt hs0), hbw⟩
end Go.Proofs.Ythogiakfbgehnaa

namespace Go.Proofs.Ythogiakfbgehnaa
open Go.RowKit

theorem nodup_sub {α : Type} [DecidableEq α] : ∀ (l m : List α), l.Nodup → (∀ a ∈ l, a ∈ m) → l.length ≤ m.length
  | [], _, _, _ => Nat.zero_le _
  | a :: l, m, h, hs => by
    rw [List.nodup_cons] at h
    have h1 := nodup_sub l (m.erase a) h.2 (fun b hb => (List.mem_erase_of_ne (fun (e : b = a) => h.1 (by rw [← e]; exact hb))).2 (hs b (List.mem_cons_of_mem _ hb)))
    have h2 := List.length_erase_of_mem (hs a List.mem_cons_self)
    have h3 : 0 < m.length := List.length_pos_of_mem (hs a List.mem_cons_self)
    rw [List.length_cons]
    omega
def addS (o : List ByteArray) (n : ByteArray) : List ByteArray := if mem n o = true then o else o ++ [n]
def addAll (l : List ByteArray) (o : List ByteArray) : List ByteArray := l.foldl addS o
def addAlts (al : List (List ByteArray)) (o : List ByteArray) : List ByteArray := al.foldl (fun o a => addAll a o) o
def visitS (x : ByteArray) (o : List ByteArray) (r : Rl) : List ByteArray := if r.1 = x then addAlts r.2 o else o
def visit (rs : List Rl) (x : ByteArray) (o : List ByteArray) : List ByteArray := rs.foldl (visitS x) o
/-- What the reference has found behind so many steps. -/
def ledO (rs : List Rl) (f : ByteArray) : Nat → List ByteArray
  | 0 => [f]
  | k + 1 => match (ledO rs f k)[k]? with
    | some x => visit rs x (ledO rs f k)
    | none => ledO rs f k
theorem addAll_snoc (l : List ByteArray) (n : ByteArray) (o : List ByteArray) : addAll (l ++ [n]) o = addS (addAll l o) n := by simp [addAll, List.foldl_append]
theorem addAlts_snoc (al : List (List ByteArray)) (a : List ByteArray) (o : List ByteArray) : addAlts (al ++ [a]) o = addAll a (addAlts al o) := by simp [addAlts, List.foldl_append]
theorem visit_snoc (rs : List Rl) (r : Rl) (x : ByteArray) (o : List ByteArray) : visit (rs ++ [r]) x o = visitS x (visit rs x o) r := by simp [visit, List.foldl_append]
/-- All names that stand in alternatives. -/
def namesR (rs : List Rl) : List ByteArray := rs.flatMap (fun r => r.2.flatten)
/-- Names of these, each once. -/
def OkU (U o : List ByteArray) : Prop := o.Nodup ∧ ∀ x ∈ o, x ∈ U
theorem OkU.len {U o : List ByteArray} (h : OkU U o) : o.length ≤ U.length := nodup_sub o U h.1 h.2
theorem OkU.addS {U o : List ByteArray} (h : OkU U o) {n : ByteArray} (hn : n ∈ U) : OkU U (addS o n) := by
  unfold Go.Proofs.Ythogiakfbgehnaa.addS
  split
  · exact h
  · rename_i hm
    have hm2 : n ∉ o := fun e => hm (mem_iff.2 e)
    refine ⟨List.nodup_append.2 ⟨h.1, by simp, fun a ha b hb e => hm2 ?_⟩, fun x hx => ?_⟩
    · rw [List.mem_singleton] at hb
      rw [← hb, ← e]; exact ha
    · rcases List.mem_append.1 hx with hx | hx
      · exact h.2 x hx
      · rw [List.mem_singleton] at hx; rw [hx]; exact hn
theorem OkU.addAll {U : List ByteArray} : ∀ (l o : List ByteArray), OkU U o → (∀ x ∈ l, x ∈ U) → OkU U (addAll l o)
  | [], _, h, _ => h
  | n :: l, o, h, hl => OkU.addAll l (Go.Proofs.Ythogiakfbgehnaa.addS o n) (h.addS (hl n List.mem_cons_self)) (fun x hx => hl x (List.mem_cons_of_mem _ hx))
theorem OkU.addAlts {U : List ByteArray} : ∀ (al : List (List ByteArray)) (o : List ByteArray), OkU U o → (∀ a ∈ al, ∀ x ∈ a, x ∈ U) → OkU U (addAlts al o)
  | [], _, h, _ => h
  | a :: al, o, h, hl => OkU.addAlts al (Go.Proofs.Ythogiakfbgehnaa.addAll a o) (OkU.addAll a o h (hl a List.mem_cons_self)) (fun b hb => hl b (List.mem_cons_of_mem _ hb))
theorem OkU.visit {U : List ByteArray} (x : ByteArray) : ∀ (rs : List Rl) (o : List ByteArray), OkU U o → (∀ r ∈ rs, ∀ a ∈ r.2, ∀ y ∈ a, y ∈ U) → OkU U (visit rs x o)
  | [], _, h, _ => h
  | r :: rs, o, h, hl => by
    refine OkU.visit x rs (visitS x o r) ?_ (fun b hb => hl b (List.mem_cons_of_mem _ hb))
    unfold visitS
    split
    · exact OkU.addAlts r.2 o h (hl r List.mem_cons_self)
    · exact h
theorem names_mem {rs : List Rl} {f : ByteArray} : ∀ r ∈ rs, ∀ a ∈ r.2, ∀ y ∈ a, y ∈ f :: namesR rs := fun r hr a ha y hy =>
  List.mem_cons_of_mem _ (List.mem_flatMap.2 ⟨r, hr, List.mem_flatten.2 ⟨a, ha, hy⟩⟩)
theorem led_ok (rs : List Rl) (f : ByteArray) : ∀ k, OkU (f :: namesR rs) (ledO rs f k)
  | 0 => ⟨by simp [ledO], fun x hx => by simp [ledO] at hx; simp [hx]⟩
  | k + 1 => by
    rw [ledO]
    split
    · exact OkU.visit _ rs _ (led_ok rs f k) names_mem
    · exact led_ok rs f k
theorem OwnS.lit (w : World) (base : Nat) (nm : ByteArray) (hb : base ≤ w.heap.size) : OwnS (w.alloc (.cells #[.string nm] 9)) base 1 (some ⟨w.heap.size, 0, none⟩) 1 [nm] := by
  have := World.ownsRow_lit (base := base) (e := 9) (size := 1) w #[.string nm] 1 hb (by unfold maxLen; omega) rfl
  exact this
end Go.Proofs.Ythogiakfbgehnaa

namespace Go.Proofs.Ythogiakfbgehnaa
open Go.RowKit Go.Shelf

attribute [local go_sem] Oper.semAt_some

/-- A list that begins so. -/
def Pre (o p : List ByteArray) : Prop := ∃ t, p = o ++ t
theorem Pre.refl (o : List ByteArray) : Pre o o := ⟨[], by simp⟩
theorem Pre.trans {o p q : List ByteArray} (h : Pre o p) (k : Pre p q) : Pre o q := by
  obtain ⟨t, rfl⟩ := h
  obtain ⟨u, rfl⟩ := k
  exact ⟨t ++ u, by rw [List.append_assoc]⟩
theorem Pre.at {o p : List ByteArray} (h : Pre o p) {k : Nat} (hk : k < o.length) : p[k]? = o[k]? := by
  obtain ⟨t, rfl⟩ := h
  exact List.getElem?_append_left hk
theorem pre_addS (o : List ByteArray) (n : ByteArray) : Pre o (addS o n) := by
  unfold addS
  split
  · exact Pre.refl o
  · exact ⟨[n], rfl⟩
theorem pre_addAll : ∀ (l o : List ByteArray), Pre o (addAll l o)
  | [], o => Pre.refl o
  | n :: l, o => (pre_addS o n).trans (pre_addAll l (addS o n))
theorem pre_addAlts : ∀ (l : List (List ByteArray)) (o : List ByteArray), Pre o (addAlts l o)
  | [], o => Pre.refl o
  | a :: l, o => (pre_addAll a o).trans (pre_addAlts l (addAll a o))
theorem pre_visit (x : ByteArray) : ∀ (rs : List Rl) (o : List ByteArray), Pre o (visit rs x o)
  | [], o => Pre.refl o
  | r :: rs, o => by
    refine Pre.trans ?_ (pre_visit x rs (visitS x o r))
    unfold visitS
    split
    · exact pre_addAlts r.2 o
    · exact Pre.refl o
/-- What led comes to: all that was found was looked at. -/
def LedR (rs : List RlD) (o : List ByteArray) : Prop := match rs with
  | [] => o = []
  | r :: _ => ∃ k, o = ledO (grP rs) r.n k ∧ o.length ≤ k

set_option maxRecDepth 100000 in
set_option maxHeartbeats 4000000 in
theorem refLed_any (rs : List RlD) (a : Option Addr) (cap : Nat) (w : World) (hl : Rls w a cap rs) (hfew : rs.length ≤ 1000) (hfew2 : (namesR (grP rs)).length ≤ 1000000) :
    Calls Try.prog 162 #[.agg #[.slice a rs.length cap]] w fun r w' => ∃ a' c' n o, r = .returned (.slice a' n c') ∧ OwnS w' w.heap.size n a' c' o ∧ LedR rs o ∧ Below w.heap.size w w' := by
  have hlm : rs.length ≤ cap ∧ cap ≤ 9223372036854775807 := ⟨hl.le, hl.max⟩
  have hA0 := Blk.new w 124 #[.slice a rs.length cap]
  have hb0 : Below w.heap.size w (w.alloc (.cells #[.slice a rs.length cap] 124)) := (Below.refl _ w).alloc (Nat.le_refl _) _
  have hs0 : w.heap.size < (w.alloc (.cells #[.slice a rs.length cap] 124)).heap.size := by simp [go_sem]
  obtain ⟨L, HL⟩ : ∃ L, Hid (rs.length = L) := ⟨_, Lib.hid rfl⟩
  rw [HL.out] at hlm hfew hA0 hb0 hs0 ⊢
  have x0 := hA0.cell 0
  have xl := hA0.lt
  simp only [List.getElem?_cons_zero] at x0
  by_cases hL0 : L = 0
  · have hE : Hid (LedR rs []) := Lib.hid (by
      have : rs = [] := List.length_eq_zero_iff.1 (by rw [HL.out, hL0])
      subst this
      rfl)
    subst hL0
    go_enter Try.func162, Try.ntmps162
    go_wp2_with (fail)
    exact bodyPost_ret (v := .slice none 0 0) (by simp [results, Try.results162, go_sem]; try first | rfl | assumption | omega) rfl ⟨none, 0, 0, rfl, [], World.ownsRow_nil _ _ _ 1, hE.out, hb0⟩
  · have hL1 : 0 < L := by omega
    have hL1I : (0 : Int) < (L : Int) := by omega
    have hL2 : ((L : Int) == 0) = false := by rw [beq_eq_false_iff_ne]; omega
    obtain ⟨f, hf⟩ : ∃ f, Hid (∀ o, (∃ k, o = ledO (grP rs) f k ∧ o.length ≤ k) → LedR rs o) ∧ ∃ h : 0 < rs.length, rs[0].n = f := by
      cases rs with
      | nil => exact absurd HL.out (by simp; omega)
      | cons r rs' => exact ⟨r.n, Lib.hid (fun o h => h), by simp, rfl⟩
    obtain ⟨HE, hr0, hrn⟩ := hf
    have Hrn := Lib.hid hrn
    obtain ⟨O, hO⟩ : ∃ O : Nat → List ByteArray, Hid (ledO (grP rs) f = O) := ⟨_, Lib.hid rfl⟩
    have hO0 : Hid (O 0 = [f]) := Lib.hid (by rw [← hO.out]; rfl)
    have hOs : Hid (∀ k x, (O k)[k]? = some x → O (k + 1) = visit (grP rs) x (O k)) := Lib.hid (fun k x h => by
      rw [← hO.out] at h ⊢
      rw [ledO, h])
    have hOk : Hid (∀ k, OkU (f :: namesR (grP rs)) (O k)) := Lib.hid (fun k => by rw [← hO.out]; exact led_ok _ _ k)
    rw [hO.out] at HE
    clear hO
    obtain ⟨N, hN⟩ : ∃ N, Hid (f :: namesR (grP rs) = N) := ⟨_, Lib.hid rfl⟩
    have hNl : Hid (N.length ≤ 1000001) := Lib.hid (by rw [← hN.out, List.length_cons]; omega)
    have hNm : Hid (∀ r ∈ grP rs, ∀ a ∈ r.2, ∀ y ∈ a, y ∈ N) := Lib.hid (by rw [← hN.out]; exact names_mem)
    rw [hN.out] at hOk
    clear hN hfew2
    have b0 := (hl.grown hb0)
    obtain ⟨b, off, rfl⟩ := hl.at_ 0 hr0
    obtain ⟨c0, -⟩ := b0.cell b off rfl 0 hr0
    rw [hrn, Nat.zero_mul, Nat.add_zero] at c0
    have hbl0 := World.block_lt_of_cell? _ _ c0
    have hsz : (w.alloc (.cells #[.slice (some ⟨b, off, none⟩) L cap] 124)).heap.size = w.heap.size + 1 := by simp [go_sem]
    have ho1 := OwnS.lit (w.alloc (.cells #[.slice (some ⟨b, off, none⟩) L cap] 124)) _ f (Nat.le_refl _)
    have hb1 := (Below.refl _ (w.alloc (.cells #[.slice (some ⟨b, off, none⟩) L cap] 124))).alloc (Nat.le_refl _) (.cells #[.string f] 9)
    have x1 := cell_up hb1 x0
    have xl1 := Nat.lt_of_lt_of_le xl hb1.size
    rw [hsz] at ho1 hb1
    have HO1 := Lib.hid ho1
    clear ho1 hrn b0
    have hs1 : w.heap.size + 1 ≤ (w.alloc (.cells #[.slice (some ⟨b, off, none⟩) L cap] 124)).heap.size := by rw [hsz]; exact Nat.le_refl _
    clear hsz
    go_enter Try.func162, Try.ntmps162
    go_wp2_with (fail)
    generalize hW1 : World.alloc (World.alloc w _) _ = W1 at HO1 hb1 x1 xl1 ⊢
    generalize hW : World.alloc w _ = W at x0 xl c0 hbl0 hb0 hb1 hs0 hs1 hW1 hA0
    have HW1 := Lib.hid hW1
    have HW := Lib.hid hW
    clear hW1 hW hA0 c0 hbl0 x1 xl1
    go_loopw [3, 4] (fun s iv wr => ∃ (k n : Nat) (a' : Option Addr) (c' : Nat), k ≤ n ∧ iv = .int .i64 (k : Int) ∧ s = .slice a' n c' ∧ Hid (OwnS wr (w.heap.size + 1) n a' c' (O k)) ∧ Below (w.heap.size + 1) W wr) (fun _ iv _ => 1000002 - (intOf iv).toNat)
    case atStart => exact ⟨0, 1, _, _, Nat.zero_le _, rfl, rfl, Lib.hid (by rw [hO0.out]; exact HO1.out), hb1⟩
    case round =>
      obtain ⟨k, n, a', c', hk, rfl, rfl, HO, hbr⟩ := hrel
      have z0 := (hbr.cell (p := ⟨w.heap.size, 0, none⟩) (Nat.lt_succ_self _)).trans x0
      have zl := Nat.lt_of_lt_of_le xl hbr.size
      have hn : Hid ((O k).length = n) := Lib.hid (OwnS.len HO.out)
      have hnN := Lib.hid (Nat.le_trans (hOk.out k).len hNl.out)
      by_cases hlt : k < n
      · have hkI : (k : Int) < (n : Int) := by omega
        have hkI0 : (0 : Int) ≤ (k : Int) := by omega
        have hkn : k < (O k).length := by rw [hn.out]; exact hlt
        obtain ⟨x, hx⟩ : ∃ x, Hid ((O k)[k]? = some x) := ⟨(O k)[k], Lib.hid (List.getElem?_eq_getElem hkn)⟩
        have hk6 : k ≤ 1000001 := by have := hnN.out; rw [hn.out] at this; omega
        go_wp2_with (fail)
        go_loopw [3, 30] (fun s iv wv => ∃ (i n2 : Nat) (a2 : Option Addr) (c2 : Nat), i ≤ L ∧ iv = .int .i64 (i : Int) ∧ s = .slice a2 n2 c2 ∧ Hid (OwnS wv (w.heap.size + 1) n2 a2 c2 (visit ((grP rs).take i) x (O k))) ∧ Below (w.heap.size + 1) W wv) (fun _ iv _ => L - (intOf iv).toNat)
        case atStart => exact ⟨0, n, a', c', Nat.zero_le _, rfl, rfl, Lib.hid (by exact HO.out), hbr⟩
        case round =>
          clear HO z0 zl hbr
          obtain ⟨i, n2, a2, c2, hi, rfl, rfl, HO2, hbr⟩ := hrel
          obtain ⟨O2, hO2⟩ : ∃ q, Hid (visit ((grP rs).take i) x (O k) = q) := ⟨_, Lib.hid rfl⟩
          rw [hO2.out] at HO2
          have hn2 : Hid (O2.length = n2) := Lib.hid (OwnS.len HO2.out)
          by_cases hlt2 : i < L
          · have hiI : (i : Int) < (L : Int) := by omega
            have hiI0 : (0 : Int) ≤ (i : Int) := by omega
            have hil : i < rs.length := by rw [HL.out]; exact hlt2
            have hbw := hb0.trans (hbr.mono (Nat.le_succ _))
            obtain ⟨b3, o3, e3⟩ := hl.at_ i hil
            injection e3 with e3
            injection e3 with e3 e4
            subst e3 e4
            obtain ⟨c0, c1⟩ := (hl.grown hbw).cell b off rfl i hil
            have hm : rs[i] ∈ rs := List.getElem_mem hil
            have htk := Lib.hid (grP_take rs i hil)
            obtain ⟨e, he⟩ : ∃ v, Hid (rs[i] = v) := ⟨_, Lib.hid rfl⟩
            rw [he.out] at c0 c1 hm htk
            have hbl := World.block_lt_of_cell? wr _ c0
            have hal := Lib.hid (hl.alts e hm)
            have hmG : Hid (∀ a ∈ e.ds.map AltD.l, ∀ y ∈ a, y ∈ N) := Lib.hid (hNm.out e.p (List.mem_map_of_mem hm))
            have hok2 : Hid (OkU N O2) := Lib.hid (by
              rw [← hO2.out]
              exact OkU.visit x _ _ (hOk.out k) (fun r hr => hNm.out r (List.mem_of_mem_take hr)))
            have hem : e.ds.length ≤ e.c ∧ e.c ≤ 9223372036854775807 := ⟨by have := hal.out.row.le; rw [List.length_map] at this; exact this, hal.out.row.max⟩
            have hB0 := Blk.new wr 177 #[.string e.n, .slice e.a e.ds.length e.c]
            have hb2 : Below (w.heap.size + 1) W (wr.alloc (.cells #[.string e.n, .slice e.a e.ds.length e.c] 177)) := hbr.alloc (Nat.le_trans hs1 hbr.size) _
            have hst : Hid (visit ((grP rs).take (i + 1)) x (O k) = visitS x O2 e.p) := Lib.hid (by rw [show (grP rs).take (i + 1) = (grP rs).take i ++ [e.p] from by have := htk.out; simpa [grP, List.map_take] using this, visit_snoc, hO2.out])
            obtain ⟨M, HM⟩ : ∃ M, Hid (e.ds.length = M) := ⟨_, Lib.hid rfl⟩
            rw [HM.out] at hB0 c1 hem hb2
            have y0 := hB0.cell 0
            have y1 := hB0.cell 1
            have yl := hB0.lt
            simp only [List.getElem?_cons_zero, List.getElem?_cons_succ] at y0 y1
            have ho2 := OwnS.below HO2.out ((Below.refl _ wr).alloc (Nat.le_refl _) (.cells #[.string e.n, .slice e.a M e.c] 177))
            have hk2 : k < O2.length := by
              have := (pre_visit x ((grP rs).take i) (O k))
              rw [hO2.out] at this
              obtain ⟨t, rfl⟩ := this
              rw [List.length_append]
              omega
            have hat : O2[k]? = some x := by
              have := (pre_visit x ((grP rs).take i) (O k)).at hkn
              rw [hO2.out, hx.out] at this
              exact this
            have hNO := OwnS.nms ho2
            have hnm2 := hNO.le
            have hnm3 := hNO.max
            rw [List.length_map, hn2.out] at hnm2
            obtain ⟨b4, o4, rfl⟩ := hNO.at_ k (by rw [List.length_map]; exact hk2)
            have q0 := hNO.cell b4 o4 rfl k (by rw [List.length_map]; exact hk2)
            rw [List.getElem_map, show O2[k] = x from by rw [List.getElem?_eq_getElem hk2] at hat; exact Option.some.inj hat] at q0
            have hbl4 := World.block_lt_of_cell? _ _ q0
            have hk3 : (k : Int) < (n2 : Int) := by rw [hn2.out] at hk2; omega
            have HO3 := Lib.hid ho2
            clear hNO ho2 hm HO2 hat hk2
            obtain ⟨nm, hnm⟩ : ∃ q, Hid (e.n = q) := ⟨_, Lib.hid rfl⟩
            obtain ⟨ea, hea⟩ : ∃ q, Hid (e.a = q) := ⟨_, Lib.hid rfl⟩
            obtain ⟨ec, hec⟩ : ∃ q, Hid (e.c = q) := ⟨_, Lib.hid rfl⟩
            rw [hnm.out] at c0 hB0 hb2 y0 y1 yl HO3 q0 hbl4
            rw [hea.out] at c1 hB0 hb2 y0 y1 yl HO3 q0 hbl4
            rw [hec.out] at c1 hB0 hb2 y0 y1 yl HO3 hem q0 hbl4
            clear hB0
            by_cases e1 : nm = x
            · subst e1
              have hst2 : Hid (visit ((grP rs).take (i + 1)) nm (O k) = addAlts (e.ds.map AltD.l) O2) := Lib.hid (by rw [hst.out]; unfold visitS; rw [if_pos (by show e.n = nm; rw [hnm.out])]; rfl)
              go_wp2_with (fail)
              go_region
              go_wp2_with (fail)
              have hb3 := hb2.drew
              have HO4 : Hid (OwnS (wr.alloc (.cells #[.string nm, .slice ea M ec] 177)).drew (w.heap.size + 1) n2 (some ⟨b4, o4, none⟩) c2 O2) := Lib.hid HO3.out
              generalize hV : World.drew _ = V at hb3 HO4 ⊢
              have HV := Lib.hid hV
              clear hV y0 y1 yl q0 hbl4 HO3 hb2
              go_loopw [3, 44] (fun s iv wv => ∃ (j n3 : Nat) (a3 : Option Addr) (c3 : Nat), j ≤ M ∧ iv = .int .i64 (j : Int) ∧ s = .slice a3 n3 c3 ∧ Hid (OwnS wv (w.heap.size + 1) n3 a3 c3 (addAlts ((e.ds.map AltD.l).take j) O2)) ∧ Below (w.heap.size + 1) W wv) (fun _ iv _ => M - (intOf iv).toNat)
              case atStart => exact ⟨0, n2, _, c2, Nat.zero_le _, rfl, rfl, Lib.hid (by exact HO4.out), hb3⟩
              case round =>
                clear HO4 hb3 c0 c1 hbl hbw hbr
                obtain ⟨j, n3, a3, c3, hj, rfl, rfl, HO5, hbr⟩ := hrel
                obtain ⟨O3, hO3⟩ : ∃ q, Hid (addAlts ((e.ds.map AltD.l).take j) O2 = q) := ⟨_, Lib.hid rfl⟩
                rw [hO3.out] at HO5
                by_cases hlt3 : j < M
                · have hjI : (j : Int) < (M : Int) := by omega
                  have hjI0 : (0 : Int) ≤ (j : Int) := by omega
                  have hjl : j < e.ds.length := by rw [HM.out]; exact hlt3
                  have hbwv := hb0.trans (hbr.mono (Nat.le_succ _))
                  obtain ⟨b6, o6, hb6⟩ := hal.out.row.at_ j (by rw [List.length_map]; exact hjl)
                  have hea2 : ea = some ⟨b6, o6, none⟩ := hea.out.symm.trans hb6
                  subst hea2
                  have d0 := (hal.out.row.grown hbwv).cell b6 o6 hb6 j (by rw [List.length_map]; exact hjl)
                  rw [List.getElem_map] at d0
                  have hmd : e.ds[j] ∈ e.ds := List.getElem_mem hjl
                  have htk2 := Lib.hid (alP_take e.ds j hjl)
                  obtain ⟨d, hd⟩ : ∃ v, Hid (e.ds[j] = v) := ⟨_, Lib.hid rfl⟩
                  rw [hd.out] at d0 hmd htk2
                  rw [altv] at d0
                  have hNd := Lib.hid (hal.out.nms d hmd)
                  have hdm : d.l.length ≤ d.c ∧ d.c ≤ 9223372036854775807 := ⟨by have := hNd.out.le; rwa [List.length_map] at this, hNd.out.max⟩
                  have hmD : Hid (∀ y ∈ d.l, y ∈ N) := Lib.hid (hmG.out d.l (List.mem_map_of_mem hmd))
                  have hok3 : Hid (OkU N O3) := Lib.hid (by rw [← hO3.out]; exact OkU.addAlts _ _ hok2.out (fun a ha => hmG.out a (List.mem_of_mem_take ha)))
                  have hst3 := Lib.hid (show addAlts ((e.ds.map AltD.l).take (j + 1)) O2 = addAll d.l O3 by rw [← List.map_take, htk2.out, addAlts_snoc, List.map_take, hO3.out])
                  obtain ⟨D, hD⟩ : ∃ q, Hid (d.l.length = q) := ⟨_, Lib.hid rfl⟩
                  obtain ⟨da, hda⟩ : ∃ q, Hid (d.a = q) := ⟨_, Lib.hid rfl⟩
                  obtain ⟨dc, hdc⟩ : ∃ q, Hid (d.c = q) := ⟨_, Lib.hid rfl⟩
                  rw [hD.out] at d0 hdm
                  rw [hda.out] at d0
                  rw [hdc.out] at d0 hdm
                  have hbl3 := World.block_lt_of_cell? wr _ d0
                  clear hmd
                  go_wp2_with (fail)
                  go_loopw [3, 50] (fun s iv wv => ∃ (m n4 : Nat) (a4 : Option Addr) (c4 : Nat), m ≤ D ∧ iv = .int .i64 (m : Int) ∧ s = .slice a4 n4 c4 ∧ Hid (OwnS wv (w.heap.size + 1) n4 a4 c4 (addAll (d.l.take m) O3)) ∧ Below (w.heap.size + 1) W wv) (fun _ iv _ => D - (intOf iv).toNat)
                  case atStart => exact ⟨0, n3, a3, c3, Nat.zero_le _, rfl, rfl, Lib.hid (by exact HO5.out), hbr⟩
                  case round =>
                    clear HO5 d0 hbl3 hbwv hbr
                    obtain ⟨m, n4, a4, c4, hmD2, rfl, rfl, HO6, hbr⟩ := hrel
                    obtain ⟨O4, hO4⟩ : ∃ q, Hid (addAll (d.l.take m) O3 = q) := ⟨_, Lib.hid rfl⟩
                    rw [hO4.out] at HO6
                    have hn4 : Hid (O4.length = n4) := Lib.hid (OwnS.len HO6.out)
                    by_cases hlt4 : m < D
                    · have hmI : (m : Int) < (D : Int) := by omega
                      have hmI0 : (0 : Int) ≤ (m : Int) := by omega
                      have hml : m < d.l.length := by rw [hD.out]; exact hlt4
                      have hbwv := hb0.trans (hbr.mono (Nat.le_succ _))
                      have hok4 : Hid (n4 ≤ 1000001) := Lib.hid (by
                        have h1 : OkU N O4 := by rw [← hO4.out]; exact OkU.addAll _ _ hok3.out (fun y hy => hmD.out y (List.mem_of_mem_take hy))
                        have := Nat.le_trans h1.len hNl.out
                        rw [hn4.out] at this
                        exact this)
                      obtain ⟨b7, o7, hb7⟩ := hNd.out.at_ m (by rw [List.length_map]; exact hml)
                      have hda2 : da = some ⟨b7, o7, none⟩ := hda.out.symm.trans hb7
                      subst hda2
                      have d1 := (hNd.out.grown hbwv).cell b7 o7 hb7 m (by rw [List.length_map]; exact hml)
                      rw [List.getElem_map] at d1
                      have hst4 : Hid (addAll (d.l.take (m + 1)) O3 = addS O4 d.l[m]) := Lib.hid (by rw [List.take_add_one, List.getElem?_eq_getElem hml]; show addAll (d.l.take m ++ [d.l[m]]) O3 = _; rw [addAll_snoc, hO4.out])
                      obtain ⟨y, hy⟩ : ∃ y, Hid (d.l[m] = y) := ⟨_, Lib.hid rfl⟩
                      rw [hy.out] at d1 hst4
                      have hbl5 := World.block_lt_of_cell? wr _ d1
                      have Hc := Lib.hid (refHas_any O4 a4 c4 y wr HO6.out.nms)
                      rw [hn4.out] at Hc
                      obtain ⟨S, hS⟩ : ∃ S, Hid (mem y O4 = S) := ⟨_, Lib.hid rfl⟩
                      have hst5 : Hid (addS O4 y = if S = true then O4 else O4 ++ [y]) := Lib.hid (by unfold addS; rw [hS.out])
                      rw [hS.out] at Hc
                      go_wp2_with (fail)
                      refine Hc.out.mono ?_
                      rintro r w3 ⟨rfl, hw3⟩
                      subst w3
                      cases S
                      · obtain ⟨a5, c5, w5, hrun, ho, hb5, -⟩ := OwnS.push HO6.out y 22 (by have := hok4.out; omega) (Nat.le_trans hs1 hbr.size)
                        have Hrun := Lib.hid hrun
                        have HO7 := Lib.hid ho
                        clear hrun ho
                        have hb8 := hbr.trans hb5
                        go_wp2_with (at_builtin; refine wpList_append_run rfl _ _ 22 22 rfl _ _ _ _ rfl rfl Hrun.out ?_)
                        exact ⟨⟨m + 1, n4 + 1, a5, c5, by omega, by go_num, rfl, Lib.hid (by rw [hst4.out, hst5.out]; exact HO7.out), hb8⟩, by simp [intOf]; omega⟩
                      · go_wp2_with (fail)
                        exact ⟨⟨m + 1, n4, a4, c4, by omega, by go_num, rfl, Lib.hid (by rw [hst4.out, hst5.out]; exact HO6.out), hbr⟩, by simp [intOf]; omega⟩
                    · obtain rfl : m = D := by omega
                      have hmI : ¬ (m : Int) < (m : Int) := by omega
                      have hfin := Lib.hid (show addAlts ((e.ds.map AltD.l).take (j + 1)) O2 = O4 by rw [hst3.out, ← hO4.out, List.take_of_length_le (by rw [hD.out]; exact Nat.le_refl _)])
                      go_wp2_with (fail)
                      exact ⟨⟨j + 1, n4, a4, c4, by omega, by go_num, rfl, Lib.hid (by rw [hfin.out]; exact HO6.out), hbr⟩, by simp [intOf]; omega⟩
                · obtain rfl : j = M := by omega
                  have hjI : ¬ (j : Int) < (j : Int) := by omega
                  have hfin := Lib.hid (show visit ((grP rs).take (i + 1)) nm (O k) = O3 by rw [hst2.out, ← hO3.out, List.take_of_length_le (by rw [List.length_map, HM.out]; exact Nat.le_refl _)])
                  go_wp2_with (fail)
                  exact ⟨⟨i + 1, n3, a3, c3, by omega, by go_num, rfl, Lib.hid (by rw [hfin.out]; exact HO5.out), hbr⟩, by simp [intOf]; omega⟩
            · have e3 : (nm.toList == x.toList) = false := str_ne e1
              have hst2 : Hid (visit ((grP rs).take (i + 1)) x (O k) = O2) := Lib.hid (by rw [hst.out]; unfold visitS; rw [if_neg (by show ¬ e.n = x; rw [hnm.out]; exact e1)])
              have HO4 : Hid (OwnS (wr.alloc (.cells #[.string nm, .slice ea M ec] 177)).drew (w.heap.size + 1) n2 (some ⟨b4, o4, none⟩) c2 O2) := Lib.hid HO3.out
              go_wp2_with (fail)
              go_region
              go_wp2_with (fail)
              exact ⟨⟨i + 1, n2, _, c2, by omega, by go_num, rfl, Lib.hid (by rw [hst2.out]; exact HO4.out), hb2.drew⟩, by simp [intOf]; omega⟩
          · obtain rfl : i = L := by omega
            have hiI : ¬ (i : Int) < (i : Int) := by omega
            have hfin := Lib.hid (show O (k + 1) = O2 by rw [hOs.out k x hx.out, ← hO2.out, List.take_of_length_le (by simp [grP, HL.out])])
            have hk1 : k + 1 ≤ n2 := by
              have := (pre_visit x ((grP rs).take i) (O k))
              rw [hO2.out] at this
              obtain ⟨t, ht⟩ := this
              have h2 := hn2.out
              rw [ht, List.length_append] at h2
              omega
            go_wp2_with (fail)
            exact ⟨⟨k + 1, n2, a2, c2, hk1, by go_num, rfl, Lib.hid (by rw [hfin.out]; exact HO2.out), hbr⟩, by simp [intOf]; omega⟩
      · obtain rfl : k = n := by omega
        have hkI : ¬ (k : Int) < (k : Int) := by omega
        have hR := Lib.hid (HE.out (O k) ⟨k, rfl, by rw [hn.out]; exact Nat.le_refl _⟩)
        have hbw := hb0.trans (hbr.mono (Nat.le_succ _))
        go_wp2_with (fail)
        exact bodyPost_ret (v := .slice a' k c') (by simp [results, Try.results162, go_sem]; try first | rfl | assumption | omega) rfl ⟨a', c', k, rfl, O k, own_mono HO.out (Nat.le_succ _), hR.out, hbw⟩
end Go.Proofs.Ythogiakfbgehnaa

namespace Go.Proofs.Ythogiakfbgehnaa
open Go.RowKit

theorem Vs.take {w : World} {a : Option Addr} {cap : Nat} {l : List Value} (h : Vs w a cap l) (k : Nat) : Vs w a cap (l.take k) :=
  ⟨by have := h.le; simp; omega, h.max, h.nil_, fun i hi => h.at_ i (by simp at hi; omega), fun b off e i hi => by
    rw [h.cell b off e i (by simp at hi; omega), List.getElem_take]⟩
theorem Nms.take {w : World} {a : Option Addr} {cap : Nat} {l : List ByteArray} (h : Nms w a cap l) (k : Nat) : Nms w a cap (l.take k) := by
  have := Vs.take h k
  rw [← List.map_take] at this
  exact this
/-- Names of rules that are a token's or a rule's ahead, among the first k. -/
def dblN (ts names : List ByteArray) : Nat → List Fl
  | 0 => []
  | k + 1 => match names[k]? with
    | some n => if (mem n ts || mem n (names.take k)) = true then layP (dblN ts names k) (1, n) else dblN ts names k
    | none => dblN ts names k
def unkS (ts names : List ByteArray) (o : List Fl) (n : ByteArray) : List Fl := if (!mem n names && !mem n ts) = true then layP o (2, n) else o
def unkA (ts names : List ByteArray) (l : List ByteArray) (o : List Fl) : List Fl := l.foldl (unkS ts names) o
def unkAs (ts names : List ByteArray) (al : List (List ByteArray)) (o : List Fl) : List Fl := al.foldl (fun o a => unkA ts names a o) o
def unkP (ts names : List ByteArray) (rs : List Rl) (o : List Fl) : List Fl := rs.foldl (fun o r => unkAs ts names r.2 o) o
def restS (kd : Int) (good : List ByteArray) (o : List Fl) (n : ByteArray) : List Fl := if (!mem n good) = true then layP o (kd, n) else o
def restP (kd : Int) (good : List ByteArray) (names : List ByteArray) (o : List Fl) : List Fl := names.foldl (restS kd good) o
theorem unkA_snoc (ts names l : List ByteArray) (n : ByteArray) (o : List Fl) : unkA ts names (l ++ [n]) o = unkS ts names (unkA ts names l o) n := by simp [unkA, List.foldl_append]
theorem unkAs_snoc (ts names : List ByteArray) (al : List (List ByteArray)) (a : List ByteArray) (o : List Fl) : unkAs ts names (al ++ [a]) o = unkA ts names a (unkAs ts names al o) := by simp [unkAs, List.foldl_append]
theorem unkP_snoc (ts names : List ByteArray) (rs : List Rl) (r : Rl) (o : List Fl) : unkP ts names (rs ++ [r]) o = unkAs ts names r.2 (unkP ts names rs o) := by simp [unkP, List.foldl_append]
theorem restP_snoc (kd : Int) (good names : List ByteArray) (n : ByteArray) (o : List Fl) : restP kd good (names ++ [n]) o = restS kd good (restP kd good names o) n := by simp [restP, List.foldl_append]
/-- All flaws of a grammar: which names are fertile, and to which the first rule leads, is given. -/
def flawsP (rs : List Rl) (ts good near : List ByteArray) : List Fl :=
  restP 4 near (rs.map Prod.fst) (restP 3 good (rs.map Prod.fst) (unkP ts (rs.map Prod.fst) rs (dblN ts (rs.map Prod.fst) (rs.map Prod.fst).length)))
/-- Flaws of these names, each once. -/
def OkF (U : List ByteArray) (o : List Fl) : Prop := o.Nodup ∧ ∀ f ∈ o, f ∈ U.map (fun n => ((1 : Int), n)) ++ U.map (fun n => ((2 : Int), n)) ++ U.map (fun n => ((3 : Int), n)) ++ U.map (fun n => ((4 : Int), n))
theorem OkF.len {U : List ByteArray} {o : List Fl} (h : OkF U o) : o.length ≤ 4 * U.length := by
  have := nodup_sub o _ h.1 h.2
  simp only [List.length_append, List.length_map] at this
  omega
theorem OkF.lay {U : List ByteArray} {o : List Fl} (h : OkF U o) {k : Int} {n : ByteArray} (hn : n ∈ U) (hk : k = 1 ∨ k = 2 ∨ k = 3 ∨ k = 4) : OkF U (layP o (k, n)) := by
  unfold layP
  split
  · exact h
  · rename_i hm
    have hm2 : (k, n) ∉ o := fun e => hm (memF_iff.2 e)
    refine ⟨List.nodup_append.2 ⟨h.1, by simp, fun a ha b hb e => hm2 ?_⟩, fun x hx => ?_⟩
    · rw [List.mem_singleton] at hb
      rw [← hb, ← e]; exact ha
    · rcases List.mem_append.1 hx with hx | hx
      · exact h.2 x hx
      · rw [List.mem_singleton] at hx
        rw [hx]
        simp only [List.mem_append, List.mem_map, Prod.mk.injEq]
        rcases hk with rfl | rfl | rfl | rfl
        · exact .inl (.inl (.inl ⟨n, hn, rfl, rfl⟩))
        · exact .inl (.inl (.inr ⟨n, hn, rfl, rfl⟩))
        · exact .inl (.inr ⟨n, hn, rfl, rfl⟩)
        · exact .inr ⟨n, hn, rfl, rfl⟩
theorem okF_dbl {U ts names : List ByteArray} (hU : ∀ n ∈ names, n ∈ U) : ∀ k, OkF U (dblN ts names k)
  | 0 => ⟨by simp [dblN], fun f hf => by simp [dblN] at hf⟩
  | k + 1 => by
    rw [dblN]
    split
    · rename_i n hn
      split
      · exact (okF_dbl hU k).lay (hU n (List.mem_of_getElem? hn)) (.inl rfl)
      · exact okF_dbl hU k
    · exact okF_dbl hU k
theorem okF_unkA {U ts names : List ByteArray} : ∀ (l : List ByteArray) (o : List Fl), OkF U o → (∀ n ∈ l, n ∈ U) → OkF U (unkA ts names l o)
  | [], _, h, _ => h
  | n :: l, o, h, hl => by
    refine okF_unkA l (unkS ts names o n) ?_ (fun x hx => hl x (List.mem_cons_of_mem _ hx))
    unfold unkS
    split
    · exact h.lay (hl n List.mem_cons_self) (.inr (.inl rfl))
    · exact h
theorem okF_unkAs {U ts names : List ByteArray} : ∀ (l : List (List ByteArray)) (o : List Fl), OkF U o → (∀ a ∈ l, ∀ n ∈ a, n ∈ U) → OkF U (unkAs ts names l o)
  | [], _, h, _ => h
  | a :: l, o, h, hl => okF_unkAs l (unkA ts names a o) (okF_unkA a o h (hl a List.mem_cons_self)) (fun x hx => hl x (List.mem_cons_of_mem _ hx))
theorem okF_unkP {U ts names : List ByteArray} : ∀ (l : List Rl) (o : List Fl), OkF U o → (∀ r ∈ l, ∀ a ∈ r.2, ∀ n ∈ a, n ∈ U) → OkF U (unkP ts names l o)
  | [], _, h, _ => h
  | r :: l, o, h, hl => okF_unkP l (unkAs ts names r.2 o) (okF_unkAs r.2 o h (hl r List.mem_cons_self)) (fun x hx => hl x (List.mem_cons_of_mem _ hx))
theorem okF_rest {U good : List ByteArray} {kd : Int} (hk : kd = 3 ∨ kd = 4) : ∀ (l : List ByteArray) (o : List Fl), OkF U o → (∀ n ∈ l, n ∈ U) → OkF U (restP kd good l o)
  | [], _, h, _ => h
  | n :: l, o, h, hl => by
    refine okF_rest hk l (restS kd good o n) ?_ (fun x hx => hl x (List.mem_cons_of_mem _ hx))
    unfold restS
    split
    · exact h.lay (hl n List.mem_cons_self) (.inr (.inr hk))
    · exact h
end Go.Proofs.Ythogiakfbgehnaa

