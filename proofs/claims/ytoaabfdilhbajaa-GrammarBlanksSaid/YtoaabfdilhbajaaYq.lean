/- Layer 7: the law GrammarBlanks. -/
import Derived.Test.YtoaabfdilhbajaaYp
import Derived.Test.YtoaabfdilhbajaaYc
import Derived.Test.YtoaabfdilhbajaaYg
namespace Go.Proofs.Ytoaabfdilhbajaa
open Go.RowKit Go.Shelf

attribute [local go_sem] Oper.semAt_some

/-- Blanks that may stand ahead of a text and behind it. -/
def Ahead (a : ByteArray) : Prop := (∀ t, blkL false (a.data.toList ++ t) = a.data.toList.length + blkL false t) ∧ a.size ≤ 20
theorem ahead_pick (J : Int) (h0 : 0 ≤ J) (h5 : J < 5) : ∃ a : ByteArray, Ahead a ∧ ∀ w, (Instr.index 35 (.agg #[.string ⟨#[32]⟩, .string ⟨#[10, 9]⟩, .string ⟨#[35, 32, 83, 32, 61, 32, 97, 32, 59, 10]⟩, .string ⟨#[13]⟩, .string ⟨#[35, 10]⟩]) (.int .i64 J)).run Try.prog w = .ok (.string a) w := by
  have hJ : J = 0 ∨ J = 1 ∨ J = 2 ∨ J = 3 ∨ J = 4 := by omega
  rcases hJ with rfl | rfl | rfl | rfl | rfl
  · exact ⟨⟨#[32]⟩, ⟨fun t => by simp [blkL], by decide⟩, fun _ => by kernel_rfl⟩
  · exact ⟨⟨#[10, 9]⟩, ⟨fun t => by simp [blkL]; omega, by decide⟩, fun _ => by kernel_rfl⟩
  · exact ⟨⟨#[35, 32, 83, 32, 61, 32, 97, 32, 59, 10]⟩, ⟨fun t => by simp [blkL]; omega, by decide⟩, fun _ => by kernel_rfl⟩
  · exact ⟨⟨#[13]⟩, ⟨fun t => by simp [blkL], by decide⟩, fun _ => by kernel_rfl⟩
  · exact ⟨⟨#[35, 10]⟩, ⟨fun t => by simp [blkL]; omega, by decide⟩, fun _ => by kernel_rfl⟩
theorem tmod5 (n : Int) : -5 < n.tmod 5 ∧ n.tmod 5 < 5 := by
  rcases Int.le_total 0 n with h | h
  · rw [Int.tmod_eq_emod_of_nonneg h]; omega
  · have : n.tmod 5 = -((-n).tmod 5) := by rw [Int.neg_tmod]; omega
    rw [this, Int.tmod_eq_emod_of_nonneg (by omega)]; omega

theorem parse_small (s : ByteArray) : (parseP s).2.2 = 0 → (parseP s).1.length ≤ 60 ∧ (parseP s).1 ≠ [] := by
  unfold parseP
  split
  · intro h; simp at h
  · cases foldP ⟨[], 0⟩ (wordsP s) with
    | error k => intro h; simp [parseT] at h
    | ok st =>
      simp only [parseT]
      split
      · intro h; simp at h
      · rename_i hn
        split
        · intro h; simp at h
        · rename_i hl
          intro _
          refine ⟨?_, fun e => hn (.inr e)⟩
          show st.rules.length ≤ 60
          unfold longP at hl
          simp only [Bool.or_eq_true, decide_eq_true_eq, not_or] at hl
          omega
theorem wL_place : ∀ (n k : Nat) (t : List UInt8), ∀ x ∈ wL n k t, x.1 ≤ k + t.length
  | 0, _, _, x, h => by cases h
  | _ + 1, _, [], x, h => by cases h
  | n + 1, k, c :: r, x, h => by
    rw [wL] at h
    rcases List.mem_cons.1 h with rfl | h
    · show k ≤ _; omega
    · have h1 := wL_place n _ _ x h
      have h2 := wrdL_le (c :: r)
      have h3 := blkL_le false ((c :: r).drop (wrdL (c :: r)))
      rw [List.length_drop, List.length_drop] at h1
      rw [List.length_drop] at h3
      omega
theorem fold_place (N : Nat) : ∀ (ws : List (Nat × ByteArray)) (st : Rst) (k : Nat), (∀ x ∈ ws, x.1 ≤ N) → foldP st ws = .error k → k ≤ N
  | [], st, k, _, h => by cases h
  | x :: ws, st, k, hw, h => by
    rw [foldP] at h
    split at h
    · cases h; exact hw x List.mem_cons_self
    · exact fold_place N ws _ k (fun y hy => hw y (List.mem_cons_of_mem _ hy)) h
theorem parse_place (s : ByteArray) : (parseP s).2.1 ≤ s.size := by
  unfold parseP
  split
  · exact Nat.zero_le _
  · cases h : foldP ⟨[], 0⟩ (wordsP s) with
    | error k =>
      refine fold_place s.size _ _ k (fun x hx => ?_) h
      rw [words_all] at hx
      have h1 := wL_place _ _ _ x hx
      have h2 := blkL_le false s.data.toList
      rw [List.length_drop, dlen] at h1
      rw [dlen] at h2
      omega
    | ok st =>
      simp only [parseT]
      split
      · exact Nat.le_refl _
      · split
        · exact Nat.zero_le _
        · exact Nat.zero_le _
theorem step_append_runG {P : Program} {ops : Array Oper} {o : Oper} {a : Act} {w : World} {K : Act → World → Prop} {Q : Exit → Act → World → Prop} {E : Prop} (hw : Region.wanted o (yielded ops a.tmps) = true) (s x : Operand) (t t2 : TypeId)
    (hop : o.op = Op.call { callee := Callee.builtin Builtin.append, args := #[s, x], argTypes := #[t, t2] }) (vs vx v' : Value) (w' : World) (hs : a.eval s = vs) (hx : a.eval x = vx)
    (hrun : (Builtin.append_ #[t, t2] o.type #[vs, vx]).run P w = .ok v' w') (h : K (a.put o.dst v') w') :
    if Region.wanted o (yielded ops a.tmps) = true then Oper.wp P o a w K Q else E := by
  rw [if_pos hw]
  unfold Oper.wp
  simp [execOp, hop, resolve, invoke, builtin, hs, hx, hrun, Result.andThen]
  exact h
/-- append of whole rules, from wherever they lie. -/
theorem run_appRl (w : World) (ty : TypeId) {base n cap : Nat} {a : Option Addr} {row : List Value} (hown : w.ownsRow base 40 2 (.slice a n cap) n row) (b : Option Addr) (bc : Nat) (rs : List RlD) (hr : Rls w b bc rs) (hne : rs ≠ []) (hn : n + rs.length ≤ 1000000) (hbase : base ≤ w.heap.size) :
    ∃ a' c' w', (Builtin.append_ #[22, 22] ty #[.slice a n cap, .slice b rs.length bc]).run Try.prog w = .ok (.slice a' (n + rs.length) c') w' ∧ w'.ownsRow base 40 2 (.slice a' (n + rs.length) c') (n + rs.length) (row ++ rs.flatMap RlD.cells) ∧ w.grownBy w' (Value.slice a n cap).ownBlock := by
  obtain ⟨i0, hi, hz0, hz1, hz2⟩ := info_parts info_rule
  have hl0 : 0 < rs.length := by cases rs with | nil => exact absurd rfl hne | cons _ _ => simp
  obtain ⟨b', off, rfl⟩ := hr.at_ 0 hl0
  have hcells : ∀ j u, (rs.flatMap RlD.cells)[j]? = some u → w.cell? ((⟨b', off, none⟩ : Addr).add j) = some u := by
    intro j u hj
    have hjl : j < rs.length * 2 := by have := (List.getElem?_eq_some_iff.1 hj).1; rw [cells_len] at this; exact this
    rw [show (⟨b', off, none⟩ : Addr).add j = ⟨b', off + j, none⟩ from by unfold Addr.add; split <;> simp_all]
    have hi2 : j / 2 < rs.length := by omega
    obtain ⟨q1, q2⟩ := cells_at rs (j / 2) hi2
    obtain ⟨p1, p2⟩ := hr.cell b' off rfl (j / 2) hi2
    rcases Nat.mod_two_eq_zero_or_one j with e | e
    · rw [show j / 2 * 2 = j by omega] at q1 p1
      rw [hj] at q1
      rw [q1, p1]
    · rw [show j / 2 * 2 + 1 = j by omega] at q2
      rw [hj] at q2
      rw [q2, show off + j = off + j / 2 * 2 + 1 by omega, p2]
  obtain ⟨v', w', hrun, ho, hg, _⟩ := run_append_own (P := Try.prog) w base 22 ty 40 i0 _ 2 40 Try.underlying22 hi hz0 hz1 hz2 rfl (by decide) _ n _ hown ⟨b', off, none⟩ rs.length bc (rs.flatMap RlD.cells) (cells_len rs) hcells (fun u hu => by
    obtain ⟨x, _, hx⟩ := List.mem_flatMap.1 hu
    simp only [RlD.cells, List.mem_cons, List.not_mem_nil, or_false] at hx
    rcases hx with rfl | rfl <;> rfl) (by unfold maxLen; omega) (by omega) hbase
  obtain ⟨a', cap', rfl⟩ := slice_of_own ho
  exact ⟨a', cap', w', hrun, ho, hg⟩
/-- A row of rules that is one's own, whose alternatives lie wherever they do. -/
theorem rls_row {w : World} {B : Nat} {rs : List RlD} {ga : Option Addr} {gc : Nat} (hr : OwnR w B ga gc rs) (ha : ∀ r ∈ rs, Alts w r.a r.c r.ds) : Rls w ga gc rs := by
  rcases hr.2 with ⟨e1, e0⟩ | ⟨g, cp, cur, e1, hb, hk, hnc, hcm, _⟩
  · injection e1 with e1 e2 e3
    exact ⟨by omega, by omega, fun _ => e3, fun i hi => by omega, fun b off e => (by rw [e1] at e; cases e), ha⟩
  · injection e1 with e1 e2 e3
    refine ⟨by omega, by unfold maxLen at hcm; omega, fun e => (by rw [e1] at e; cases e), fun i hi => ⟨g, 0, e1⟩, fun b off e i hi => ?_, ha⟩
    rw [e1] at e
    cases e
    subst e1
    obtain ⟨q1, q2⟩ := cells_at rs i hi
    rw [Nat.zero_add]
    exact ⟨(World.ownsRow.cellAt hr (i * 2) (by omega)).trans q1, (World.ownsRow.cellAt hr (i * 2 + 1) (by omega)).trans q2⟩
/-- Rules twice, in a row of one's own. -/
theorem run_twice (w : World) (ty ty2 : TypeId) (b : Option Addr) (bc : Nat) (rs : List RlD) (hr : Rls w b bc rs) (hne : rs ≠ []) (hn : rs.length ≤ 60) :
    ∃ a1 c1 w1 a2 c2 w2, (Builtin.append_ #[22, 22] ty #[.slice none 0 0, .slice b rs.length bc]).run Try.prog w = .ok (.slice a1 rs.length c1) w1 ∧
      (Builtin.append_ #[22, 22] ty2 #[.slice a1 rs.length c1, .slice b rs.length bc]).run Try.prog w1 = .ok (.slice a2 (rs ++ rs).length c2) w2 ∧ Rls w2 a2 c2 (rs ++ rs) ∧ Below w.heap.size w w1 ∧ Below w.heap.size w w2 := by
  obtain ⟨a1, c1, w1, hr1, ho1, hg1⟩ := run_appRl w ty (base := w.heap.size) (World.ownsRow_nil w w.heap.size 40 2) b bc rs hr hne (by omega) (Nat.le_refl _)
  have hb1 : Below w.heap.size w w1 := grownBy_below hg1 (fun i e => by cases e)
  rw [Nat.zero_add, List.nil_append] at ho1
  rw [Nat.zero_add] at hr1
  obtain ⟨a2, c2, w2, hr2, ho2, hg2⟩ := run_appRl w1 ty2 ho1 b bc rs (hr.grown hb1) hne (by omega) hb1.size
  have hb2 : Below w.heap.size w w2 := hb1.grown hg2 hb1.size (fun k e => (own_typ ho1 k e).1)
  have hl : (rs ++ rs).length = rs.length + rs.length := List.length_append
  refine ⟨a1, c1, w1, a2, c2, w2, hr1, by rw [hl]; exact hr2, rls_row (B := w.heap.size) ?_ (fun r hr' => ?_), hb1, hb2⟩
  · unfold OwnR
    rw [hl, List.flatMap_append]
    exact ho2
  · rcases List.mem_append.1 hr' with h | h
    · exact (hr.alts r h).grown hb2
    · exact (hr.alts r h).grown hb2

set_option maxRecDepth 100000 in
set_option maxHeartbeats 4000000 in
theorem gblanks_any (s : ByteArray) (n : Int) (w : World) (h1 : -9223372036854775808 ≤ n) (h2 : n ≤ 9223372036854775807) :
    Calls Try.prog 6 #[.string s, .int .i64 n] w fun r w' => r = .returned (.bool true) ∧ Below w.heap.size w w' := by
  obtain ⟨hm1, hm2⟩ := tmod5 n
  obtain ⟨a, hA, hidx⟩ := ahead_pick ((n.tmod 5 + 5) % 5) (by omega) (by omega)
  obtain ⟨J, hJ⟩ : ∃ J, (n.tmod 5 + 5) % 5 = J := ⟨_, rfl⟩
  rw [hJ] at hidx
  have HA := Lib.hid hA
  have has := hA.2
  have HP := Lib.hid (fun t V => parse_any t V)
  clear hA
  go_enter Try.func6, Try.ntmps6
  go_wp2_with (fail)
  refine (live7_any _).mono ?_
  rintro e w1 ⟨rfl, hb1⟩
  by_cases hbig : 2000 < s.size
  · have hI : (2000 : Int) < (s.size : Int) := by omega
    go_wp2_with (fail)
    exact bodyPost_ret (v := .bool true) (by simp [results, Try.results6, go_sem]; try first | rfl | assumption | omega) rfl ⟨rfl, hb1⟩
  have hI : ¬ (2000 : Int) < (s.size : Int) := by omega
  have hs : s.size ≤ 2000 := by omega
  have hQA := blanks_ahead s a (a ++ s ++ (⟨#[10]⟩ : ByteArray) ++ a) (by rw [cat_list, cat_list, cat_list]; simp) HA.out.1 hs HA.out.2
  have hQB := blanks_twice s (s ++ (⟨#[10]⟩ : ByteArray) ++ s) (by rw [cat_list, cat_list]; simp) hs
  have hQC := parse_small s
  have hNp := parse_place s
  have HP1 := Lib.hid (HP.out s)
  have HP2 := Lib.hid (HP.out (a ++ s ++ (⟨#[10]⟩ : ByteArray) ++ a))
  have HP3 := Lib.hid (HP.out (s ++ (⟨#[10]⟩ : ByteArray) ++ s))
  clear HP
  obtain ⟨⟨G1, N1, E1⟩, hR1⟩ : ∃ R, Hid (parseP s = R) := ⟨_, Lib.hid rfl⟩
  obtain ⟨⟨G2, N2, E2⟩, hR2⟩ : ∃ R, Hid (parseP (a ++ s ++ (⟨#[10]⟩ : ByteArray) ++ a) = R) := ⟨_, Lib.hid rfl⟩
  obtain ⟨⟨G3, N3, E3⟩, hR3⟩ : ∃ R, Hid (parseP (s ++ (⟨#[10]⟩ : ByteArray) ++ s) = R) := ⟨_, Lib.hid rfl⟩
  rw [hR1.out] at hQA hQB HP1 hQC hNp
  rw [hR2.out] at hQA HP2
  rw [hR3.out] at hQB HP3
  dsimp only at hQA hQB hQC hNp
  obtain ⟨hG2, hE2, hN2⟩ := hQA
  have hG2' := hG2.symm
  have hE2' := hE2.symm
  clear hG2 hE2
  subst hG2' hE2'
  have HN2 := Lib.hid hN2
  have HQB := Lib.hid hQB
  have HQC := Lib.hid hQC
  have Hb1 := Lib.hid hb1
  have hxs : (a ++ s).size ≤ 2020 := by rw [ByteArray.size_append]; omega
  have hxs2 : (a ++ s ++ (⟨#[10]⟩ : ByteArray)).size ≤ 2021 := by rw [ByteArray.size_append]; have : (⟨#[10]⟩ : ByteArray).size = 1 := rfl; omega
  clear hN2 hQB hQC hb1 hR1 hR2 hR3
  go_wp2_with (fail)
  refine (HP1.out _).mono ?_
  rintro e w2 ⟨m, b, bc, rfl, hg, hm, hb2⟩
  have Hg := Lib.hid hg
  have hb3 := Hb1.out.trans (hb2.mono Hb1.out.size)
  have hmm : m.length ≤ bc ∧ bc ≤ 9223372036854775807 := ⟨hm.le, hm.max⟩
  have hA := Blk.new w2 24 #[.slice b m.length bc]
  have hb4 := hb3.alloc hb3.size (.cells #[.slice b m.length bc] 24)
  have Hm := Lib.hid (hm.grown (up1 w2 (.cells #[.slice b m.length bc] 24)))
  obtain ⟨ML, HML⟩ : ∃ L, Hid (m.length = L) := ⟨_, Lib.hid rfl⟩
  rw [HML.out] at hb4 hA hmm Hm ⊢
  have Hb4 := Lib.hid hb4
  clear hg hm hb3 hb4 hb2 HP1
  dsimp only
  go_wp2_with (fail)
  generalize World.alloc w2 _ = W at hA Hb4 Hm ⊢
  obtain ⟨BA, hBA⟩ : ∃ q, Hid (w2.heap.size = q) := ⟨_, Lib.hid rfl⟩
  rw [hBA.out] at hA
  simp only [hBA.out]
  refine (HP2.out _).mono ?_
  rintro e w3 ⟨q, c, cc, rfl, hg, hq, hb5⟩
  have Hg2 := Lib.hid hg
  have hqm : q.length ≤ cc ∧ cc ≤ 9223372036854775807 := ⟨hq.le, hq.max⟩
  have hA3 := (hA.below hb5 hA.lt).alloc (.cells #[.slice c q.length cc] 24)
  have hB3 := Blk.new w3 24 #[.slice c q.length cc]
  have hb6 := Hb4.out.trans (hb5.mono Hb4.out.size)
  have hb7 := hb6.alloc hb6.size (.cells #[.slice c q.length cc] 24)
  have hb8 := hb5.alloc hb5.size (.cells #[.slice c q.length cc] 24)
  have hm7 := Hm.out.grown hb8
  have hss := refGSame_any b c bc cc m q _ hm7 (hq.grown (up1 w3 _))
  rw [Hg.out, Hg2.out, decide_eq_true rfl] at hss
  obtain ⟨QL, HQL⟩ : ∃ L, Hid (q.length = L) := ⟨_, Lib.hid rfl⟩
  rw [HQL.out] at hA3 hB3 hb7 hqm hss hm7 ⊢
  rw [HML.out] at hss
  have Hss := Lib.hid hss
  have Hb7 := Lib.hid hb7
  have Hm7 := Lib.hid hm7
  have y0 := hA3.cell 0
  have yl := hA3.lt
  have z0 := hB3.cell 0
  have zl := hB3.lt
  simp only [List.getElem?_cons_zero] at y0 z0
  clear hss hb7 hb8 hb6 hb5 hq hg hA hm7 HP2 Hm Hb4
  dsimp only
  by_cases h70 : E1 = 70
  · subst h70
    clear HQB HQC HP3
    by_cases hN : N1 = s.size
    · subst hN
      by_cases hN3 : N2 = s.size + a.size
      · subst hN3
        clear HN2
        go_wp2_with (fail)
        exact bodyPost_ret (v := .bool true) (by simp [results, Try.results6, go_sem]; try first | rfl | assumption | omega) rfl ⟨rfl, Hb7.out⟩
      · have hne : ((N2 : Int) == (s.size : Int) + (a.size : Int)) = false := by rw [beq_eq_false_iff_ne]; omega
        clear HN2 hN3
        go_wp2_with (fail)
        exact bodyPost_ret (v := .bool true) (by simp [results, Try.results6, go_sem]; try first | rfl | assumption | omega) rfl ⟨rfl, Hb7.out⟩
    · have hN3 : N2 = N1 + a.size := by
        rcases HN2.out rfl with h | h
        · exact h
        · exact absurd h hN
      subst hN3
      clear HN2 hN
      go_wp2_with (fail)
      exact bodyPost_ret (v := .bool true) (by simp [results, Try.results6, go_sem]; try first | rfl | assumption | omega) rfl ⟨rfl, Hb7.out⟩
  · have h70b : (E1 == 70) = false := by rw [beq_eq_false_iff_ne]; exact h70
    clear HN2 h70
    go_wp2_with (fail)
    refine Hss.out.mono ?_
    rintro e w4 ⟨rfl, hb9⟩
    have Hb9 := Lib.hid (Hb7.out.trans (hb9.mono Hb7.out.size))
    have hA9 := hA3.below hb9 hA3.lt
    have hm9 := Hm7.out.grown hb9
    clear hA3 hB3 y0 yl z0 zl Hb7 Hm7 hb9 Hss
    by_cases h0 : E1 = 0
    case neg =>
      have h0b : (E1 != 0) = true := by rw [bne_iff_ne]; exact h0
      clear h0
      go_wp2_with (fail)
      exact bodyPost_ret (v := .bool true) (by simp [results, Try.results6, go_sem]; try first | rfl | assumption | omega) rfl ⟨rfl, Hb9.out⟩
    case pos =>
    subst h0
    obtain ⟨hc1, hc2⟩ := HQC.out rfl
    have hqb := HQB.out rfl
    clear h70b HQB HQC
    have hys : (s ++ (⟨#[10]⟩ : ByteArray)).size ≤ 2001 := by rw [ByteArray.size_append]; have : (⟨#[10]⟩ : ByteArray).size = 1 := rfl; omega
    go_wp2_with (fail)
    refine (HP3.out _).mono ?_
    rintro e w5 ⟨r, d, dc, rfl, hg, hr, hb10⟩
    have hrm : r.length ≤ dc ∧ dc ≤ 9223372036854775807 := ⟨hr.le, hr.max⟩
    have hA11 := (hA9.below hb10 hA9.lt).alloc (.cells #[.slice d r.length dc] 24)
    have hB11 := Blk.new w5 24 #[.slice d r.length dc]
    have hb11 := (hb10.alloc hb10.size (.cells #[.slice d r.length dc] 24))
    have Hb12 := Lib.hid (Hb9.out.trans (hb11.mono Hb9.out.size))
    have hm12 := hm9.grown hb11
    have hr12 := hr.grown (up1 w5 (.cells #[.slice d r.length dc] 24))
    have hml : m.length ≤ 60 ∧ m ≠ [] := by
      have e := congrArg List.length Hg.out
      unfold grP at e
      rw [List.length_map] at e
      exact ⟨by omega, fun h => hc2 (by rw [← Hg.out, h]; rfl)⟩
    have hgg : Hid ((30 < m.length ∧ E3 = 2) ∨ (E3 = 0 ∧ grP r = grP (m ++ m))) := Lib.hid (by
      have e := congrArg List.length Hg.out
      unfold grP at e
      rw [List.length_map] at e
      rcases hqb with ⟨h1, h2⟩ | ⟨h1, h2⟩
      · exact .inl ⟨by omega, h2⟩
      · refine .inr ⟨h1, ?_⟩
        rw [hg]
        dsimp only
        rw [h2, ← Hg.out]
        unfold grP
        rw [List.map_append])
    clear hA9 hm9 hb10 hb11 hr hg hqb HP3 Hb9 hc1 hc2 Hg Hg2
    obtain ⟨RL, hRL⟩ : ∃ L, Hid (r.length = L) := ⟨_, Lib.hid rfl⟩
    obtain ⟨BB, hBB⟩ : ∃ q, Hid (w5.heap.size = q) := ⟨_, Lib.hid rfl⟩
    rw [hRL.out] at hA11 hB11 Hb12 hm12 hr12 hrm ⊢
    rw [hBB.out] at hB11
    dsimp only
    have x0 := hA11.cell 0
    have xl := hA11.lt
    have y0 := hB11.cell 0
    have yl := hB11.lt
    simp only [List.getElem?_cons_zero] at x0 y0
    go_wp2_with (fail)
    simp only [hBB.out]
    generalize World.alloc w5 _ = w6 at hA11 hB11 Hb12 hm12 hr12 x0 xl y0 yl ⊢
    have hbd : Below w6.heap.size w6 w6.drew := (Below.refl w6.heap.size w6).drew
    have Hb13 := Lib.hid (Hb12.out.trans (hbd.mono Hb12.out.size))
    have hA13 : Blk w6.drew BA 24 [.slice b ML bc] := hA11.below hbd hA11.lt
    have hB13 : Blk w6.drew BB 24 [.slice d RL dc] := hB11.below hbd hB11.lt
    have hm13 := hm12.grown hbd
    have hr13 := hr12.grown hbd
    have HSt : Hid (∀ V, Below w6.drew.heap.size w6.drew V → (Below w6.drew.heap.size w6.drew V ∧ V.cell? ⟨BA, 0, none⟩ = some (.slice b ML bc) ∧ V.cell? ⟨BB, 0, none⟩ = some (.slice d RL dc))) := Lib.hid (fun V hV => by
      have h1 := hA13.below hV hA13.lt
      have h2 := hB13.below hV hB13.lt
      exact ⟨hV, by simpa using h1.cell 0, by simpa using h2.cell 0⟩)
    clear hbd hA13 hB13 hA11 hB11 hm12 hr12 x0 xl y0 yl
    rcases hgg.out with ⟨hg1, hg2⟩ | ⟨hg1, hg2⟩
    · subst hg2
      rw [HML.out] at hg1
      have hgI : (30 : Int) < (ML : Int) := by omega
      clear hg1 hgg hm13 hr13 hml
      refine wp_region_held_drew (S := fun w' => (Below w6.drew.heap.size w6.drew w' ∧ w'.cell? ⟨BA, 0, none⟩ = some (.slice b ML bc) ∧ w'.cell? ⟨BB, 0, none⟩ = some (.slice d RL dc))) (by kernel_rfl) ?_ (fun hHeld => ?_)
      · exact HSt.out _ (Below.refl _ _)
      refine wpAnyH_take (i := 0) (v := ?_) (atL atZ) (by kernel_rfl) (by kernel_rfl) (by kernel_rfl) (fun _ _ _ h => h) (Or.inl ⟨by rfl, ?_⟩) (by assumption) ?_
      rotate_left
      · intro w hSw
        try dsimp only at hSw
        go_simp
        all_goals with_reducible rfl
      try simp only [Act.put, List.setIfInBounds_toArray, List.set_cons_zero, List.set_cons_succ]
      refine wpAnyH_take (i := 1) (v := ?_) (atL (atS atZ)) (by kernel_rfl) (by kernel_rfl) (by kernel_rfl) (fun _ _ _ h => h) (Or.inl ⟨by rfl, ?_⟩) (by assumption) ?_
      rotate_left
      · intro w hSw
        try dsimp only at hSw
        go_simp
        all_goals with_reducible rfl
      try simp only [Act.put, List.setIfInBounds_toArray, List.set_cons_zero, List.set_cons_succ]
      refine wpAnyH_take (i := 2) (v := ?_) (atL (atS (atS atZ))) (by kernel_rfl) (by kernel_rfl) (by kernel_rfl) (fun _ _ _ h => h) (Or.inl ⟨by rfl, ?_⟩) (by assumption) ?_
      rotate_left
      · intro w hSw
        try dsimp only at hSw
        go_simp
        all_goals with_reducible rfl
      try simp only [Act.put, List.setIfInBounds_toArray, List.set_cons_zero, List.set_cons_succ]
      refine wpAnyH_take (i := 3) (v := ?_) (atL (atS (atS (atS atZ)))) (by kernel_rfl) (by kernel_rfl) (by kernel_rfl) (fun _ _ _ h => h) (Or.inl ⟨by rfl, ?_⟩) (by assumption) ?_
      rotate_left
      · intro w hSw
        try dsimp only at hSw
        go_simp
        all_goals with_reducible rfl
      try simp only [Act.put, List.setIfInBounds_toArray, List.set_cons_zero, List.set_cons_succ]
      refine wpAnyH_take (i := 4) (v := ?_) (atL (atS (atS (atS (atS atZ))))) (by kernel_rfl) (by kernel_rfl) (by kernel_rfl) (fun _ _ _ h => h) (Or.inl ⟨by rfl, ?_⟩) (by assumption) ?_
      rotate_left
      · intro w hSw
        try dsimp only at hSw
        go_simp
        all_goals with_reducible rfl
      try simp only [Act.put, List.setIfInBounds_toArray, List.set_cons_zero, List.set_cons_succ]
      refine wpAnyH_take (i := 5) (v := ?_) (atL (atS (atS (atS (atS (atS atZ)))))) (by kernel_rfl) (by kernel_rfl) (by kernel_rfl) (fun _ _ _ h => h) (Or.inl ⟨by rfl, ?_⟩) (by assumption) ?_
      rotate_left
      · intro w hSw
        try dsimp only at hSw
        go_simp
        all_goals with_reducible rfl
      try simp only [Act.put, List.setIfInBounds_toArray, List.set_cons_zero, List.set_cons_succ]
      refine wpAnyH_take (i := 6) (v := ?_) (atL (atS (atS (atS (atS (atS (atS atZ))))))) (by kernel_rfl) (by kernel_rfl) (by kernel_rfl) (fun _ _ _ h => h) (Or.inl ⟨by rfl, ?_⟩) (by assumption) ?_
      rotate_left
      · intro w hSw
        try dsimp only at hSw
        go_simp
        all_goals with_reducible rfl
      try simp only [Act.put, List.setIfInBounds_toArray, List.set_cons_zero, List.set_cons_succ]
      refine wpAnyH_take (i := 7) (v := ?_) (atL (atS (atS (atS (atS (atS (atS (atS atZ)))))))) (by kernel_rfl) (by kernel_rfl) (by kernel_rfl) (fun _ _ _ h => h) (Or.inl ⟨by rfl, ?_⟩) (by assumption) ?_
      rotate_left
      · intro w hSw
        try dsimp only at hSw
        go_simp
        all_goals with_reducible rfl
      try simp only [Act.put, List.setIfInBounds_toArray, List.set_cons_zero, List.set_cons_succ]
      refine wpAnyH_take (i := 8) (v := ?_) (atL (atS (atS (atS (atS (atS (atS (atS (atS atZ))))))))) (by kernel_rfl) (by kernel_rfl) (by kernel_rfl) (fun _ _ _ h => h) (Or.inl ⟨by rfl, ?_⟩) (by assumption) ?_
      rotate_left
      · intro w hSw
        try dsimp only at hSw
        go_simp
        all_goals with_reducible rfl
      try simp only [Act.put, List.setIfInBounds_toArray, List.set_cons_zero, List.set_cons_succ]
      refine wpAnyH_take (i := 9) (v := ?_) (atL (atS (atS (atS (atS (atS (atS (atS (atS (atS atZ)))))))))) (by kernel_rfl) (by kernel_rfl) (by kernel_rfl) (fun _ _ _ h => h) (Or.inl ⟨by rfl, ?_⟩) (by assumption) ?_
      rotate_left
      · intro w hSw
        try dsimp only at hSw
        go_simp
        all_goals with_reducible rfl
      try simp only [Act.put, List.setIfInBounds_toArray, List.set_cons_zero, List.set_cons_succ]
      refine wpAnyH_take (i := 10) (v := ?_) (atL (atS (atS (atS (atS (atS (atS (atS (atS (atS (atS atZ))))))))))) (by kernel_rfl) (by kernel_rfl) (by kernel_rfl) (fun _ _ _ h => h) (Or.inl ⟨by rfl, ?_⟩) (by assumption) ?_
      rotate_left
      · intro w hSw
        try dsimp only at hSw
        go_simp
        all_goals with_reducible rfl
      try simp only [Act.put, List.setIfInBounds_toArray, List.set_cons_zero, List.set_cons_succ]
      refine wpAnyH_take (i := 11) (v := undef) (atL (atS (atS (atS (atS (atS (atS (atS (atS (atS (atS (atS atZ)))))))))))) (by kernel_rfl) (by kernel_rfl) (by kernel_rfl) (fun _ _ _ h => h) (Or.inr ⟨by rfl, rfl⟩) (by assumption) ?_
      try simp only [Act.put, List.setIfInBounds_toArray, List.set_cons_zero, List.set_cons_succ]
      refine wpAnyH_take (i := 12) (v := undef) (atL (atS (atS (atS (atS (atS (atS (atS (atS (atS (atS (atS (atS atZ))))))))))))) (by kernel_rfl) (by kernel_rfl) (by kernel_rfl) (fun _ _ _ h => h) (Or.inr ⟨by rfl, rfl⟩) (by assumption) ?_
      try simp only [Act.put, List.setIfInBounds_toArray, List.set_cons_zero, List.set_cons_succ]
      refine wpAnyH_take (i := 13) (v := undef) (atL (atS (atS (atS (atS (atS (atS (atS (atS (atS (atS (atS (atS (atS atZ)))))))))))))) (by kernel_rfl) (by kernel_rfl) (by kernel_rfl) (fun _ _ _ h => h) (Or.inr ⟨by rfl, rfl⟩) (by assumption) ?_
      try simp only [Act.put, List.setIfInBounds_toArray, List.set_cons_zero, List.set_cons_succ]
      refine wpAnyH_take (i := 14) (v := undef) (atL (atS (atS (atS (atS (atS (atS (atS (atS (atS (atS (atS (atS (atS (atS atZ))))))))))))))) (by kernel_rfl) (by kernel_rfl) (by kernel_rfl) (fun _ _ _ h => h) (Or.inr ⟨by rfl, rfl⟩) (by assumption) ?_
      try simp only [Act.put, List.setIfInBounds_toArray, List.set_cons_zero, List.set_cons_succ]
      refine wpAnyH_take (i := 15) (v := undef) (atL (atS (atS (atS (atS (atS (atS (atS (atS (atS (atS (atS (atS (atS (atS (atS atZ)))))))))))))))) (by kernel_rfl) (by kernel_rfl) (by kernel_rfl) (fun _ _ _ h => h) (Or.inr ⟨by rfl, rfl⟩) (by assumption) ?_
      try simp only [Act.put, List.setIfInBounds_toArray, List.set_cons_zero, List.set_cons_succ]
      refine wpAnyH_take (i := 16) (v := undef) (atL (atS (atS (atS (atS (atS (atS (atS (atS (atS (atS (atS (atS (atS (atS (atS (atS atZ))))))))))))))))) (by kernel_rfl) (by kernel_rfl) (by kernel_rfl) (fun _ _ _ h => h) (Or.inr ⟨by rfl, rfl⟩) (by assumption) ?_
      try simp only [Act.put, List.setIfInBounds_toArray, List.set_cons_zero, List.set_cons_succ]
      refine wpAnyH_take (i := 17) (v := undef) (atL (atS (atS (atS (atS (atS (atS (atS (atS (atS (atS (atS (atS (atS (atS (atS (atS (atS atZ)))))))))))))))))) (by kernel_rfl) (by kernel_rfl) (by kernel_rfl) (fun _ _ _ h => h) (Or.inr ⟨by rfl, rfl⟩) (by assumption) ?_
      try simp only [Act.put, List.setIfInBounds_toArray, List.set_cons_zero, List.set_cons_succ]
      refine wpAnyH_take (i := 18) (v := undef) (atL (atS (atS (atS (atS (atS (atS (atS (atS (atS (atS (atS (atS (atS (atS (atS (atS (atS (atS atZ))))))))))))))))))) (by kernel_rfl) (by kernel_rfl) (by kernel_rfl) (fun _ _ _ h => h) (Or.inr ⟨by rfl, rfl⟩) (by assumption) ?_
      try simp only [Act.put, List.setIfInBounds_toArray, List.set_cons_zero, List.set_cons_succ]
      refine wpAnyH_take (i := 19) (v := undef) (atL (atS (atS (atS (atS (atS (atS (atS (atS (atS (atS (atS (atS (atS (atS (atS (atS (atS (atS (atS atZ)))))))))))))))))))) (by kernel_rfl) (by kernel_rfl) (by kernel_rfl) (fun _ _ _ h => h) (Or.inr ⟨by rfl, rfl⟩) (by assumption) ?_
      try simp only [Act.put, List.setIfInBounds_toArray, List.set_cons_zero, List.set_cons_succ]
      refine wpAnyH_take (i := 20) (v := undef) (atL (atS (atS (atS (atS (atS (atS (atS (atS (atS (atS (atS (atS (atS (atS (atS (atS (atS (atS (atS (atS atZ))))))))))))))))))))) (by kernel_rfl) (by kernel_rfl) (by kernel_rfl) (fun _ _ _ h => h) (Or.inr ⟨by rfl, rfl⟩) (by assumption) ?_
      try simp only [Act.put, List.setIfInBounds_toArray, List.set_cons_zero, List.set_cons_succ]
      refine wpAnyH_take (i := 21) (v := undef) (atL (atS (atS (atS (atS (atS (atS (atS (atS (atS (atS (atS (atS (atS (atS (atS (atS (atS (atS (atS (atS (atS atZ)))))))))))))))))))))) (by kernel_rfl) (by kernel_rfl) (by kernel_rfl) (fun _ _ _ h => h) (Or.inr ⟨by rfl, rfl⟩) (by assumption) ?_
      try simp only [Act.put, List.setIfInBounds_toArray, List.set_cons_zero, List.set_cons_succ]
      refine wpAnyH_take (i := 22) (v := undef) (atL (atS (atS (atS (atS (atS (atS (atS (atS (atS (atS (atS (atS (atS (atS (atS (atS (atS (atS (atS (atS (atS (atS atZ))))))))))))))))))))))) (by kernel_rfl) (by kernel_rfl) (by kernel_rfl) (fun _ _ _ h => h) (Or.inr ⟨by rfl, rfl⟩) (by assumption) ?_
      try simp only [Act.put, List.setIfInBounds_toArray, List.set_cons_zero, List.set_cons_succ]
      refine wpAnyH_take (i := 23) (v := undef) (atL (atS (atS (atS (atS (atS (atS (atS (atS (atS (atS (atS (atS (atS (atS (atS (atS (atS (atS (atS (atS (atS (atS (atS atZ)))))))))))))))))))))))) (by kernel_rfl) (by kernel_rfl) (by kernel_rfl) (fun _ _ _ h => h) (Or.inr ⟨by rfl, rfl⟩) (by assumption) ?_
      try simp only [Act.put, List.setIfInBounds_toArray, List.set_cons_zero, List.set_cons_succ]
      refine wpAnyH_take (i := 24) (v := ?_) (atL (atS (atS (atS (atS (atS (atS (atS (atS (atS (atS (atS (atS (atS (atS (atS (atS (atS (atS (atS (atS (atS (atS (atS (atS atZ))))))))))))))))))))))))) (by kernel_rfl) (by kernel_rfl) (by kernel_rfl) (fun _ _ _ h => h) (Or.inl ⟨by rfl, ?_⟩) (by assumption) ?_
      rotate_left
      · intro w hSw
        try dsimp only at hSw
        go_simp
        all_goals with_reducible rfl
      try simp only [Act.put, List.setIfInBounds_toArray, List.set_cons_zero, List.set_cons_succ]
      refine wpAnyH_take (i := 25) (v := ?_) (atL (atS (atS (atS (atS (atS (atS (atS (atS (atS (atS (atS (atS (atS (atS (atS (atS (atS (atS (atS (atS (atS (atS (atS (atS (atS atZ)))))))))))))))))))))))))) (by kernel_rfl) (by kernel_rfl) (by kernel_rfl) (fun _ _ _ h => h) (Or.inl ⟨by rfl, ?_⟩) (by assumption) ?_
      rotate_left
      · intro w hSw
        try dsimp only at hSw
        go_simp
        all_goals with_reducible rfl
      try simp only [Act.put, List.setIfInBounds_toArray, List.set_cons_zero, List.set_cons_succ]
      refine wpAnyH_take (i := 26) (v := ?_) (atL (atS (atS (atS (atS (atS (atS (atS (atS (atS (atS (atS (atS (atS (atS (atS (atS (atS (atS (atS (atS (atS (atS (atS (atS (atS (atS atZ))))))))))))))))))))))))))) (by kernel_rfl) (by kernel_rfl) (by kernel_rfl) (fun _ _ _ h => h) (Or.inl ⟨by rfl, ?_⟩) (by assumption) ?_
      rotate_left
      · intro w hSw
        try dsimp only at hSw
        go_simp
        all_goals with_reducible rfl
      try simp only [Act.put, List.setIfInBounds_toArray, List.set_cons_zero, List.set_cons_succ]
      refine wpAnyH_done (by kernel_rfl) ?_ _
      go_wp2_with (fail)
      exact bodyPost_ret (v := .bool true) (by simp [results, Try.results6, go_sem]; try first | rfl | assumption | omega) rfl ⟨rfl, Hb13.out⟩
    · subst hg1
      obtain ⟨a1, c1, v1, a2, c2, v2, hq1, hq2, hq3, hq4, hq5⟩ := run_twice w6.drew 22 22 b bc m hm13 hml.2 hml.1
      have hss := refGSame_any d a2 dc c2 r (m ++ m) v2 (hr13.grown hq5) hq3
      rw [hg2, decide_eq_true rfl] at hss
      obtain ⟨MM, hMM⟩ : ∃ q, Hid ((m ++ m).length = q) := ⟨_, Lib.hid rfl⟩
      rw [HML.out] at hq1 hq2
      rw [hMM.out] at hq2 hss
      rw [hRL.out] at hss
      have Hq1 := Lib.hid hq1
      have Hq2 := Lib.hid hq2
      have Hss := Lib.hid hss
      have Hq4 := Lib.hid hq4
      have Hq5 := Lib.hid hq5
      clear hgg hm13 hr13 hml hg2 hq1 hq2 hq3 hq4 hq5 hss
      refine wp_region_held_drew (S := fun w' => (Below w6.drew.heap.size w6.drew w' ∧ w'.cell? ⟨BA, 0, none⟩ = some (.slice b ML bc) ∧ w'.cell? ⟨BB, 0, none⟩ = some (.slice d RL dc))) (by kernel_rfl) ?_ (fun hHeld => ?_)
      · exact HSt.out _ (Below.refl _ _)
      refine wpAnyH_take (i := 0) (v := ?_) (atL atZ) (by kernel_rfl) (by kernel_rfl) (by kernel_rfl) (fun _ _ _ h => h) (Or.inl ⟨by rfl, ?_⟩) (by assumption) ?_
      rotate_left
      · intro w hSw
        try dsimp only at hSw
        go_simp
        all_goals with_reducible rfl
      try simp only [Act.put, List.setIfInBounds_toArray, List.set_cons_zero, List.set_cons_succ]
      refine wpAnyH_take (i := 1) (v := ?_) (atL (atS atZ)) (by kernel_rfl) (by kernel_rfl) (by kernel_rfl) (fun _ _ _ h => h) (Or.inl ⟨by rfl, ?_⟩) (by assumption) ?_
      rotate_left
      · intro w hSw
        try dsimp only at hSw
        go_simp
        all_goals with_reducible rfl
      try simp only [Act.put, List.setIfInBounds_toArray, List.set_cons_zero, List.set_cons_succ]
      refine wpAnyH_take (i := 2) (v := ?_) (atL (atS (atS atZ))) (by kernel_rfl) (by kernel_rfl) (by kernel_rfl) (fun _ _ _ h => h) (Or.inl ⟨by rfl, ?_⟩) (by assumption) ?_
      rotate_left
      · intro w hSw
        try dsimp only at hSw
        go_simp
        all_goals with_reducible rfl
      try simp only [Act.put, List.setIfInBounds_toArray, List.set_cons_zero, List.set_cons_succ]
      refine wpAnyH_take (i := 3) (v := ?_) (atL (atS (atS (atS atZ)))) (by kernel_rfl) (by kernel_rfl) (by kernel_rfl) (fun _ _ _ h => h) (Or.inl ⟨by rfl, ?_⟩) (by assumption) ?_
      rotate_left
      · intro w hSw
        try dsimp only at hSw
        go_simp
        all_goals with_reducible rfl
      try simp only [Act.put, List.setIfInBounds_toArray, List.set_cons_zero, List.set_cons_succ]
      refine wpAnyH_take (i := 4) (v := ?_) (atL (atS (atS (atS (atS atZ))))) (by kernel_rfl) (by kernel_rfl) (by kernel_rfl) (fun _ _ _ h => h) (Or.inl ⟨by rfl, ?_⟩) (by assumption) ?_
      rotate_left
      · intro w hSw
        try dsimp only at hSw
        go_simp
        all_goals with_reducible rfl
      try simp only [Act.put, List.setIfInBounds_toArray, List.set_cons_zero, List.set_cons_succ]
      refine wpAnyH_take (i := 5) (v := undef) (atL (atS (atS (atS (atS (atS atZ)))))) (by kernel_rfl) (by kernel_rfl) (by kernel_rfl) (fun _ _ _ h => h) (Or.inr ⟨by rfl, rfl⟩) (by assumption) ?_
      try simp only [Act.put, List.setIfInBounds_toArray, List.set_cons_zero, List.set_cons_succ]
      refine wpAnyH_take (i := 6) (v := undef) (atL (atS (atS (atS (atS (atS (atS atZ))))))) (by kernel_rfl) (by kernel_rfl) (by kernel_rfl) (fun _ _ _ h => h) (Or.inr ⟨by rfl, rfl⟩) (by assumption) ?_
      try simp only [Act.put, List.setIfInBounds_toArray, List.set_cons_zero, List.set_cons_succ]
      refine wpAnyH_take (i := 7) (v := undef) (atL (atS (atS (atS (atS (atS (atS (atS atZ)))))))) (by kernel_rfl) (by kernel_rfl) (by kernel_rfl) (fun _ _ _ h => h) (Or.inr ⟨by rfl, rfl⟩) (by assumption) ?_
      try simp only [Act.put, List.setIfInBounds_toArray, List.set_cons_zero, List.set_cons_succ]
      refine wpAnyH_take (i := 8) (v := undef) (atL (atS (atS (atS (atS (atS (atS (atS (atS atZ))))))))) (by kernel_rfl) (by kernel_rfl) (by kernel_rfl) (fun _ _ _ h => h) (Or.inr ⟨by rfl, rfl⟩) (by assumption) ?_
      try simp only [Act.put, List.setIfInBounds_toArray, List.set_cons_zero, List.set_cons_succ]
      refine wpAnyH_take (i := 9) (v := ?_) (atL (atS (atS (atS (atS (atS (atS (atS (atS (atS atZ)))))))))) (by kernel_rfl) (by kernel_rfl) (by kernel_rfl) (fun _ _ _ h => h) (Or.inl ⟨by rfl, ?_⟩) (by assumption) ?_
      rotate_left
      · intro w hSw
        try dsimp only at hSw
        go_simp
        all_goals with_reducible rfl
      try simp only [Act.put, List.setIfInBounds_toArray, List.set_cons_zero, List.set_cons_succ]
      refine wpAnyH_take (i := 10) (v := ?_) (atL (atS (atS (atS (atS (atS (atS (atS (atS (atS (atS atZ))))))))))) (by kernel_rfl) (by kernel_rfl) (by kernel_rfl) (fun _ _ _ h => h) (Or.inl ⟨by rfl, ?_⟩) (by assumption) ?_
      rotate_left
      · intro w hSw
        try dsimp only at hSw
        go_simp
        all_goals with_reducible rfl
      try simp only [Act.put, List.setIfInBounds_toArray, List.set_cons_zero, List.set_cons_succ]
      refine wpAnyH_take (i := 11) (v := ?_) (atL (atS (atS (atS (atS (atS (atS (atS (atS (atS (atS (atS atZ)))))))))))) (by kernel_rfl) (by kernel_rfl) (by kernel_rfl) (fun _ _ _ h => h) (Or.inl ⟨by rfl, ?_⟩) (by assumption) ?_
      rotate_left
      · intro w hSw
        try dsimp only at hSw
        go_simp
        all_goals with_reducible rfl
      try simp only [Act.put, List.setIfInBounds_toArray, List.set_cons_zero, List.set_cons_succ]
      refine wpAnyH_take (i := 12) (v := ?_) (atL (atS (atS (atS (atS (atS (atS (atS (atS (atS (atS (atS (atS atZ))))))))))))) (by kernel_rfl) (by kernel_rfl) (by kernel_rfl) (fun _ _ _ h => h) (Or.inl ⟨by rfl, ?_⟩) (by assumption) ?_
      rotate_left
      · intro w hSw
        try dsimp only at hSw
        go_simp
        all_goals with_reducible rfl
      try simp only [Act.put, List.setIfInBounds_toArray, List.set_cons_zero, List.set_cons_succ]
      refine wpAnyH_take (i := 13) (v := ?_) (atL (atS (atS (atS (atS (atS (atS (atS (atS (atS (atS (atS (atS (atS atZ)))))))))))))) (by kernel_rfl) (by kernel_rfl) (by kernel_rfl) (fun _ _ _ h => h) (Or.inl ⟨by rfl, ?_⟩) (by assumption) ?_
      rotate_left
      · intro w hSw
        try dsimp only at hSw
        go_simp
        all_goals with_reducible rfl
      try simp only [Act.put, List.setIfInBounds_toArray, List.set_cons_zero, List.set_cons_succ]
      refine wpAnyH_take (i := 14) (v := ?_) (atL (atS (atS (atS (atS (atS (atS (atS (atS (atS (atS (atS (atS (atS (atS atZ))))))))))))))) (by kernel_rfl) (by kernel_rfl) (by kernel_rfl) (fun _ _ _ h => h) (Or.inl ⟨by rfl, ?_⟩) (by assumption) ?_
      rotate_left
      · intro w hSw
        try dsimp only at hSw
        go_simp
        all_goals with_reducible rfl
      try simp only [Act.put, List.setIfInBounds_toArray, List.set_cons_zero, List.set_cons_succ]
      refine wpAnyH_take (i := 15) (v := ?_) (atL (atS (atS (atS (atS (atS (atS (atS (atS (atS (atS (atS (atS (atS (atS (atS atZ)))))))))))))))) (by kernel_rfl) (by kernel_rfl) (by kernel_rfl) (fun _ _ _ h => h) (Or.inl ⟨by rfl, ?_⟩) (by assumption) ?_
      rotate_left
      · intro w hSw
        try dsimp only at hSw
        go_simp
        all_goals with_reducible rfl
      try simp only [Act.put, List.setIfInBounds_toArray, List.set_cons_zero, List.set_cons_succ]
      refine wpAnyH_take (i := 16) (v := ?_) (atL (atS (atS (atS (atS (atS (atS (atS (atS (atS (atS (atS (atS (atS (atS (atS (atS atZ))))))))))))))))) (by kernel_rfl) (by kernel_rfl) (by kernel_rfl) (fun _ _ _ h => h) (Or.inl ⟨by rfl, ?_⟩) (by assumption) ?_
      rotate_left
      · intro w hSw
        try dsimp only at hSw
        go_simp
        all_goals with_reducible rfl
      try simp only [Act.put, List.setIfInBounds_toArray, List.set_cons_zero, List.set_cons_succ]
      refine wpAnyH_take (i := 18) (v := ?_) (atL (atS (atS (atS (atS (atS (atS (atS (atS (atS (atS (atS (atS (atS (atS (atS (atS (atS (atS atZ))))))))))))))))))) (by kernel_rfl) (by kernel_rfl) (by kernel_rfl) (fun _ _ _ h => h) (Or.inl ⟨by rfl, ?_⟩) (by assumption) ?_
      rotate_left
      · intro w hSw
        try dsimp only at hSw
        go_simp
        all_goals with_reducible rfl
      try simp only [Act.put, List.setIfInBounds_toArray, List.set_cons_zero, List.set_cons_succ]
      refine wpAnyH_take (i := 19) (v := ?_) (atL (atS (atS (atS (atS (atS (atS (atS (atS (atS (atS (atS (atS (atS (atS (atS (atS (atS (atS (atS atZ)))))))))))))))))))) (by kernel_rfl) (by kernel_rfl) (by kernel_rfl) (fun _ _ _ h => h) (Or.inl ⟨by rfl, ?_⟩) (by assumption) ?_
      rotate_left
      · intro w hSw
        try dsimp only at hSw
        go_simp
        all_goals with_reducible rfl
      try simp only [Act.put, List.setIfInBounds_toArray, List.set_cons_zero, List.set_cons_succ]
      refine wpAnyH_ready (rs := [17]) (by kernel_rfl) (by simp) ?_
      refine AllReadyH.cons (atL (atS (atS (atS (atS (atS (atS (atS (atS (atS (atS (atS (atS (atS (atS (atS (atS (atS atZ)))))))))))))))))) (fun K hK => ?_) AllReadyH.nil
      refine step_append_runG (by rfl) _ _ 22 22 rfl _ _ _ _ rfl rfl Hq1.out ?_
      refine hK.out _ _ ?_ (fun hHeld => ?_)
      · exact HSt.out _ Hq4.out
      clear hK K
      try simp only [Act.put, List.setIfInBounds_toArray, List.set_cons_zero, List.set_cons_succ]
      refine wpAnyH_ready (rs := [20]) (by kernel_rfl) (by simp) ?_
      refine AllReadyH.cons (atL (atS (atS (atS (atS (atS (atS (atS (atS (atS (atS (atS (atS (atS (atS (atS (atS (atS (atS (atS (atS atZ))))))))))))))))))))) (fun K hK => ?_) AllReadyH.nil
      refine step_append_runG (by rfl) _ _ 22 22 rfl _ _ _ _ rfl rfl Hq2.out ?_
      refine hK.out _ _ ?_ (fun hHeld => ?_)
      · exact HSt.out _ Hq5.out
      clear hK K
      try simp only [Act.put, List.setIfInBounds_toArray, List.set_cons_zero, List.set_cons_succ]
      refine wpAnyH_take (i := 21) (v := ?_) (atL (atS (atS (atS (atS (atS (atS (atS (atS (atS (atS (atS (atS (atS (atS (atS (atS (atS (atS (atS (atS (atS atZ)))))))))))))))))))))) (by kernel_rfl) (by kernel_rfl) (by kernel_rfl) (fun _ _ _ h => h) (Or.inl ⟨by rfl, ?_⟩) (by assumption) ?_
      rotate_left
      · intro w hSw
        try dsimp only at hSw
        go_simp
        all_goals with_reducible rfl
      try simp only [Act.put, List.setIfInBounds_toArray, List.set_cons_zero, List.set_cons_succ]
      refine wpAnyH_ready (rs := [22]) (by kernel_rfl) (by simp) ?_
      refine AllReadyH.cons (atL (atS (atS (atS (atS (atS (atS (atS (atS (atS (atS (atS (atS (atS (atS (atS (atS (atS (atS (atS (atS (atS (atS atZ))))))))))))))))))))))) (fun K hK => ?_) AllReadyH.nil
      go_simp
      go_at_call 15
      (with_reducible refine Hss.out.mono ?_)
      rintro e V4 ⟨rfl, hV4⟩
      have HV4 := Lib.hid hV4
      clear hV4
      dsimp only
      refine hK.out _ _ ?_ (fun hHeld => ?_)
      · exact HSt.out _ (Hq5.out.trans (HV4.out.mono Hq5.out.size))
      clear hK K
      try simp only [Act.put, List.setIfInBounds_toArray, List.set_cons_zero, List.set_cons_succ]
      refine wpAnyH_take (i := 23) (v := ?_) (atL (atS (atS (atS (atS (atS (atS (atS (atS (atS (atS (atS (atS (atS (atS (atS (atS (atS (atS (atS (atS (atS (atS (atS atZ)))))))))))))))))))))))) (by kernel_rfl) (by kernel_rfl) (by kernel_rfl) (fun _ _ _ h => h) (Or.inl ⟨by rfl, ?_⟩) (by assumption) ?_
      rotate_left
      · intro w hSw
        try dsimp only at hSw
        go_simp
        all_goals with_reducible rfl
      try simp only [Act.put, List.setIfInBounds_toArray, List.set_cons_zero, List.set_cons_succ]
      refine wpAnyH_take (i := 24) (v := ?_) (atL (atS (atS (atS (atS (atS (atS (atS (atS (atS (atS (atS (atS (atS (atS (atS (atS (atS (atS (atS (atS (atS (atS (atS (atS atZ))))))))))))))))))))))))) (by kernel_rfl) (by kernel_rfl) (by kernel_rfl) (fun _ _ _ h => h) (Or.inl ⟨by rfl, ?_⟩) (by assumption) ?_
      rotate_left
      · intro w hSw
        try dsimp only at hSw
        go_simp
        all_goals with_reducible rfl
      try simp only [Act.put, List.setIfInBounds_toArray, List.set_cons_zero, List.set_cons_succ]
      refine wpAnyH_take (i := 25) (v := ?_) (atL (atS (atS (atS (atS (atS (atS (atS (atS (atS (atS (atS (atS (atS (atS (atS (atS (atS (atS (atS (atS (atS (atS (atS (atS (atS atZ)))))))))))))))))))))))))) (by kernel_rfl) (by kernel_rfl) (by kernel_rfl) (fun _ _ _ h => h) (Or.inl ⟨by rfl, ?_⟩) (by assumption) ?_
      rotate_left
      · intro w hSw
        try dsimp only at hSw
        go_simp
        all_goals with_reducible rfl
      try simp only [Act.put, List.setIfInBounds_toArray, List.set_cons_zero, List.set_cons_succ]
      refine wpAnyH_take (i := 26) (v := ?_) (atL (atS (atS (atS (atS (atS (atS (atS (atS (atS (atS (atS (atS (atS (atS (atS (atS (atS (atS (atS (atS (atS (atS (atS (atS (atS (atS atZ))))))))))))))))))))))))))) (by kernel_rfl) (by kernel_rfl) (by kernel_rfl) (fun _ _ _ h => h) (Or.inl ⟨by rfl, ?_⟩) (by assumption) ?_
      rotate_left
      · intro w hSw
        try dsimp only at hSw
        go_simp
        all_goals with_reducible rfl
      try simp only [Act.put, List.setIfInBounds_toArray, List.set_cons_zero, List.set_cons_succ]
      refine wpAnyH_done (by kernel_rfl) ?_ _
      go_wp2_with (fail)
      exact bodyPost_ret (v := .bool true) (by simp [results, Try.results6, go_sem]; try first | rfl | assumption | omega) rfl ⟨rfl, Hb13.out.trans ((Hq5.out.trans (HV4.out.mono Hq5.out.size)).mono Hb13.out.size)⟩
end Go.Proofs.Ytoaabfdilhbajaa
