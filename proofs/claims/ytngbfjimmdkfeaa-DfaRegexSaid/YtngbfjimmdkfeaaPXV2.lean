/- Texts joined: Vc. -/
import Derived.Test.YtngbfjimmdkfeaaPXV1
set_option linter.unusedVariables false
set_option linter.unusedSimpArgs false
namespace Go.Proofs.Ytngbfjimmdkfeaa
open Go.RowKit Go.Shelf

attribute [local go_sem] Oper.semAt_some

/-- Some place k below K between i and j. -/
def thenK (a b : Nat → Nat → Bool) (K i j : Nat) : Bool := (List.range K).any fun k => decide (i ≤ k) && decide (k ≤ j) && a i k && b k j
theorem thenK_succ (a b : Nat → Nat → Bool) (K i j : Nat) : thenK a b (K + 1) i j = (thenK a b K i j || (decide (i ≤ K) && decide (K ≤ j) && a i K && b K j)) := by
  simp [thenK, List.range_succ]
theorem thenK_low (a b : Nat → Nat → Bool) (i j : Nat) : thenK a b i i j = false := by
  unfold thenK
  rw [List.any_eq_false]
  intro k hk
  have := List.mem_range.1 hk
  simp
  omega
def thenT (n : Nat) (a b : Nat → Nat → Bool) : Nat → Nat → Bool := thenK a b (n + 1)
/-- The table on the way: rows below i0 are whole; of row i0 what is between below k0, and of k0 below j0. -/
def thenS (n : Nat) (a b : Nat → Nat → Bool) (i0 k0 j0 : Nat) : Nat → Nat → Bool := fun i j =>
  if i < i0 then thenK a b (n + 1) i j else if i = i0 then thenK a b k0 i j || (decide (k0 ≤ j) && decide (j < j0) && a i k0 && b k0 j) else false
theorem thenS_next {n : Nat} {a b : Nat → Nat → Bool} {i0 k0 : Nat} (hk : i0 ≤ k0) {j0 : Nat} (h : a i0 k0 = false ∨ n < j0) {i j : Nat} (hj : j ≤ n) : thenS n a b i0 (k0 + 1) (k0 + 1) i j = thenS n a b i0 k0 j0 i j := by
  unfold thenS
  by_cases h1 : i < i0
  · rw [if_pos h1, if_pos h1]
  rw [if_neg h1, if_neg h1]
  by_cases h2 : i = i0
  · subst h2
    rw [if_pos rfl, if_pos rfl, thenK_succ]
    have e : (decide (k0 + 1 ≤ j) && decide (j < k0 + 1)) = false := by
      by_cases h3 : k0 + 1 ≤ j
      · rw [decide_eq_false (by omega : ¬ j < k0 + 1), Bool.and_false]
      · rw [decide_eq_false h3, Bool.false_and]
    rw [e, Bool.false_and, Bool.false_and, Bool.or_false, decide_eq_true hk, Bool.true_and]
    rcases h with h | h
    · rw [h]; simp
    · rw [decide_eq_true (by omega : j < j0), Bool.and_true]
  · rw [if_neg h2, if_neg h2]
theorem thenS_row {n : Nat} {a b : Nat → Nat → Bool} {i0 : Nat} {i j : Nat} (hi : i ≤ n) : thenS n a b (i0 + 1) (i0 + 1) (i0 + 1) i j = thenS n a b i0 (n + 1) (n + 1) i j := by
  unfold thenS
  by_cases h1 : i < i0
  · rw [if_pos h1, if_pos (by omega)]
  rw [if_neg h1]
  by_cases h2 : i = i0
  · subst h2
    rw [if_pos (by omega), if_pos rfl]
    have e : (decide (n + 1 ≤ j) && decide (j < n + 1)) = false := by
      by_cases h3 : n + 1 ≤ j
      · rw [decide_eq_false (by omega : ¬ j < n + 1), Bool.and_false]
      · rw [decide_eq_false h3, Bool.false_and]
    rw [e, Bool.false_and, Bool.false_and, Bool.or_false]
  · rw [if_neg h2, if_neg (by omega)]
    by_cases h3 : i = i0 + 1
    · subst h3
      rw [if_pos rfl, thenK_low]
      have e : (decide (i0 + 1 ≤ j) && decide (j < i0 + 1)) = false := by
        by_cases h3 : i0 + 1 ≤ j
        · rw [decide_eq_false (by omega : ¬ j < i0 + 1), Bool.and_false]
        · rw [decide_eq_false h3, Bool.false_and]
      rw [e]; rfl
    · rw [if_neg h3]

set_option maxRecDepth 100000 in
set_option maxHeartbeats 1000000 in
theorem then_any (n ga gb : Nat) (fa fb : Nat → Nat → Bool) (hn : n ≤ 100) (w : World) (hA : Tab w n ga fa) (hB : Tab w n gb fb) :
    Calls Try.prog 67 #[tabV n ga, tabV n gb] w fun e w' => e = .returned (tabV n w.heap.size) ∧ Tab w' n w.heap.size (thenT n fa fb) ∧ Below w.heap.size w w' := by
  have hnI : (n : Int) ≤ 100 := by omega
  have hnI0 : (0 : Int) ≤ (n : Int) := by omega
  have hla := hA.lt
  have hlb := hB.lt
  go_enter Try.func67, Try.ntmps67
  go_wp2_with (fail)
  refine (table_any n hn w).mono ?_
  rintro e w2 ⟨rfl, hT2, hb2⟩
  have hI : ∃ i : Nat, i ≤ n + 1 ∧ Value.int .i64 0 = .int .i64 (i : Int) ∧ Tab w2 n w.heap.size (thenS n fa fb i i i) ∧ Below w.heap.size w w2 := ⟨0, by omega, rfl, hT2.congr (fun i j _ _ => by unfold thenS; rw [if_neg (Nat.not_lt_zero i)]; split <;> simp [thenK]), hb2⟩
  clear hT2 hb2
  go_wp2_with (fail)
  go_loopw [15] (fun iv wr => ∃ i : Nat, i ≤ n + 1 ∧ iv = .int .i64 (i : Int) ∧ Tab wr n w.heap.size (thenS n fa fb i i i) ∧ Below w.heap.size w wr) (fun iv _ => n + 1 - (intOf iv).toNat)
  case atStart => exact hI
  case round =>
    obtain ⟨i, hi, rfl, hT, hbr⟩ := hrel
    clear hI
    by_cases hlt : i < n + 1
    · have hiI : (i : Int) < (n : Int) + 1 := by omega
      have hiI0 : (0 : Int) ≤ (i : Int) := by omega
      have hin : i ≤ n := by omega
      have hJ : ∃ k : Nat, i ≤ k ∧ k ≤ n + 1 ∧ Value.int .i64 (i : Int) = .int .i64 (k : Int) ∧ Tab wr n w.heap.size (thenS n fa fb i k k) ∧ Below w.heap.size w wr := ⟨i, Nat.le_refl _, hi, rfl, hT, hbr⟩
      clear hT hbr
      go_wp2_with (fail)
      go_loopw [7] (fun kv wx => ∃ k : Nat, i ≤ k ∧ k ≤ n + 1 ∧ kv = .int .i64 (k : Int) ∧ Tab wx n w.heap.size (thenS n fa fb i k k) ∧ Below w.heap.size w wx) (fun kv _ => n + 1 - (intOf kv).toNat)
      case atStart => exact hJ
      case round =>
        obtain ⟨k, hik, hk, rfl, hT, hbr⟩ := hrel
        clear hJ
        by_cases hkt : k < n + 1
        · have hkI : (k : Int) < (n : Int) + 1 := by omega
          have hkI0 : (0 : Int) ≤ (k : Int) := by omega
          have hkn : k ≤ n := by omega
          have hL : ∃ j : Nat, k ≤ j ∧ j ≤ n + 1 ∧ Value.int .i64 (k : Int) = .int .i64 (j : Int) ∧ Tab wr n w.heap.size (thenS n fa fb i k j) ∧ Below w.heap.size w wr := ⟨k, Nat.le_refl _, hk, rfl, hT, hbr⟩
          obtain ⟨A, HAv⟩ : ∃ b, Hid (fa i k = b) := ⟨_, Lib.hid rfl⟩
          clear hT hbr
          go_wp2_with (fail)
          go_loopw [8] (fun jv wx => ∃ j : Nat, k ≤ j ∧ j ≤ n + 1 ∧ jv = .int .i64 (j : Int) ∧ Tab wx n w.heap.size (thenS n fa fb i k j) ∧ Below w.heap.size w wx) (fun jv _ => n + 1 - (intOf jv).toNat)
          case atStart => exact hL
          case round =>
            obtain ⟨j, hkj, hj, rfl, hT, hbr⟩ := hrel
            clear hL
            have a1 := (hA.grown hbr).outAt hin
            have a2 := (hA.grown hbr).rowAt hin hkn
            rw [HAv.out] at a2
            cases A
            case false =>
              go_wp2_with (fail)
              exact ⟨⟨k + 1, by omega, by omega, by simp, hT.congr (fun x y _ hy => thenS_next hik (.inl HAv.out) hy), hbr⟩, by simp [intOf]; omega⟩
            by_cases hjt : j < n + 1
            · have hjI : (j : Int) < (n : Int) + 1 := by omega
              have hjI0 : (0 : Int) ≤ (j : Int) := by omega
              have hjn : j ≤ n := by omega
              obtain ⟨O, HOv⟩ : ∃ b, Hid (thenS n fa fb i k j i j = b) := ⟨_, Lib.hid rfl⟩
              obtain ⟨B, HBv⟩ : ∃ b, Hid (fb k j = b) := ⟨_, Lib.hid rfl⟩
              have f5 := (hT.drew.row i hin).frozen j
              have l5 := (hT.drew.row i hin).lt
              have c5 := hT.drew.rowAt hin hjn
              rw [HOv.out] at c5
              cases O
              case true =>
                go_wp2_with (fail)
                have hT4 := hT.drew
                have hB4 := (hB.grown hbr).drew
                have hT5 := (hT.set (j := j) hin true).drew
                have hB5 := ((hB.grown hbr).other (b := w.heap.size + 1 + i) (j := j) (by omega) (.bool true)).drew
                refine wp_region_held_drew (S := fun w' => (w'.cell? ⟨w.heap.size, i, none⟩ = some (.slice (some ⟨w.heap.size + 1 + i, 0, none⟩) (n + 1) (n + 1)) ∧ w'.cell? ⟨gb, k, none⟩ = some (.slice (some ⟨gb + 1 + k, 0, none⟩) (n + 1) (n + 1)) ∧ w'.cell? ⟨gb + 1 + k, j, none⟩ = some (.bool B))) (by kernel_rfl) ?_ (fun hHeld => ?_)
                · exact ⟨hT4.outAt hin, hB4.outAt hkn, by rw [hB4.rowAt hkn hjn, HBv.out]⟩
                refine wpAnyH_take (i := 0) (v := ?_) (vatL vatZ) (by kernel_rfl) (by kernel_rfl) (by kernel_rfl) (fun _ _ _ h => h) (Or.inl ⟨by rfl, ?_⟩) (by assumption) ?_
                rotate_left
                · intro w hSw
                  try dsimp only at hSw
                  go_simp
                  all_goals with_reducible rfl
                try simp only [Act.put, List.setIfInBounds_toArray, List.set_cons_zero, List.set_cons_succ]
                refine wpAnyH_take (i := 1) (v := ?_) (vatL (vatS vatZ)) (by kernel_rfl) (by kernel_rfl) (by kernel_rfl) (fun _ _ _ h => h) (Or.inl ⟨by rfl, ?_⟩) (by assumption) ?_
                rotate_left
                · intro w hSw
                  try dsimp only at hSw
                  go_simp
                  all_goals with_reducible rfl
                try simp only [Act.put, List.setIfInBounds_toArray, List.set_cons_zero, List.set_cons_succ]
                refine wpAnyH_take (i := 2) (v := ?_) (vatL (vatS (vatS vatZ))) (by kernel_rfl) (by kernel_rfl) (by kernel_rfl) (fun _ _ _ h => h) (Or.inl ⟨by rfl, ?_⟩) (by assumption) ?_
                rotate_left
                · intro w hSw
                  try dsimp only at hSw
                  go_simp
                  all_goals with_reducible rfl
                try simp only [Act.put, List.setIfInBounds_toArray, List.set_cons_zero, List.set_cons_succ]
                refine wpAnyH_take (i := 3) (v := ?_) (vatL (vatS (vatS (vatS vatZ)))) (by kernel_rfl) (by kernel_rfl) (by kernel_rfl) (fun _ _ _ h => h) (Or.inl ⟨by rfl, ?_⟩) (by assumption) ?_
                rotate_left
                · intro w hSw
                  try dsimp only at hSw
                  go_simp
                  all_goals with_reducible rfl
                try simp only [Act.put, List.setIfInBounds_toArray, List.set_cons_zero, List.set_cons_succ]
                refine wpAnyH_take (i := 4) (v := ?_) (vatL (vatS (vatS (vatS (vatS vatZ))))) (by kernel_rfl) (by kernel_rfl) (by kernel_rfl) (fun _ _ _ h => h) (Or.inl ⟨by rfl, ?_⟩) (by assumption) ?_
                rotate_left
                · intro w hSw
                  try dsimp only at hSw
                  go_simp
                  all_goals with_reducible rfl
                try simp only [Act.put, List.setIfInBounds_toArray, List.set_cons_zero, List.set_cons_succ]
                refine wpAnyH_take (i := 5) (v := ?_) (vatL (vatS (vatS (vatS (vatS (vatS vatZ)))))) (by kernel_rfl) (by kernel_rfl) (by kernel_rfl) (fun _ _ _ h => h) (Or.inl ⟨by rfl, ?_⟩) (by assumption) ?_
                rotate_left
                · intro w hSw
                  try dsimp only at hSw
                  go_simp
                  all_goals with_reducible rfl
                try simp only [Act.put, List.setIfInBounds_toArray, List.set_cons_zero, List.set_cons_succ]
                refine wpAnyH_take (i := 6) (v := ?_) (vatL (vatS (vatS (vatS (vatS (vatS (vatS vatZ))))))) (by kernel_rfl) (by kernel_rfl) (by kernel_rfl) (fun _ _ _ h => h) (Or.inl ⟨by rfl, ?_⟩) (by assumption) ?_
                rotate_left
                · intro w hSw
                  try dsimp only at hSw
                  go_simp
                  all_goals with_reducible rfl
                try simp only [Act.put, List.setIfInBounds_toArray, List.set_cons_zero, List.set_cons_succ]
                refine wpAnyH_take (i := 7) (v := ?_) (vatL (vatS (vatS (vatS (vatS (vatS (vatS (vatS vatZ)))))))) (by kernel_rfl) (by kernel_rfl) (by kernel_rfl) (fun _ _ _ h => h) (Or.inl ⟨by rfl, ?_⟩) (by assumption) ?_
                rotate_left
                · intro w hSw
                  try dsimp only at hSw
                  go_simp
                  all_goals with_reducible rfl
                try simp only [Act.put, List.setIfInBounds_toArray, List.set_cons_zero, List.set_cons_succ]
                refine wpAnyH_take (i := 8) (v := ?_) (vatL (vatS (vatS (vatS (vatS (vatS (vatS (vatS (vatS vatZ))))))))) (by kernel_rfl) (by kernel_rfl) (by kernel_rfl) (fun _ _ _ h => h) (Or.inl ⟨by rfl, ?_⟩) (by assumption) ?_
                rotate_left
                · intro w hSw
                  try dsimp only at hSw
                  go_simp
                  all_goals with_reducible rfl
                try simp only [Act.put, List.setIfInBounds_toArray, List.set_cons_zero, List.set_cons_succ]
                refine wpAnyH_take (i := 9) (v := ?_) (vatL (vatS (vatS (vatS (vatS (vatS (vatS (vatS (vatS (vatS vatZ)))))))))) (by kernel_rfl) (by kernel_rfl) (by kernel_rfl) (fun _ _ _ h => h) (Or.inl ⟨by rfl, ?_⟩) (by assumption) ?_
                rotate_left
                · intro w hSw
                  try dsimp only at hSw
                  go_simp
                  all_goals with_reducible rfl
                try simp only [Act.put, List.setIfInBounds_toArray, List.set_cons_zero, List.set_cons_succ]
                refine wpAnyH_take (i := 10) (v := ?_) (vatL (vatS (vatS (vatS (vatS (vatS (vatS (vatS (vatS (vatS (vatS vatZ))))))))))) (by kernel_rfl) (by kernel_rfl) (by kernel_rfl) (fun _ _ _ h => h) (Or.inl ⟨by rfl, ?_⟩) (by assumption) ?_
                rotate_left
                · intro w hSw
                  try dsimp only at hSw
                  go_simp
                  all_goals with_reducible rfl
                try simp only [Act.put, List.setIfInBounds_toArray, List.set_cons_zero, List.set_cons_succ]
                refine wpAnyH_ready (rs := [11]) (by kernel_rfl) (by simp) ?_
                refine AllReadyH.cons (vatL (vatS (vatS (vatS (vatS (vatS (vatS (vatS (vatS (vatS (vatS (vatS vatZ)))))))))))) (fun K hK => ?_) AllReadyH.nil
                go_simp
                refine hK.out _ _ ?_ (fun hHeld => ?_)
                · exact ⟨hT4.outAt hin, hB4.outAt hkn, by rw [hB4.rowAt hkn hjn, HBv.out]⟩
                clear hK K
                try simp only [Act.put, List.setIfInBounds_toArray, List.set_cons_zero, List.set_cons_succ]
                refine wpAnyH_take (i := 12) (v := ?_) (vatL (vatS (vatS (vatS (vatS (vatS (vatS (vatS (vatS (vatS (vatS (vatS (vatS vatZ))))))))))))) (by kernel_rfl) (by kernel_rfl) (by kernel_rfl) (fun _ _ _ h => h) (Or.inl ⟨by rfl, ?_⟩) (by assumption) ?_
                rotate_left
                · intro w hSw
                  try dsimp only at hSw
                  go_simp
                  all_goals with_reducible rfl
                try simp only [Act.put, List.setIfInBounds_toArray, List.set_cons_zero, List.set_cons_succ]
                refine wpAnyH_take (i := 13) (v := undef) (vatL (vatS (vatS (vatS (vatS (vatS (vatS (vatS (vatS (vatS (vatS (vatS (vatS (vatS vatZ)))))))))))))) (by kernel_rfl) (by kernel_rfl) (by kernel_rfl) (fun _ _ _ h => h) (Or.inr ⟨by rfl, rfl⟩) (by assumption) ?_
                try simp only [Act.put, List.setIfInBounds_toArray, List.set_cons_zero, List.set_cons_succ]
                refine wpAnyH_take (i := 14) (v := undef) (vatL (vatS (vatS (vatS (vatS (vatS (vatS (vatS (vatS (vatS (vatS (vatS (vatS (vatS (vatS vatZ))))))))))))))) (by kernel_rfl) (by kernel_rfl) (by kernel_rfl) (fun _ _ _ h => h) (Or.inr ⟨by rfl, rfl⟩) (by assumption) ?_
                try simp only [Act.put, List.setIfInBounds_toArray, List.set_cons_zero, List.set_cons_succ]
                refine wpAnyH_take (i := 15) (v := undef) (vatL (vatS (vatS (vatS (vatS (vatS (vatS (vatS (vatS (vatS (vatS (vatS (vatS (vatS (vatS (vatS vatZ)))))))))))))))) (by kernel_rfl) (by kernel_rfl) (by kernel_rfl) (fun _ _ _ h => h) (Or.inr ⟨by rfl, rfl⟩) (by assumption) ?_
                try simp only [Act.put, List.setIfInBounds_toArray, List.set_cons_zero, List.set_cons_succ]
                refine wpAnyH_take (i := 16) (v := undef) (vatL (vatS (vatS (vatS (vatS (vatS (vatS (vatS (vatS (vatS (vatS (vatS (vatS (vatS (vatS (vatS (vatS vatZ))))))))))))))))) (by kernel_rfl) (by kernel_rfl) (by kernel_rfl) (fun _ _ _ h => h) (Or.inr ⟨by rfl, rfl⟩) (by assumption) ?_
                try simp only [Act.put, List.setIfInBounds_toArray, List.set_cons_zero, List.set_cons_succ]
                refine wpAnyH_take (i := 17) (v := undef) (vatL (vatS (vatS (vatS (vatS (vatS (vatS (vatS (vatS (vatS (vatS (vatS (vatS (vatS (vatS (vatS (vatS (vatS vatZ)))))))))))))))))) (by kernel_rfl) (by kernel_rfl) (by kernel_rfl) (fun _ _ _ h => h) (Or.inr ⟨by rfl, rfl⟩) (by assumption) ?_
                try simp only [Act.put, List.setIfInBounds_toArray, List.set_cons_zero, List.set_cons_succ]
                refine wpAnyH_take (i := 18) (v := undef) (vatL (vatS (vatS (vatS (vatS (vatS (vatS (vatS (vatS (vatS (vatS (vatS (vatS (vatS (vatS (vatS (vatS (vatS (vatS vatZ))))))))))))))))))) (by kernel_rfl) (by kernel_rfl) (by kernel_rfl) (fun _ _ _ h => h) (Or.inr ⟨by rfl, rfl⟩) (by assumption) ?_
                try simp only [Act.put, List.setIfInBounds_toArray, List.set_cons_zero, List.set_cons_succ]
                refine wpAnyH_take (i := 19) (v := undef) (vatL (vatS (vatS (vatS (vatS (vatS (vatS (vatS (vatS (vatS (vatS (vatS (vatS (vatS (vatS (vatS (vatS (vatS (vatS (vatS vatZ)))))))))))))))))))) (by kernel_rfl) (by kernel_rfl) (by kernel_rfl) (fun _ _ _ h => h) (Or.inr ⟨by rfl, rfl⟩) (by assumption) ?_
                try simp only [Act.put, List.setIfInBounds_toArray, List.set_cons_zero, List.set_cons_succ]
                refine wpAnyH_take (i := 20) (v := ?_) (vatL (vatS (vatS (vatS (vatS (vatS (vatS (vatS (vatS (vatS (vatS (vatS (vatS (vatS (vatS (vatS (vatS (vatS (vatS (vatS (vatS vatZ))))))))))))))))))))) (by kernel_rfl) (by kernel_rfl) (by kernel_rfl) (fun _ _ _ h => h) (Or.inl ⟨by rfl, ?_⟩) (by assumption) ?_
                rotate_left
                · intro w hSw
                  try dsimp only at hSw
                  go_simp
                  all_goals with_reducible rfl
                try simp only [Act.put, List.setIfInBounds_toArray, List.set_cons_zero, List.set_cons_succ]
                refine wpAnyH_take (i := 21) (v := ?_) (vatL (vatS (vatS (vatS (vatS (vatS (vatS (vatS (vatS (vatS (vatS (vatS (vatS (vatS (vatS (vatS (vatS (vatS (vatS (vatS (vatS (vatS vatZ)))))))))))))))))))))) (by kernel_rfl) (by kernel_rfl) (by kernel_rfl) (fun _ _ _ h => h) (Or.inl ⟨by rfl, ?_⟩) (by assumption) ?_
                rotate_left
                · intro w hSw
                  try dsimp only at hSw
                  go_simp
                  all_goals with_reducible rfl
                try simp only [Act.put, List.setIfInBounds_toArray, List.set_cons_zero, List.set_cons_succ]
                refine wpAnyH_ready (rs := [22]) (by kernel_rfl) (by simp) ?_
                refine AllReadyH.cons (vatL (vatS (vatS (vatS (vatS (vatS (vatS (vatS (vatS (vatS (vatS (vatS (vatS (vatS (vatS (vatS (vatS (vatS (vatS (vatS (vatS (vatS (vatS vatZ))))))))))))))))))))))) (fun K hK => ?_) AllReadyH.nil
                go_simp
                refine hK.out _ _ ?_ (fun hHeld => ?_)
                · exact ⟨hT5.outAt hin, hB5.outAt hkn, by rw [hB5.rowAt hkn hjn, HBv.out]⟩
                clear hK K
                try simp only [Act.put, List.setIfInBounds_toArray, List.set_cons_zero, List.set_cons_succ]
                refine wpAnyH_done (by kernel_rfl) ?_ _
                go_wp2_with (fail)
                refine ⟨⟨j + 1, by omega, by omega, by simp, hT5.congr (fun x y hx hy => ?_), (hbr.setCell (p := ⟨w.heap.size + 1 + i, j, none⟩) (by show w.heap.size ≤ w.heap.size + 1 + i; omega) _).drew⟩, by simp [intOf]; omega⟩
                unfold upd
                by_cases h1 : x = i ∧ y = j
                · rw [if_pos h1, h1.1, h1.2]
                  have := HOv.out
                  unfold thenS at this ⊢
                  rw [if_neg (Nat.lt_irrefl i), if_pos rfl] at this ⊢
                  rw [decide_eq_false (Nat.lt_irrefl j), Bool.and_false, Bool.false_and, Bool.false_and, Bool.or_false] at this
                  rw [this, HAv.out, HBv.out, decide_eq_true hkj, decide_eq_true (Nat.lt_succ_self j)]
                  simp
                · rw [if_neg h1]
                  unfold thenS
                  by_cases h2 : x < i
                  · rw [if_pos h2, if_pos h2]
                  rw [if_neg h2, if_neg h2]
                  by_cases h3 : x = i
                  · rw [if_pos h3, if_pos h3, show decide (y < j + 1) = decide (y < j) from decide_eq_decide.2 (by omega)]
                  · rw [if_neg h3, if_neg h3]
              case false =>
                go_wp2_with (fail)
                have hT4 := hT.drew
                have hB4 := (hB.grown hbr).drew
                have hT5 := (hT.set (j := j) hin B).drew
                have hB5 := ((hB.grown hbr).other (b := w.heap.size + 1 + i) (j := j) (by omega) (.bool B)).drew
                refine wp_region_held_drew (S := fun w' => (w'.cell? ⟨w.heap.size, i, none⟩ = some (.slice (some ⟨w.heap.size + 1 + i, 0, none⟩) (n + 1) (n + 1)) ∧ w'.cell? ⟨gb, k, none⟩ = some (.slice (some ⟨gb + 1 + k, 0, none⟩) (n + 1) (n + 1)) ∧ w'.cell? ⟨gb + 1 + k, j, none⟩ = some (.bool B))) (by kernel_rfl) ?_ (fun hHeld => ?_)
                · exact ⟨hT4.outAt hin, hB4.outAt hkn, by rw [hB4.rowAt hkn hjn, HBv.out]⟩
                refine wpAnyH_take (i := 0) (v := ?_) (vatL vatZ) (by kernel_rfl) (by kernel_rfl) (by kernel_rfl) (fun _ _ _ h => h) (Or.inl ⟨by rfl, ?_⟩) (by assumption) ?_
                rotate_left
                · intro w hSw
                  try dsimp only at hSw
                  go_simp
                  all_goals with_reducible rfl
                try simp only [Act.put, List.setIfInBounds_toArray, List.set_cons_zero, List.set_cons_succ]
                refine wpAnyH_take (i := 1) (v := ?_) (vatL (vatS vatZ)) (by kernel_rfl) (by kernel_rfl) (by kernel_rfl) (fun _ _ _ h => h) (Or.inl ⟨by rfl, ?_⟩) (by assumption) ?_
                rotate_left
                · intro w hSw
                  try dsimp only at hSw
                  go_simp
                  all_goals with_reducible rfl
                try simp only [Act.put, List.setIfInBounds_toArray, List.set_cons_zero, List.set_cons_succ]
                refine wpAnyH_take (i := 2) (v := ?_) (vatL (vatS (vatS vatZ))) (by kernel_rfl) (by kernel_rfl) (by kernel_rfl) (fun _ _ _ h => h) (Or.inl ⟨by rfl, ?_⟩) (by assumption) ?_
                rotate_left
                · intro w hSw
                  try dsimp only at hSw
                  go_simp
                  all_goals with_reducible rfl
                try simp only [Act.put, List.setIfInBounds_toArray, List.set_cons_zero, List.set_cons_succ]
                refine wpAnyH_take (i := 3) (v := ?_) (vatL (vatS (vatS (vatS vatZ)))) (by kernel_rfl) (by kernel_rfl) (by kernel_rfl) (fun _ _ _ h => h) (Or.inl ⟨by rfl, ?_⟩) (by assumption) ?_
                rotate_left
                · intro w hSw
                  try dsimp only at hSw
                  go_simp
                  all_goals with_reducible rfl
                try simp only [Act.put, List.setIfInBounds_toArray, List.set_cons_zero, List.set_cons_succ]
                refine wpAnyH_take (i := 4) (v := ?_) (vatL (vatS (vatS (vatS (vatS vatZ))))) (by kernel_rfl) (by kernel_rfl) (by kernel_rfl) (fun _ _ _ h => h) (Or.inl ⟨by rfl, ?_⟩) (by assumption) ?_
                rotate_left
                · intro w hSw
                  try dsimp only at hSw
                  go_simp
                  all_goals with_reducible rfl
                try simp only [Act.put, List.setIfInBounds_toArray, List.set_cons_zero, List.set_cons_succ]
                refine wpAnyH_take (i := 5) (v := ?_) (vatL (vatS (vatS (vatS (vatS (vatS vatZ)))))) (by kernel_rfl) (by kernel_rfl) (by kernel_rfl) (fun _ _ _ h => h) (Or.inl ⟨by rfl, ?_⟩) (by assumption) ?_
                rotate_left
                · intro w hSw
                  try dsimp only at hSw
                  go_simp
                  all_goals with_reducible rfl
                try simp only [Act.put, List.setIfInBounds_toArray, List.set_cons_zero, List.set_cons_succ]
                refine wpAnyH_take (i := 6) (v := ?_) (vatL (vatS (vatS (vatS (vatS (vatS (vatS vatZ))))))) (by kernel_rfl) (by kernel_rfl) (by kernel_rfl) (fun _ _ _ h => h) (Or.inl ⟨by rfl, ?_⟩) (by assumption) ?_
                rotate_left
                · intro w hSw
                  try dsimp only at hSw
                  go_simp
                  all_goals with_reducible rfl
                try simp only [Act.put, List.setIfInBounds_toArray, List.set_cons_zero, List.set_cons_succ]
                refine wpAnyH_take (i := 7) (v := ?_) (vatL (vatS (vatS (vatS (vatS (vatS (vatS (vatS vatZ)))))))) (by kernel_rfl) (by kernel_rfl) (by kernel_rfl) (fun _ _ _ h => h) (Or.inl ⟨by rfl, ?_⟩) (by assumption) ?_
                rotate_left
                · intro w hSw
                  try dsimp only at hSw
                  go_simp
                  all_goals with_reducible rfl
                try simp only [Act.put, List.setIfInBounds_toArray, List.set_cons_zero, List.set_cons_succ]
                refine wpAnyH_take (i := 8) (v := ?_) (vatL (vatS (vatS (vatS (vatS (vatS (vatS (vatS (vatS vatZ))))))))) (by kernel_rfl) (by kernel_rfl) (by kernel_rfl) (fun _ _ _ h => h) (Or.inl ⟨by rfl, ?_⟩) (by assumption) ?_
                rotate_left
                · intro w hSw
                  try dsimp only at hSw
                  go_simp
                  all_goals with_reducible rfl
                try simp only [Act.put, List.setIfInBounds_toArray, List.set_cons_zero, List.set_cons_succ]
                refine wpAnyH_take (i := 9) (v := ?_) (vatL (vatS (vatS (vatS (vatS (vatS (vatS (vatS (vatS (vatS vatZ)))))))))) (by kernel_rfl) (by kernel_rfl) (by kernel_rfl) (fun _ _ _ h => h) (Or.inl ⟨by rfl, ?_⟩) (by assumption) ?_
                rotate_left
                · intro w hSw
                  try dsimp only at hSw
                  go_simp
                  all_goals with_reducible rfl
                try simp only [Act.put, List.setIfInBounds_toArray, List.set_cons_zero, List.set_cons_succ]
                refine wpAnyH_take (i := 10) (v := ?_) (vatL (vatS (vatS (vatS (vatS (vatS (vatS (vatS (vatS (vatS (vatS vatZ))))))))))) (by kernel_rfl) (by kernel_rfl) (by kernel_rfl) (fun _ _ _ h => h) (Or.inl ⟨by rfl, ?_⟩) (by assumption) ?_
                rotate_left
                · intro w hSw
                  try dsimp only at hSw
                  go_simp
                  all_goals with_reducible rfl
                try simp only [Act.put, List.setIfInBounds_toArray, List.set_cons_zero, List.set_cons_succ]
                refine wpAnyH_ready (rs := [11]) (by kernel_rfl) (by simp) ?_
                refine AllReadyH.cons (vatL (vatS (vatS (vatS (vatS (vatS (vatS (vatS (vatS (vatS (vatS (vatS vatZ)))))))))))) (fun K hK => ?_) AllReadyH.nil
                go_simp
                refine hK.out _ _ ?_ (fun hHeld => ?_)
                · exact ⟨hT4.outAt hin, hB4.outAt hkn, by rw [hB4.rowAt hkn hjn, HBv.out]⟩
                clear hK K
                try simp only [Act.put, List.setIfInBounds_toArray, List.set_cons_zero, List.set_cons_succ]
                refine wpAnyH_take (i := 12) (v := ?_) (vatL (vatS (vatS (vatS (vatS (vatS (vatS (vatS (vatS (vatS (vatS (vatS (vatS vatZ))))))))))))) (by kernel_rfl) (by kernel_rfl) (by kernel_rfl) (fun _ _ _ h => h) (Or.inl ⟨by rfl, ?_⟩) (by assumption) ?_
                rotate_left
                · intro w hSw
                  try dsimp only at hSw
                  go_simp
                  all_goals with_reducible rfl
                try simp only [Act.put, List.setIfInBounds_toArray, List.set_cons_zero, List.set_cons_succ]
                refine wpAnyH_take (i := 13) (v := ?_) (vatL (vatS (vatS (vatS (vatS (vatS (vatS (vatS (vatS (vatS (vatS (vatS (vatS (vatS vatZ)))))))))))))) (by kernel_rfl) (by kernel_rfl) (by kernel_rfl) (fun _ _ _ h => h) (Or.inl ⟨by rfl, ?_⟩) (by assumption) ?_
                rotate_left
                · intro w hSw
                  try dsimp only at hSw
                  go_simp
                  all_goals with_reducible rfl
                try simp only [Act.put, List.setIfInBounds_toArray, List.set_cons_zero, List.set_cons_succ]
                refine wpAnyH_take (i := 14) (v := ?_) (vatL (vatS (vatS (vatS (vatS (vatS (vatS (vatS (vatS (vatS (vatS (vatS (vatS (vatS (vatS vatZ))))))))))))))) (by kernel_rfl) (by kernel_rfl) (by kernel_rfl) (fun _ _ _ h => h) (Or.inl ⟨by rfl, ?_⟩) (by assumption) ?_
                rotate_left
                · intro w hSw
                  try dsimp only at hSw
                  go_simp
                  all_goals with_reducible rfl
                try simp only [Act.put, List.setIfInBounds_toArray, List.set_cons_zero, List.set_cons_succ]
                refine wpAnyH_take (i := 15) (v := ?_) (vatL (vatS (vatS (vatS (vatS (vatS (vatS (vatS (vatS (vatS (vatS (vatS (vatS (vatS (vatS (vatS vatZ)))))))))))))))) (by kernel_rfl) (by kernel_rfl) (by kernel_rfl) (fun _ _ _ h => h) (Or.inl ⟨by rfl, ?_⟩) (by assumption) ?_
                rotate_left
                · intro w hSw
                  try dsimp only at hSw
                  go_simp
                  all_goals with_reducible rfl
                try simp only [Act.put, List.setIfInBounds_toArray, List.set_cons_zero, List.set_cons_succ]
                refine wpAnyH_take (i := 16) (v := ?_) (vatL (vatS (vatS (vatS (vatS (vatS (vatS (vatS (vatS (vatS (vatS (vatS (vatS (vatS (vatS (vatS (vatS vatZ))))))))))))))))) (by kernel_rfl) (by kernel_rfl) (by kernel_rfl) (fun _ _ _ h => h) (Or.inl ⟨by rfl, ?_⟩) (by assumption) ?_
                rotate_left
                · intro w hSw
                  try dsimp only at hSw
                  go_simp
                  all_goals with_reducible rfl
                try simp only [Act.put, List.setIfInBounds_toArray, List.set_cons_zero, List.set_cons_succ]
                refine wpAnyH_take (i := 17) (v := ?_) (vatL (vatS (vatS (vatS (vatS (vatS (vatS (vatS (vatS (vatS (vatS (vatS (vatS (vatS (vatS (vatS (vatS (vatS vatZ)))))))))))))))))) (by kernel_rfl) (by kernel_rfl) (by kernel_rfl) (fun _ _ _ h => h) (Or.inl ⟨by rfl, ?_⟩) (by assumption) ?_
                rotate_left
                · intro w hSw
                  try dsimp only at hSw
                  go_simp
                  all_goals with_reducible rfl
                try simp only [Act.put, List.setIfInBounds_toArray, List.set_cons_zero, List.set_cons_succ]
                refine wpAnyH_take (i := 18) (v := ?_) (vatL (vatS (vatS (vatS (vatS (vatS (vatS (vatS (vatS (vatS (vatS (vatS (vatS (vatS (vatS (vatS (vatS (vatS (vatS vatZ))))))))))))))))))) (by kernel_rfl) (by kernel_rfl) (by kernel_rfl) (fun _ _ _ h => h) (Or.inl ⟨by rfl, ?_⟩) (by assumption) ?_
                rotate_left
                · intro w hSw
                  try dsimp only at hSw
                  go_simp
                  all_goals with_reducible rfl
                try simp only [Act.put, List.setIfInBounds_toArray, List.set_cons_zero, List.set_cons_succ]
                refine wpAnyH_take (i := 19) (v := ?_) (vatL (vatS (vatS (vatS (vatS (vatS (vatS (vatS (vatS (vatS (vatS (vatS (vatS (vatS (vatS (vatS (vatS (vatS (vatS (vatS vatZ)))))))))))))))))))) (by kernel_rfl) (by kernel_rfl) (by kernel_rfl) (fun _ _ _ h => h) (Or.inl ⟨by rfl, ?_⟩) (by assumption) ?_
                rotate_left
                · intro w hSw
                  try dsimp only at hSw
                  go_simp
                  all_goals with_reducible rfl
                try simp only [Act.put, List.setIfInBounds_toArray, List.set_cons_zero, List.set_cons_succ]
                refine wpAnyH_take (i := 20) (v := ?_) (vatL (vatS (vatS (vatS (vatS (vatS (vatS (vatS (vatS (vatS (vatS (vatS (vatS (vatS (vatS (vatS (vatS (vatS (vatS (vatS (vatS vatZ))))))))))))))))))))) (by kernel_rfl) (by kernel_rfl) (by kernel_rfl) (fun _ _ _ h => h) (Or.inl ⟨by rfl, ?_⟩) (by assumption) ?_
                rotate_left
                · intro w hSw
                  try dsimp only at hSw
                  go_simp
                  all_goals with_reducible rfl
                try simp only [Act.put, List.setIfInBounds_toArray, List.set_cons_zero, List.set_cons_succ]
                refine wpAnyH_take (i := 21) (v := ?_) (vatL (vatS (vatS (vatS (vatS (vatS (vatS (vatS (vatS (vatS (vatS (vatS (vatS (vatS (vatS (vatS (vatS (vatS (vatS (vatS (vatS (vatS vatZ)))))))))))))))))))))) (by kernel_rfl) (by kernel_rfl) (by kernel_rfl) (fun _ _ _ h => h) (Or.inl ⟨by rfl, ?_⟩) (by assumption) ?_
                rotate_left
                · intro w hSw
                  try dsimp only at hSw
                  go_simp
                  all_goals with_reducible rfl
                try simp only [Act.put, List.setIfInBounds_toArray, List.set_cons_zero, List.set_cons_succ]
                refine wpAnyH_ready (rs := [22]) (by kernel_rfl) (by simp) ?_
                refine AllReadyH.cons (vatL (vatS (vatS (vatS (vatS (vatS (vatS (vatS (vatS (vatS (vatS (vatS (vatS (vatS (vatS (vatS (vatS (vatS (vatS (vatS (vatS (vatS (vatS vatZ))))))))))))))))))))))) (fun K hK => ?_) AllReadyH.nil
                go_simp
                refine hK.out _ _ ?_ (fun hHeld => ?_)
                · exact ⟨hT5.outAt hin, hB5.outAt hkn, by rw [hB5.rowAt hkn hjn, HBv.out]⟩
                clear hK K
                try simp only [Act.put, List.setIfInBounds_toArray, List.set_cons_zero, List.set_cons_succ]
                refine wpAnyH_done (by kernel_rfl) ?_ _
                go_wp2_with (fail)
                refine ⟨⟨j + 1, by omega, by omega, by simp, hT5.congr (fun x y hx hy => ?_), (hbr.setCell (p := ⟨w.heap.size + 1 + i, j, none⟩) (by show w.heap.size ≤ w.heap.size + 1 + i; omega) _).drew⟩, by simp [intOf]; omega⟩
                unfold upd
                by_cases h1 : x = i ∧ y = j
                · rw [if_pos h1, h1.1, h1.2]
                  have := HOv.out
                  unfold thenS at this ⊢
                  rw [if_neg (Nat.lt_irrefl i), if_pos rfl] at this ⊢
                  rw [decide_eq_false (Nat.lt_irrefl j), Bool.and_false, Bool.false_and, Bool.false_and, Bool.or_false] at this
                  rw [this, HAv.out, HBv.out, decide_eq_true hkj, decide_eq_true (Nat.lt_succ_self j)]
                  simp
                · rw [if_neg h1]
                  unfold thenS
                  by_cases h2 : x < i
                  · rw [if_pos h2, if_pos h2]
                  rw [if_neg h2, if_neg h2]
                  by_cases h3 : x = i
                  · rw [if_pos h3, if_pos h3, show decide (y < j + 1) = decide (y < j) from decide_eq_decide.2 (by omega)]
                  · rw [if_neg h3, if_neg h3]
            · obtain rfl : j = n + 1 := by omega
              have hjI : ¬ ((n + 1 : Nat) : Int) < (n : Int) + 1 := by omega
              go_wp2_with (fail)
              exact ⟨⟨k + 1, by omega, by omega, by simp, hT.congr (fun x y _ hy => thenS_next hik (.inr (Nat.lt_succ_self n)) hy), hbr⟩, by simp [intOf]; omega⟩
        · obtain rfl : k = n + 1 := by omega
          have hkI : ¬ ((n + 1 : Nat) : Int) < (n : Int) + 1 := by omega
          go_wp2_with (fail)
          exact ⟨⟨i + 1, by omega, by simp, hT.congr (fun x y hx _ => thenS_row hx), hbr⟩, by simp [intOf]; omega⟩
    · obtain rfl : i = n + 1 := by omega
      have hiI : ¬ ((n + 1 : Nat) : Int) < (n : Int) + 1 := by omega
      go_wp2_with (fail)
      exact bodyPost_ret (v := tabV n w.heap.size) (by simp [results, Try.results67, go_sem]; try rfl) rfl ⟨rfl, hT.congr (fun x y hx hy => by unfold thenS; rw [if_pos (by omega)]; rfl), hbr⟩
end Go.Proofs.Ytngbfjimmdkfeaa

