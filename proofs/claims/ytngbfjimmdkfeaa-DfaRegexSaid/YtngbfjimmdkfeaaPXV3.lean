/- Texts joined: Vd. -/
import Derived.Test.YtngbfjimmdkfeaaPXV2
set_option linter.unusedVariables false
set_option linter.unusedSimpArgs false
namespace Go.Proofs.Ytngbfjimmdkfeaa
open Go.RowKit Go.Shelf

attribute [local go_sem] Oper.semAt_some

/-- What is so over places below K. -/
def wS (a : Nat → Nat → Bool) : Nat → Nat → Nat → Bool
  | 0 => orT a (fun i j => decide (i = j))
  | K + 1 => fun i j => wS a K i j || (wS a K i K && wS a K K j)
def oftenT (n : Nat) (a : Nat → Nat → Bool) : Nat → Nat → Bool := wS a (n + 1)
/-- On the way: what lies ahead of (i0, j0) is of the next round. -/
def wM (a : Nat → Nat → Bool) (k i0 j0 : Nat) : Nat → Nat → Bool := fun i j => if i < i0 ∨ (i = i0 ∧ j < j0) then wS a (k + 1) i j else wS a k i j
theorem wM_col (a : Nat → Nat → Bool) (k i0 j0 i : Nat) : wM a k i0 j0 i k = wS a k i k := by
  unfold wM
  split
  · show (wS a k i k || (wS a k i k && wS a k k k)) = _
    cases wS a k i k <;> simp
  · rfl
theorem wM_row (a : Nat → Nat → Bool) (k i0 j0 j : Nat) : wM a k i0 j0 k j = wS a k k j := by
  unfold wM
  split
  · show (wS a k k j || (wS a k k k && wS a k k j)) = _
    cases wS a k k j <;> simp
  · rfl

set_option maxRecDepth 100000 in
set_option maxHeartbeats 1000000 in
theorem often_any (n ga : Nat) (fa : Nat → Nat → Bool) (hn : n ≤ 100) (w : World) (hA : Tab w n ga fa) :
    Calls Try.prog 69 #[tabV n ga] w fun e w' => (∃ g, w.heap.size ≤ g ∧ e = .returned (tabV n g) ∧ Tab w' n g (oftenT n fa)) ∧ Below w.heap.size w w' := by
  have hnI : (n : Int) ≤ 100 := by omega
  have hnI0 : (0 : Int) ≤ (n : Int) := by omega
  go_enter Try.func69, Try.ntmps69
  go_wp2_with (fail)
  refine (none_any n hn w).mono ?_
  rintro e w2 ⟨rfl, hN2, hb2⟩
  go_wp2_with (fail)
  refine (or_any n ga w.heap.size fa _ hn w2 (hA.grown hb2) hN2).mono ?_
  rintro e w3 ⟨rfl, hT3, hb3⟩
  obtain ⟨g, hg⟩ : ∃ g, Hid (w2.heap.size = g) := ⟨_, Lib.hid rfl⟩
  have hgw : w.heap.size ≤ g := by rw [← hg.out]; exact hb2.size
  have hb03 := hb2.trans (hb3.mono hb2.size)
  rw [hg.out] at hT3 ⊢
  have hI : ∃ k : Nat, k ≤ n + 1 ∧ Value.int .i64 0 = .int .i64 (k : Int) ∧ Tab w3 n g (wS fa k) ∧ Below w.heap.size w w3 := ⟨0, by omega, rfl, hT3, hb03⟩
  clear hT3 hb3 hN2 hb2 hb03
  go_wp2_with (fail)
  go_loopw [15] (fun kv wr => ∃ k : Nat, k ≤ n + 1 ∧ kv = .int .i64 (k : Int) ∧ Tab wr n g (wS fa k) ∧ Below w.heap.size w wr) (fun kv _ => n + 1 - (intOf kv).toNat)
  case atStart => exact hI
  case round =>
    obtain ⟨k, hk, rfl, hT, hbr⟩ := hrel
    clear hI
    by_cases hkt : k < n + 1
    · have hkI : (k : Int) < (n : Int) + 1 := by omega
      have hkI0 : (0 : Int) ≤ (k : Int) := by omega
      have hkn : k ≤ n := by omega
      have hJ : ∃ i : Nat, i ≤ n + 1 ∧ Value.int .i64 0 = .int .i64 (i : Int) ∧ Tab wr n g (wM fa k i 0) ∧ Below w.heap.size w wr := ⟨0, by omega, rfl, hT.congr (fun x y _ _ => by unfold wM; rw [if_neg (by omega)]), hbr⟩
      clear hT hbr
      go_wp2_with (fail)
      go_loopw [20] (fun iv wx => ∃ i : Nat, i ≤ n + 1 ∧ iv = .int .i64 (i : Int) ∧ Tab wx n g (wM fa k i 0) ∧ Below w.heap.size w wx) (fun iv _ => n + 1 - (intOf iv).toNat)
      case atStart => exact hJ
      case round =>
        obtain ⟨i, hi, rfl, hT, hbr⟩ := hrel
        clear hJ
        by_cases hit : i < n + 1
        · have hiI : (i : Int) < (n : Int) + 1 := by omega
          have hiI0 : (0 : Int) ≤ (i : Int) := by omega
          have hin : i ≤ n := by omega
          have hL : ∃ j : Nat, j ≤ n + 1 ∧ Value.int .i64 0 = .int .i64 (j : Int) ∧ Tab wr n g (wM fa k i j) ∧ Below w.heap.size w wr := ⟨0, by omega, rfl, hT, hbr⟩
          clear hT hbr
          go_wp2_with (fail)
          go_loopw [25] (fun jv wx => ∃ j : Nat, j ≤ n + 1 ∧ jv = .int .i64 (j : Int) ∧ Tab wx n g (wM fa k i j) ∧ Below w.heap.size w wx) (fun jv _ => n + 1 - (intOf jv).toNat)
          case atStart => exact hL
          case round =>
            obtain ⟨j, hj, rfl, hT, hbr⟩ := hrel
            clear hL
            by_cases hjt : j < n + 1
            · have hjI : (j : Int) < (n : Int) + 1 := by omega
              have hjI0 : (0 : Int) ≤ (j : Int) := by omega
              have hjn : j ≤ n := by omega
              obtain ⟨O, HOv⟩ : ∃ b, Hid (wS fa k i j = b) := ⟨_, Lib.hid rfl⟩
              obtain ⟨P, HPv⟩ : ∃ b, Hid (wS fa k i k = b) := ⟨_, Lib.hid rfl⟩
              obtain ⟨Q, HQv⟩ : ∃ b, Hid (wS fa k k j = b) := ⟨_, Lib.hid rfl⟩
              have f5 := (hT.drew.row i hin).frozen j
              have l5 := (hT.drew.row i hin).lt
              have c5 := hT.drew.rowAt hin hjn
              have p5 := hT.drew.rowAt hin hkn
              have q5 := hT.drew.rowAt hkn hjn
              rw [show wM fa k i j i j = O from by unfold wM; rw [if_neg (by omega)]; exact HOv.out] at c5
              rw [wM_col, HPv.out] at p5
              rw [wM_row, HQv.out] at q5
              cases O
              case true =>
                go_wp2_with (fail)
                have hT4 := hT.drew
                have hT5 := (hT.set (j := j) hin true).drew
                refine wp_region_held_drew (S := fun w' => (w'.cell? ⟨g, i, none⟩ = some (.slice (some ⟨g + 1 + i, 0, none⟩) (n + 1) (n + 1)) ∧ w'.cell? ⟨g, k, none⟩ = some (.slice (some ⟨g + 1 + k, 0, none⟩) (n + 1) (n + 1)))) (by kernel_rfl) ?_ (fun hHeld => ?_)
                · exact ⟨hT4.outAt hin, hT4.outAt hkn⟩
                refine wpAnyH_take (i := 0) (v := ?_) (vatL vatZ) (by kernel_rfl) (by kernel_rfl) (by kernel_rfl) (fun _ _ _ h => h) (Or.inl ⟨by rfl, ?_⟩) (by assumption) ?_
                rotate_left
                · intro w hSw
                  try dsimp only at hSw
                  go_simp
                  all_goals with_reducible rfl
                try simp only [Act.put, List.setIfInBounds_toArray, List.set_cons_zero, List.set_cons_succ]
                refine wpAnyH_take (i := 1) (v := ?_) (vatL (vatS vatZ)) (by kernel_rfl) (by kernel_rfl) (by kernel_rfl) (fun _ _ _ h => h) (Or.inl ⟨by rfl, ?_⟩) (by assumption) ?_
                rotate_left
                · intro w hSw
                  try dsimp only at hSw
                  go_simp
                  all_goals with_reducible rfl
                try simp only [Act.put, List.setIfInBounds_toArray, List.set_cons_zero, List.set_cons_succ]
                refine wpAnyH_take (i := 2) (v := ?_) (vatL (vatS (vatS vatZ))) (by kernel_rfl) (by kernel_rfl) (by kernel_rfl) (fun _ _ _ h => h) (Or.inl ⟨by rfl, ?_⟩) (by assumption) ?_
                rotate_left
                · intro w hSw
                  try dsimp only at hSw
                  go_simp
                  all_goals with_reducible rfl
                try simp only [Act.put, List.setIfInBounds_toArray, List.set_cons_zero, List.set_cons_succ]
                refine wpAnyH_take (i := 3) (v := ?_) (vatL (vatS (vatS (vatS vatZ)))) (by kernel_rfl) (by kernel_rfl) (by kernel_rfl) (fun _ _ _ h => h) (Or.inl ⟨by rfl, ?_⟩) (by assumption) ?_
                rotate_left
                · intro w hSw
                  try dsimp only at hSw
                  go_simp
                  all_goals with_reducible rfl
                try simp only [Act.put, List.setIfInBounds_toArray, List.set_cons_zero, List.set_cons_succ]
                refine wpAnyH_take (i := 4) (v := ?_) (vatL (vatS (vatS (vatS (vatS vatZ))))) (by kernel_rfl) (by kernel_rfl) (by kernel_rfl) (fun _ _ _ h => h) (Or.inl ⟨by rfl, ?_⟩) (by assumption) ?_
                rotate_left
                · intro w hSw
                  try dsimp only at hSw
                  go_simp
                  all_goals with_reducible rfl
                try simp only [Act.put, List.setIfInBounds_toArray, List.set_cons_zero, List.set_cons_succ]
                refine wpAnyH_take (i := 5) (v := ?_) (vatL (vatS (vatS (vatS (vatS (vatS vatZ)))))) (by kernel_rfl) (by kernel_rfl) (by kernel_rfl) (fun _ _ _ h => h) (Or.inl ⟨by rfl, ?_⟩) (by assumption) ?_
                rotate_left
                · intro w hSw
                  try dsimp only at hSw
                  go_simp
                  all_goals with_reducible rfl
                try simp only [Act.put, List.setIfInBounds_toArray, List.set_cons_zero, List.set_cons_succ]
                refine wpAnyH_take (i := 6) (v := ?_) (vatL (vatS (vatS (vatS (vatS (vatS (vatS vatZ))))))) (by kernel_rfl) (by kernel_rfl) (by kernel_rfl) (fun _ _ _ h => h) (Or.inl ⟨by rfl, ?_⟩) (by assumption) ?_
                rotate_left
                · intro w hSw
                  try dsimp only at hSw
                  go_simp
                  all_goals with_reducible rfl
                try simp only [Act.put, List.setIfInBounds_toArray, List.set_cons_zero, List.set_cons_succ]
                refine wpAnyH_take (i := 7) (v := ?_) (vatL (vatS (vatS (vatS (vatS (vatS (vatS (vatS vatZ)))))))) (by kernel_rfl) (by kernel_rfl) (by kernel_rfl) (fun _ _ _ h => h) (Or.inl ⟨by rfl, ?_⟩) (by assumption) ?_
                rotate_left
                · intro w hSw
                  try dsimp only at hSw
                  go_simp
                  all_goals with_reducible rfl
                try simp only [Act.put, List.setIfInBounds_toArray, List.set_cons_zero, List.set_cons_succ]
                refine wpAnyH_take (i := 8) (v := ?_) (vatL (vatS (vatS (vatS (vatS (vatS (vatS (vatS (vatS vatZ))))))))) (by kernel_rfl) (by kernel_rfl) (by kernel_rfl) (fun _ _ _ h => h) (Or.inl ⟨by rfl, ?_⟩) (by assumption) ?_
                rotate_left
                · intro w hSw
                  try dsimp only at hSw
                  go_simp
                  all_goals with_reducible rfl
                try simp only [Act.put, List.setIfInBounds_toArray, List.set_cons_zero, List.set_cons_succ]
                refine wpAnyH_take (i := 9) (v := ?_) (vatL (vatS (vatS (vatS (vatS (vatS (vatS (vatS (vatS (vatS vatZ)))))))))) (by kernel_rfl) (by kernel_rfl) (by kernel_rfl) (fun _ _ _ h => h) (Or.inl ⟨by rfl, ?_⟩) (by assumption) ?_
                rotate_left
                · intro w hSw
                  try dsimp only at hSw
                  go_simp
                  all_goals with_reducible rfl
                try simp only [Act.put, List.setIfInBounds_toArray, List.set_cons_zero, List.set_cons_succ]
                refine wpAnyH_take (i := 10) (v := ?_) (vatL (vatS (vatS (vatS (vatS (vatS (vatS (vatS (vatS (vatS (vatS vatZ))))))))))) (by kernel_rfl) (by kernel_rfl) (by kernel_rfl) (fun _ _ _ h => h) (Or.inl ⟨by rfl, ?_⟩) (by assumption) ?_
                rotate_left
                · intro w hSw
                  try dsimp only at hSw
                  go_simp
                  all_goals with_reducible rfl
                try simp only [Act.put, List.setIfInBounds_toArray, List.set_cons_zero, List.set_cons_succ]
                refine wpAnyH_ready (rs := [11]) (by kernel_rfl) (by simp) ?_
                refine AllReadyH.cons (vatL (vatS (vatS (vatS (vatS (vatS (vatS (vatS (vatS (vatS (vatS (vatS vatZ)))))))))))) (fun K hK => ?_) AllReadyH.nil
                go_simp
                refine hK.out _ _ ?_ (fun hHeld => ?_)
                · exact ⟨hT4.outAt hin, hT4.outAt hkn⟩
                clear hK K
                try simp only [Act.put, List.setIfInBounds_toArray, List.set_cons_zero, List.set_cons_succ]
                refine wpAnyH_take (i := 12) (v := ?_) (vatL (vatS (vatS (vatS (vatS (vatS (vatS (vatS (vatS (vatS (vatS (vatS (vatS vatZ))))))))))))) (by kernel_rfl) (by kernel_rfl) (by kernel_rfl) (fun _ _ _ h => h) (Or.inl ⟨by rfl, ?_⟩) (by assumption) ?_
                rotate_left
                · intro w hSw
                  try dsimp only at hSw
                  go_simp
                  all_goals with_reducible rfl
                try simp only [Act.put, List.setIfInBounds_toArray, List.set_cons_zero, List.set_cons_succ]
                refine wpAnyH_take (i := 13) (v := undef) (vatL (vatS (vatS (vatS (vatS (vatS (vatS (vatS (vatS (vatS (vatS (vatS (vatS (vatS vatZ)))))))))))))) (by kernel_rfl) (by kernel_rfl) (by kernel_rfl) (fun _ _ _ h => h) (Or.inr ⟨by rfl, rfl⟩) (by assumption) ?_
                try simp only [Act.put, List.setIfInBounds_toArray, List.set_cons_zero, List.set_cons_succ]
                refine wpAnyH_take (i := 14) (v := undef) (vatL (vatS (vatS (vatS (vatS (vatS (vatS (vatS (vatS (vatS (vatS (vatS (vatS (vatS (vatS vatZ))))))))))))))) (by kernel_rfl) (by kernel_rfl) (by kernel_rfl) (fun _ _ _ h => h) (Or.inr ⟨by rfl, rfl⟩) (by assumption) ?_
                try simp only [Act.put, List.setIfInBounds_toArray, List.set_cons_zero, List.set_cons_succ]
                refine wpAnyH_take (i := 15) (v := undef) (vatL (vatS (vatS (vatS (vatS (vatS (vatS (vatS (vatS (vatS (vatS (vatS (vatS (vatS (vatS (vatS vatZ)))))))))))))))) (by kernel_rfl) (by kernel_rfl) (by kernel_rfl) (fun _ _ _ h => h) (Or.inr ⟨by rfl, rfl⟩) (by assumption) ?_
                try simp only [Act.put, List.setIfInBounds_toArray, List.set_cons_zero, List.set_cons_succ]
                refine wpAnyH_take (i := 16) (v := undef) (vatL (vatS (vatS (vatS (vatS (vatS (vatS (vatS (vatS (vatS (vatS (vatS (vatS (vatS (vatS (vatS (vatS vatZ))))))))))))))))) (by kernel_rfl) (by kernel_rfl) (by kernel_rfl) (fun _ _ _ h => h) (Or.inr ⟨by rfl, rfl⟩) (by assumption) ?_
                try simp only [Act.put, List.setIfInBounds_toArray, List.set_cons_zero, List.set_cons_succ]
                refine wpAnyH_take (i := 17) (v := undef) (vatL (vatS (vatS (vatS (vatS (vatS (vatS (vatS (vatS (vatS (vatS (vatS (vatS (vatS (vatS (vatS (vatS (vatS vatZ)))))))))))))))))) (by kernel_rfl) (by kernel_rfl) (by kernel_rfl) (fun _ _ _ h => h) (Or.inr ⟨by rfl, rfl⟩) (by assumption) ?_
                try simp only [Act.put, List.setIfInBounds_toArray, List.set_cons_zero, List.set_cons_succ]
                refine wpAnyH_take (i := 18) (v := undef) (vatL (vatS (vatS (vatS (vatS (vatS (vatS (vatS (vatS (vatS (vatS (vatS (vatS (vatS (vatS (vatS (vatS (vatS (vatS vatZ))))))))))))))))))) (by kernel_rfl) (by kernel_rfl) (by kernel_rfl) (fun _ _ _ h => h) (Or.inr ⟨by rfl, rfl⟩) (by assumption) ?_
                try simp only [Act.put, List.setIfInBounds_toArray, List.set_cons_zero, List.set_cons_succ]
                refine wpAnyH_take (i := 19) (v := undef) (vatL (vatS (vatS (vatS (vatS (vatS (vatS (vatS (vatS (vatS (vatS (vatS (vatS (vatS (vatS (vatS (vatS (vatS (vatS (vatS vatZ)))))))))))))))))))) (by kernel_rfl) (by kernel_rfl) (by kernel_rfl) (fun _ _ _ h => h) (Or.inr ⟨by rfl, rfl⟩) (by assumption) ?_
                try simp only [Act.put, List.setIfInBounds_toArray, List.set_cons_zero, List.set_cons_succ]
                refine wpAnyH_take (i := 20) (v := undef) (vatL (vatS (vatS (vatS (vatS (vatS (vatS (vatS (vatS (vatS (vatS (vatS (vatS (vatS (vatS (vatS (vatS (vatS (vatS (vatS (vatS vatZ))))))))))))))))))))) (by kernel_rfl) (by kernel_rfl) (by kernel_rfl) (fun _ _ _ h => h) (Or.inr ⟨by rfl, rfl⟩) (by assumption) ?_
                try simp only [Act.put, List.setIfInBounds_toArray, List.set_cons_zero, List.set_cons_succ]
                refine wpAnyH_take (i := 21) (v := undef) (vatL (vatS (vatS (vatS (vatS (vatS (vatS (vatS (vatS (vatS (vatS (vatS (vatS (vatS (vatS (vatS (vatS (vatS (vatS (vatS (vatS (vatS vatZ)))))))))))))))))))))) (by kernel_rfl) (by kernel_rfl) (by kernel_rfl) (fun _ _ _ h => h) (Or.inr ⟨by rfl, rfl⟩) (by assumption) ?_
                try simp only [Act.put, List.setIfInBounds_toArray, List.set_cons_zero, List.set_cons_succ]
                refine wpAnyH_take (i := 22) (v := undef) (vatL (vatS (vatS (vatS (vatS (vatS (vatS (vatS (vatS (vatS (vatS (vatS (vatS (vatS (vatS (vatS (vatS (vatS (vatS (vatS (vatS (vatS (vatS vatZ))))))))))))))))))))))) (by kernel_rfl) (by kernel_rfl) (by kernel_rfl) (fun _ _ _ h => h) (Or.inr ⟨by rfl, rfl⟩) (by assumption) ?_
                try simp only [Act.put, List.setIfInBounds_toArray, List.set_cons_zero, List.set_cons_succ]
                refine wpAnyH_take (i := 23) (v := undef) (vatL (vatS (vatS (vatS (vatS (vatS (vatS (vatS (vatS (vatS (vatS (vatS (vatS (vatS (vatS (vatS (vatS (vatS (vatS (vatS (vatS (vatS (vatS (vatS vatZ)))))))))))))))))))))))) (by kernel_rfl) (by kernel_rfl) (by kernel_rfl) (fun _ _ _ h => h) (Or.inr ⟨by rfl, rfl⟩) (by assumption) ?_
                try simp only [Act.put, List.setIfInBounds_toArray, List.set_cons_zero, List.set_cons_succ]
                refine wpAnyH_take (i := 24) (v := undef) (vatL (vatS (vatS (vatS (vatS (vatS (vatS (vatS (vatS (vatS (vatS (vatS (vatS (vatS (vatS (vatS (vatS (vatS (vatS (vatS (vatS (vatS (vatS (vatS (vatS vatZ))))))))))))))))))))))))) (by kernel_rfl) (by kernel_rfl) (by kernel_rfl) (fun _ _ _ h => h) (Or.inr ⟨by rfl, rfl⟩) (by assumption) ?_
                try simp only [Act.put, List.setIfInBounds_toArray, List.set_cons_zero, List.set_cons_succ]
                refine wpAnyH_take (i := 25) (v := undef) (vatL (vatS (vatS (vatS (vatS (vatS (vatS (vatS (vatS (vatS (vatS (vatS (vatS (vatS (vatS (vatS (vatS (vatS (vatS (vatS (vatS (vatS (vatS (vatS (vatS (vatS vatZ)))))))))))))))))))))))))) (by kernel_rfl) (by kernel_rfl) (by kernel_rfl) (fun _ _ _ h => h) (Or.inr ⟨by rfl, rfl⟩) (by assumption) ?_
                try simp only [Act.put, List.setIfInBounds_toArray, List.set_cons_zero, List.set_cons_succ]
                refine wpAnyH_take (i := 26) (v := undef) (vatL (vatS (vatS (vatS (vatS (vatS (vatS (vatS (vatS (vatS (vatS (vatS (vatS (vatS (vatS (vatS (vatS (vatS (vatS (vatS (vatS (vatS (vatS (vatS (vatS (vatS (vatS vatZ))))))))))))))))))))))))))) (by kernel_rfl) (by kernel_rfl) (by kernel_rfl) (fun _ _ _ h => h) (Or.inr ⟨by rfl, rfl⟩) (by assumption) ?_
                try simp only [Act.put, List.setIfInBounds_toArray, List.set_cons_zero, List.set_cons_succ]
                refine wpAnyH_take (i := 27) (v := undef) (vatL (vatS (vatS (vatS (vatS (vatS (vatS (vatS (vatS (vatS (vatS (vatS (vatS (vatS (vatS (vatS (vatS (vatS (vatS (vatS (vatS (vatS (vatS (vatS (vatS (vatS (vatS (vatS vatZ)))))))))))))))))))))))))))) (by kernel_rfl) (by kernel_rfl) (by kernel_rfl) (fun _ _ _ h => h) (Or.inr ⟨by rfl, rfl⟩) (by assumption) ?_
                try simp only [Act.put, List.setIfInBounds_toArray, List.set_cons_zero, List.set_cons_succ]
                refine wpAnyH_take (i := 28) (v := undef) (vatL (vatS (vatS (vatS (vatS (vatS (vatS (vatS (vatS (vatS (vatS (vatS (vatS (vatS (vatS (vatS (vatS (vatS (vatS (vatS (vatS (vatS (vatS (vatS (vatS (vatS (vatS (vatS (vatS vatZ))))))))))))))))))))))))))))) (by kernel_rfl) (by kernel_rfl) (by kernel_rfl) (fun _ _ _ h => h) (Or.inr ⟨by rfl, rfl⟩) (by assumption) ?_
                try simp only [Act.put, List.setIfInBounds_toArray, List.set_cons_zero, List.set_cons_succ]
                refine wpAnyH_take (i := 29) (v := ?_) (vatL (vatS (vatS (vatS (vatS (vatS (vatS (vatS (vatS (vatS (vatS (vatS (vatS (vatS (vatS (vatS (vatS (vatS (vatS (vatS (vatS (vatS (vatS (vatS (vatS (vatS (vatS (vatS (vatS (vatS vatZ)))))))))))))))))))))))))))))) (by kernel_rfl) (by kernel_rfl) (by kernel_rfl) (fun _ _ _ h => h) (Or.inl ⟨by rfl, ?_⟩) (by assumption) ?_
                rotate_left
                · intro w hSw
                  try dsimp only at hSw
                  go_simp
                  all_goals with_reducible rfl
                try simp only [Act.put, List.setIfInBounds_toArray, List.set_cons_zero, List.set_cons_succ]
                refine wpAnyH_take (i := 30) (v := ?_) (vatL (vatS (vatS (vatS (vatS (vatS (vatS (vatS (vatS (vatS (vatS (vatS (vatS (vatS (vatS (vatS (vatS (vatS (vatS (vatS (vatS (vatS (vatS (vatS (vatS (vatS (vatS (vatS (vatS (vatS (vatS vatZ))))))))))))))))))))))))))))))) (by kernel_rfl) (by kernel_rfl) (by kernel_rfl) (fun _ _ _ h => h) (Or.inl ⟨by rfl, ?_⟩) (by assumption) ?_
                rotate_left
                · intro w hSw
                  try dsimp only at hSw
                  go_simp
                  all_goals with_reducible rfl
                try simp only [Act.put, List.setIfInBounds_toArray, List.set_cons_zero, List.set_cons_succ]
                refine wpAnyH_ready (rs := [31]) (by kernel_rfl) (by simp) ?_
                refine AllReadyH.cons (vatL (vatS (vatS (vatS (vatS (vatS (vatS (vatS (vatS (vatS (vatS (vatS (vatS (vatS (vatS (vatS (vatS (vatS (vatS (vatS (vatS (vatS (vatS (vatS (vatS (vatS (vatS (vatS (vatS (vatS (vatS (vatS vatZ)))))))))))))))))))))))))))))))) (fun K hK => ?_) AllReadyH.nil
                go_simp
                refine hK.out _ _ ?_ (fun hHeld => ?_)
                · exact ⟨hT5.outAt hin, hT5.outAt hkn⟩
                clear hK K
                try simp only [Act.put, List.setIfInBounds_toArray, List.set_cons_zero, List.set_cons_succ]
                refine wpAnyH_done (by kernel_rfl) ?_ _
                go_wp2_with (fail)
                refine ⟨⟨j + 1, by omega, by simp, hT5.congr (fun x y hx hy => ?_), (hbr.setCell (p := ⟨g + 1 + i, j, none⟩) (by show w.heap.size ≤ g + 1 + i; omega) _).drew⟩, by simp [intOf]; omega⟩
                unfold upd
                by_cases h1 : x = i ∧ y = j
                · rw [if_pos h1, h1.1, h1.2]
                  show (if i < i ∨ (i = i ∧ j < j + 1) then wS fa (k + 1) i j else wS fa k i j) = _
                  rw [if_pos (.inr ⟨rfl, Nat.lt_succ_self j⟩)]
                  show (wS fa k i j || (wS fa k i k && wS fa k k j)) = _
                  rw [HOv.out, HPv.out]
                  simp
                · rw [if_neg h1]
                  unfold wM
                  by_cases h2 : x < i ∨ (x = i ∧ y < j)
                  · rw [if_pos h2, if_pos (by omega)]
                  · rw [if_neg h2, if_neg (by omega)]
              cases P
              case false =>
                go_wp2_with (fail)
                have hT4 := hT.drew
                have hT5 := (hT.set (j := j) hin false).drew
                refine wp_region_held_drew (S := fun w' => (w'.cell? ⟨g, i, none⟩ = some (.slice (some ⟨g + 1 + i, 0, none⟩) (n + 1) (n + 1)) ∧ w'.cell? ⟨g, k, none⟩ = some (.slice (some ⟨g + 1 + k, 0, none⟩) (n + 1) (n + 1)))) (by kernel_rfl) ?_ (fun hHeld => ?_)
                · exact ⟨hT4.outAt hin, hT4.outAt hkn⟩
                refine wpAnyH_take (i := 0) (v := ?_) (vatL vatZ) (by kernel_rfl) (by kernel_rfl) (by kernel_rfl) (fun _ _ _ h => h) (Or.inl ⟨by rfl, ?_⟩) (by assumption) ?_
                rotate_left
                · intro w hSw
                  try dsimp only at hSw
                  go_simp
                  all_goals with_reducible rfl
                try simp only [Act.put, List.setIfInBounds_toArray, List.set_cons_zero, List.set_cons_succ]
                refine wpAnyH_take (i := 1) (v := ?_) (vatL (vatS vatZ)) (by kernel_rfl) (by kernel_rfl) (by kernel_rfl) (fun _ _ _ h => h) (Or.inl ⟨by rfl, ?_⟩) (by assumption) ?_
                rotate_left
                · intro w hSw
                  try dsimp only at hSw
                  go_simp
                  all_goals with_reducible rfl
                try simp only [Act.put, List.setIfInBounds_toArray, List.set_cons_zero, List.set_cons_succ]
                refine wpAnyH_take (i := 2) (v := ?_) (vatL (vatS (vatS vatZ))) (by kernel_rfl) (by kernel_rfl) (by kernel_rfl) (fun _ _ _ h => h) (Or.inl ⟨by rfl, ?_⟩) (by assumption) ?_
                rotate_left
                · intro w hSw
                  try dsimp only at hSw
                  go_simp
                  all_goals with_reducible rfl
                try simp only [Act.put, List.setIfInBounds_toArray, List.set_cons_zero, List.set_cons_succ]
                refine wpAnyH_take (i := 3) (v := ?_) (vatL (vatS (vatS (vatS vatZ)))) (by kernel_rfl) (by kernel_rfl) (by kernel_rfl) (fun _ _ _ h => h) (Or.inl ⟨by rfl, ?_⟩) (by assumption) ?_
                rotate_left
                · intro w hSw
                  try dsimp only at hSw
                  go_simp
                  all_goals with_reducible rfl
                try simp only [Act.put, List.setIfInBounds_toArray, List.set_cons_zero, List.set_cons_succ]
                refine wpAnyH_take (i := 4) (v := ?_) (vatL (vatS (vatS (vatS (vatS vatZ))))) (by kernel_rfl) (by kernel_rfl) (by kernel_rfl) (fun _ _ _ h => h) (Or.inl ⟨by rfl, ?_⟩) (by assumption) ?_
                rotate_left
                · intro w hSw
                  try dsimp only at hSw
                  go_simp
                  all_goals with_reducible rfl
                try simp only [Act.put, List.setIfInBounds_toArray, List.set_cons_zero, List.set_cons_succ]
                refine wpAnyH_take (i := 5) (v := ?_) (vatL (vatS (vatS (vatS (vatS (vatS vatZ)))))) (by kernel_rfl) (by kernel_rfl) (by kernel_rfl) (fun _ _ _ h => h) (Or.inl ⟨by rfl, ?_⟩) (by assumption) ?_
                rotate_left
                · intro w hSw
                  try dsimp only at hSw
                  go_simp
                  all_goals with_reducible rfl
                try simp only [Act.put, List.setIfInBounds_toArray, List.set_cons_zero, List.set_cons_succ]
                refine wpAnyH_take (i := 6) (v := ?_) (vatL (vatS (vatS (vatS (vatS (vatS (vatS vatZ))))))) (by kernel_rfl) (by kernel_rfl) (by kernel_rfl) (fun _ _ _ h => h) (Or.inl ⟨by rfl, ?_⟩) (by assumption) ?_
                rotate_left
                · intro w hSw
                  try dsimp only at hSw
                  go_simp
                  all_goals with_reducible rfl
                try simp only [Act.put, List.setIfInBounds_toArray, List.set_cons_zero, List.set_cons_succ]
                refine wpAnyH_take (i := 7) (v := ?_) (vatL (vatS (vatS (vatS (vatS (vatS (vatS (vatS vatZ)))))))) (by kernel_rfl) (by kernel_rfl) (by kernel_rfl) (fun _ _ _ h => h) (Or.inl ⟨by rfl, ?_⟩) (by assumption) ?_
                rotate_left
                · intro w hSw
                  try dsimp only at hSw
                  go_simp
                  all_goals with_reducible rfl
                try simp only [Act.put, List.setIfInBounds_toArray, List.set_cons_zero, List.set_cons_succ]
                refine wpAnyH_take (i := 8) (v := ?_) (vatL (vatS (vatS (vatS (vatS (vatS (vatS (vatS (vatS vatZ))))))))) (by kernel_rfl) (by kernel_rfl) (by kernel_rfl) (fun _ _ _ h => h) (Or.inl ⟨by rfl, ?_⟩) (by assumption) ?_
                rotate_left
                · intro w hSw
                  try dsimp only at hSw
                  go_simp
                  all_goals with_reducible rfl
                try simp only [Act.put, List.setIfInBounds_toArray, List.set_cons_zero, List.set_cons_succ]
                refine wpAnyH_take (i := 9) (v := ?_) (vatL (vatS (vatS (vatS (vatS (vatS (vatS (vatS (vatS (vatS vatZ)))))))))) (by kernel_rfl) (by kernel_rfl) (by kernel_rfl) (fun _ _ _ h => h) (Or.inl ⟨by rfl, ?_⟩) (by assumption) ?_
                rotate_left
                · intro w hSw
                  try dsimp only at hSw
                  go_simp
                  all_goals with_reducible rfl
                try simp only [Act.put, List.setIfInBounds_toArray, List.set_cons_zero, List.set_cons_succ]
                refine wpAnyH_take (i := 10) (v := ?_) (vatL (vatS (vatS (vatS (vatS (vatS (vatS (vatS (vatS (vatS (vatS vatZ))))))))))) (by kernel_rfl) (by kernel_rfl) (by kernel_rfl) (fun _ _ _ h => h) (Or.inl ⟨by rfl, ?_⟩) (by assumption) ?_
                rotate_left
                · intro w hSw
                  try dsimp only at hSw
                  go_simp
                  all_goals with_reducible rfl
                try simp only [Act.put, List.setIfInBounds_toArray, List.set_cons_zero, List.set_cons_succ]
                refine wpAnyH_ready (rs := [11]) (by kernel_rfl) (by simp) ?_
                refine AllReadyH.cons (vatL (vatS (vatS (vatS (vatS (vatS (vatS (vatS (vatS (vatS (vatS (vatS vatZ)))))))))))) (fun K hK => ?_) AllReadyH.nil
                go_simp
                refine hK.out _ _ ?_ (fun hHeld => ?_)
                · exact ⟨hT4.outAt hin, hT4.outAt hkn⟩
                clear hK K
                try simp only [Act.put, List.setIfInBounds_toArray, List.set_cons_zero, List.set_cons_succ]
                refine wpAnyH_take (i := 12) (v := ?_) (vatL (vatS (vatS (vatS (vatS (vatS (vatS (vatS (vatS (vatS (vatS (vatS (vatS vatZ))))))))))))) (by kernel_rfl) (by kernel_rfl) (by kernel_rfl) (fun _ _ _ h => h) (Or.inl ⟨by rfl, ?_⟩) (by assumption) ?_
                rotate_left
                · intro w hSw
                  try dsimp only at hSw
                  go_simp
                  all_goals with_reducible rfl
                try simp only [Act.put, List.setIfInBounds_toArray, List.set_cons_zero, List.set_cons_succ]
                refine wpAnyH_take (i := 13) (v := ?_) (vatL (vatS (vatS (vatS (vatS (vatS (vatS (vatS (vatS (vatS (vatS (vatS (vatS (vatS vatZ)))))))))))))) (by kernel_rfl) (by kernel_rfl) (by kernel_rfl) (fun _ _ _ h => h) (Or.inl ⟨by rfl, ?_⟩) (by assumption) ?_
                rotate_left
                · intro w hSw
                  try dsimp only at hSw
                  go_simp
                  all_goals with_reducible rfl
                try simp only [Act.put, List.setIfInBounds_toArray, List.set_cons_zero, List.set_cons_succ]
                refine wpAnyH_take (i := 14) (v := ?_) (vatL (vatS (vatS (vatS (vatS (vatS (vatS (vatS (vatS (vatS (vatS (vatS (vatS (vatS (vatS vatZ))))))))))))))) (by kernel_rfl) (by kernel_rfl) (by kernel_rfl) (fun _ _ _ h => h) (Or.inl ⟨by rfl, ?_⟩) (by assumption) ?_
                rotate_left
                · intro w hSw
                  try dsimp only at hSw
                  go_simp
                  all_goals with_reducible rfl
                try simp only [Act.put, List.setIfInBounds_toArray, List.set_cons_zero, List.set_cons_succ]
                refine wpAnyH_take (i := 15) (v := ?_) (vatL (vatS (vatS (vatS (vatS (vatS (vatS (vatS (vatS (vatS (vatS (vatS (vatS (vatS (vatS (vatS vatZ)))))))))))))))) (by kernel_rfl) (by kernel_rfl) (by kernel_rfl) (fun _ _ _ h => h) (Or.inl ⟨by rfl, ?_⟩) (by assumption) ?_
                rotate_left
                · intro w hSw
                  try dsimp only at hSw
                  go_simp
                  all_goals with_reducible rfl
                try simp only [Act.put, List.setIfInBounds_toArray, List.set_cons_zero, List.set_cons_succ]
                refine wpAnyH_take (i := 16) (v := ?_) (vatL (vatS (vatS (vatS (vatS (vatS (vatS (vatS (vatS (vatS (vatS (vatS (vatS (vatS (vatS (vatS (vatS vatZ))))))))))))))))) (by kernel_rfl) (by kernel_rfl) (by kernel_rfl) (fun _ _ _ h => h) (Or.inl ⟨by rfl, ?_⟩) (by assumption) ?_
                rotate_left
                · intro w hSw
                  try dsimp only at hSw
                  go_simp
                  all_goals with_reducible rfl
                try simp only [Act.put, List.setIfInBounds_toArray, List.set_cons_zero, List.set_cons_succ]
                refine wpAnyH_take (i := 17) (v := ?_) (vatL (vatS (vatS (vatS (vatS (vatS (vatS (vatS (vatS (vatS (vatS (vatS (vatS (vatS (vatS (vatS (vatS (vatS vatZ)))))))))))))))))) (by kernel_rfl) (by kernel_rfl) (by kernel_rfl) (fun _ _ _ h => h) (Or.inl ⟨by rfl, ?_⟩) (by assumption) ?_
                rotate_left
                · intro w hSw
                  try dsimp only at hSw
                  go_simp
                  all_goals with_reducible rfl
                try simp only [Act.put, List.setIfInBounds_toArray, List.set_cons_zero, List.set_cons_succ]
                refine wpAnyH_take (i := 18) (v := ?_) (vatL (vatS (vatS (vatS (vatS (vatS (vatS (vatS (vatS (vatS (vatS (vatS (vatS (vatS (vatS (vatS (vatS (vatS (vatS vatZ))))))))))))))))))) (by kernel_rfl) (by kernel_rfl) (by kernel_rfl) (fun _ _ _ h => h) (Or.inl ⟨by rfl, ?_⟩) (by assumption) ?_
                rotate_left
                · intro w hSw
                  try dsimp only at hSw
                  go_simp
                  all_goals with_reducible rfl
                try simp only [Act.put, List.setIfInBounds_toArray, List.set_cons_zero, List.set_cons_succ]
                refine wpAnyH_ready (rs := [19]) (by kernel_rfl) (by simp) ?_
                refine AllReadyH.cons (vatL (vatS (vatS (vatS (vatS (vatS (vatS (vatS (vatS (vatS (vatS (vatS (vatS (vatS (vatS (vatS (vatS (vatS (vatS (vatS vatZ)))))))))))))))))))) (fun K hK => ?_) AllReadyH.nil
                go_simp
                refine hK.out _ _ ?_ (fun hHeld => ?_)
                · exact ⟨hT4.outAt hin, hT4.outAt hkn⟩
                clear hK K
                try simp only [Act.put, List.setIfInBounds_toArray, List.set_cons_zero, List.set_cons_succ]
                refine wpAnyH_take (i := 20) (v := ?_) (vatL (vatS (vatS (vatS (vatS (vatS (vatS (vatS (vatS (vatS (vatS (vatS (vatS (vatS (vatS (vatS (vatS (vatS (vatS (vatS (vatS vatZ))))))))))))))))))))) (by kernel_rfl) (by kernel_rfl) (by kernel_rfl) (fun _ _ _ h => h) (Or.inl ⟨by rfl, ?_⟩) (by assumption) ?_
                rotate_left
                · intro w hSw
                  try dsimp only at hSw
                  go_simp
                  all_goals with_reducible rfl
                try simp only [Act.put, List.setIfInBounds_toArray, List.set_cons_zero, List.set_cons_succ]
                refine wpAnyH_take (i := 21) (v := undef) (vatL (vatS (vatS (vatS (vatS (vatS (vatS (vatS (vatS (vatS (vatS (vatS (vatS (vatS (vatS (vatS (vatS (vatS (vatS (vatS (vatS (vatS vatZ)))))))))))))))))))))) (by kernel_rfl) (by kernel_rfl) (by kernel_rfl) (fun _ _ _ h => h) (Or.inr ⟨by rfl, rfl⟩) (by assumption) ?_
                try simp only [Act.put, List.setIfInBounds_toArray, List.set_cons_zero, List.set_cons_succ]
                refine wpAnyH_take (i := 22) (v := undef) (vatL (vatS (vatS (vatS (vatS (vatS (vatS (vatS (vatS (vatS (vatS (vatS (vatS (vatS (vatS (vatS (vatS (vatS (vatS (vatS (vatS (vatS (vatS vatZ))))))))))))))))))))))) (by kernel_rfl) (by kernel_rfl) (by kernel_rfl) (fun _ _ _ h => h) (Or.inr ⟨by rfl, rfl⟩) (by assumption) ?_
                try simp only [Act.put, List.setIfInBounds_toArray, List.set_cons_zero, List.set_cons_succ]
                refine wpAnyH_take (i := 23) (v := undef) (vatL (vatS (vatS (vatS (vatS (vatS (vatS (vatS (vatS (vatS (vatS (vatS (vatS (vatS (vatS (vatS (vatS (vatS (vatS (vatS (vatS (vatS (vatS (vatS vatZ)))))))))))))))))))))))) (by kernel_rfl) (by kernel_rfl) (by kernel_rfl) (fun _ _ _ h => h) (Or.inr ⟨by rfl, rfl⟩) (by assumption) ?_
                try simp only [Act.put, List.setIfInBounds_toArray, List.set_cons_zero, List.set_cons_succ]
                refine wpAnyH_take (i := 24) (v := undef) (vatL (vatS (vatS (vatS (vatS (vatS (vatS (vatS (vatS (vatS (vatS (vatS (vatS (vatS (vatS (vatS (vatS (vatS (vatS (vatS (vatS (vatS (vatS (vatS (vatS vatZ))))))))))))))))))))))))) (by kernel_rfl) (by kernel_rfl) (by kernel_rfl) (fun _ _ _ h => h) (Or.inr ⟨by rfl, rfl⟩) (by assumption) ?_
                try simp only [Act.put, List.setIfInBounds_toArray, List.set_cons_zero, List.set_cons_succ]
                refine wpAnyH_take (i := 25) (v := undef) (vatL (vatS (vatS (vatS (vatS (vatS (vatS (vatS (vatS (vatS (vatS (vatS (vatS (vatS (vatS (vatS (vatS (vatS (vatS (vatS (vatS (vatS (vatS (vatS (vatS (vatS vatZ)))))))))))))))))))))))))) (by kernel_rfl) (by kernel_rfl) (by kernel_rfl) (fun _ _ _ h => h) (Or.inr ⟨by rfl, rfl⟩) (by assumption) ?_
                try simp only [Act.put, List.setIfInBounds_toArray, List.set_cons_zero, List.set_cons_succ]
                refine wpAnyH_take (i := 26) (v := undef) (vatL (vatS (vatS (vatS (vatS (vatS (vatS (vatS (vatS (vatS (vatS (vatS (vatS (vatS (vatS (vatS (vatS (vatS (vatS (vatS (vatS (vatS (vatS (vatS (vatS (vatS (vatS vatZ))))))))))))))))))))))))))) (by kernel_rfl) (by kernel_rfl) (by kernel_rfl) (fun _ _ _ h => h) (Or.inr ⟨by rfl, rfl⟩) (by assumption) ?_
                try simp only [Act.put, List.setIfInBounds_toArray, List.set_cons_zero, List.set_cons_succ]
                refine wpAnyH_take (i := 27) (v := undef) (vatL (vatS (vatS (vatS (vatS (vatS (vatS (vatS (vatS (vatS (vatS (vatS (vatS (vatS (vatS (vatS (vatS (vatS (vatS (vatS (vatS (vatS (vatS (vatS (vatS (vatS (vatS (vatS vatZ)))))))))))))))))))))))))))) (by kernel_rfl) (by kernel_rfl) (by kernel_rfl) (fun _ _ _ h => h) (Or.inr ⟨by rfl, rfl⟩) (by assumption) ?_
                try simp only [Act.put, List.setIfInBounds_toArray, List.set_cons_zero, List.set_cons_succ]
                refine wpAnyH_take (i := 28) (v := ?_) (vatL (vatS (vatS (vatS (vatS (vatS (vatS (vatS (vatS (vatS (vatS (vatS (vatS (vatS (vatS (vatS (vatS (vatS (vatS (vatS (vatS (vatS (vatS (vatS (vatS (vatS (vatS (vatS (vatS vatZ))))))))))))))))))))))))))))) (by kernel_rfl) (by kernel_rfl) (by kernel_rfl) (fun _ _ _ h => h) (Or.inl ⟨by rfl, ?_⟩) (by assumption) ?_
                rotate_left
                · intro w hSw
                  try dsimp only at hSw
                  go_simp
                  all_goals with_reducible rfl
                try simp only [Act.put, List.setIfInBounds_toArray, List.set_cons_zero, List.set_cons_succ]
                refine wpAnyH_take (i := 29) (v := ?_) (vatL (vatS (vatS (vatS (vatS (vatS (vatS (vatS (vatS (vatS (vatS (vatS (vatS (vatS (vatS (vatS (vatS (vatS (vatS (vatS (vatS (vatS (vatS (vatS (vatS (vatS (vatS (vatS (vatS (vatS vatZ)))))))))))))))))))))))))))))) (by kernel_rfl) (by kernel_rfl) (by kernel_rfl) (fun _ _ _ h => h) (Or.inl ⟨by rfl, ?_⟩) (by assumption) ?_
                rotate_left
                · intro w hSw
                  try dsimp only at hSw
                  go_simp
                  all_goals with_reducible rfl
                try simp only [Act.put, List.setIfInBounds_toArray, List.set_cons_zero, List.set_cons_succ]
                refine wpAnyH_take (i := 30) (v := ?_) (vatL (vatS (vatS (vatS (vatS (vatS (vatS (vatS (vatS (vatS (vatS (vatS (vatS (vatS (vatS (vatS (vatS (vatS (vatS (vatS (vatS (vatS (vatS (vatS (vatS (vatS (vatS (vatS (vatS (vatS (vatS vatZ))))))))))))))))))))))))))))))) (by kernel_rfl) (by kernel_rfl) (by kernel_rfl) (fun _ _ _ h => h) (Or.inl ⟨by rfl, ?_⟩) (by assumption) ?_
                rotate_left
                · intro w hSw
                  try dsimp only at hSw
                  go_simp
                  all_goals with_reducible rfl
                try simp only [Act.put, List.setIfInBounds_toArray, List.set_cons_zero, List.set_cons_succ]
                refine wpAnyH_ready (rs := [31]) (by kernel_rfl) (by simp) ?_
                refine AllReadyH.cons (vatL (vatS (vatS (vatS (vatS (vatS (vatS (vatS (vatS (vatS (vatS (vatS (vatS (vatS (vatS (vatS (vatS (vatS (vatS (vatS (vatS (vatS (vatS (vatS (vatS (vatS (vatS (vatS (vatS (vatS (vatS (vatS vatZ)))))))))))))))))))))))))))))))) (fun K hK => ?_) AllReadyH.nil
                go_simp
                refine hK.out _ _ ?_ (fun hHeld => ?_)
                · exact ⟨hT5.outAt hin, hT5.outAt hkn⟩
                clear hK K
                try simp only [Act.put, List.setIfInBounds_toArray, List.set_cons_zero, List.set_cons_succ]
                refine wpAnyH_done (by kernel_rfl) ?_ _
                go_wp2_with (fail)
                refine ⟨⟨j + 1, by omega, by simp, hT5.congr (fun x y hx hy => ?_), (hbr.setCell (p := ⟨g + 1 + i, j, none⟩) (by show w.heap.size ≤ g + 1 + i; omega) _).drew⟩, by simp [intOf]; omega⟩
                unfold upd
                by_cases h1 : x = i ∧ y = j
                · rw [if_pos h1, h1.1, h1.2]
                  show (if i < i ∨ (i = i ∧ j < j + 1) then wS fa (k + 1) i j else wS fa k i j) = _
                  rw [if_pos (.inr ⟨rfl, Nat.lt_succ_self j⟩)]
                  show (wS fa k i j || (wS fa k i k && wS fa k k j)) = _
                  rw [HOv.out, HPv.out]
                  simp
                · rw [if_neg h1]
                  unfold wM
                  by_cases h2 : x < i ∨ (x = i ∧ y < j)
                  · rw [if_pos h2, if_pos (by omega)]
                  · rw [if_neg h2, if_neg (by omega)]
              case true =>
                go_wp2_with (fail)
                have hT4 := hT.drew
                have hT5 := (hT.set (j := j) hin Q).drew
                refine wp_region_held_drew (S := fun w' => (w'.cell? ⟨g, i, none⟩ = some (.slice (some ⟨g + 1 + i, 0, none⟩) (n + 1) (n + 1)) ∧ w'.cell? ⟨g, k, none⟩ = some (.slice (some ⟨g + 1 + k, 0, none⟩) (n + 1) (n + 1)))) (by kernel_rfl) ?_ (fun hHeld => ?_)
                · exact ⟨hT4.outAt hin, hT4.outAt hkn⟩
                refine wpAnyH_take (i := 0) (v := ?_) (vatL vatZ) (by kernel_rfl) (by kernel_rfl) (by kernel_rfl) (fun _ _ _ h => h) (Or.inl ⟨by rfl, ?_⟩) (by assumption) ?_
                rotate_left
                · intro w hSw
                  try dsimp only at hSw
                  go_simp
                  all_goals with_reducible rfl
                try simp only [Act.put, List.setIfInBounds_toArray, List.set_cons_zero, List.set_cons_succ]
                refine wpAnyH_take (i := 1) (v := ?_) (vatL (vatS vatZ)) (by kernel_rfl) (by kernel_rfl) (by kernel_rfl) (fun _ _ _ h => h) (Or.inl ⟨by rfl, ?_⟩) (by assumption) ?_
                rotate_left
                · intro w hSw
                  try dsimp only at hSw
                  go_simp
                  all_goals with_reducible rfl
                try simp only [Act.put, List.setIfInBounds_toArray, List.set_cons_zero, List.set_cons_succ]
                refine wpAnyH_take (i := 2) (v := ?_) (vatL (vatS (vatS vatZ))) (by kernel_rfl) (by kernel_rfl) (by kernel_rfl) (fun _ _ _ h => h) (Or.inl ⟨by rfl, ?_⟩) (by assumption) ?_
                rotate_left
                · intro w hSw
                  try dsimp only at hSw
                  go_simp
                  all_goals with_reducible rfl
                try simp only [Act.put, List.setIfInBounds_toArray, List.set_cons_zero, List.set_cons_succ]
                refine wpAnyH_take (i := 3) (v := ?_) (vatL (vatS (vatS (vatS vatZ)))) (by kernel_rfl) (by kernel_rfl) (by kernel_rfl) (fun _ _ _ h => h) (Or.inl ⟨by rfl, ?_⟩) (by assumption) ?_
                rotate_left
                · intro w hSw
                  try dsimp only at hSw
                  go_simp
                  all_goals with_reducible rfl
                try simp only [Act.put, List.setIfInBounds_toArray, List.set_cons_zero, List.set_cons_succ]
                refine wpAnyH_take (i := 4) (v := ?_) (vatL (vatS (vatS (vatS (vatS vatZ))))) (by kernel_rfl) (by kernel_rfl) (by kernel_rfl) (fun _ _ _ h => h) (Or.inl ⟨by rfl, ?_⟩) (by assumption) ?_
                rotate_left
                · intro w hSw
                  try dsimp only at hSw
                  go_simp
                  all_goals with_reducible rfl
                try simp only [Act.put, List.setIfInBounds_toArray, List.set_cons_zero, List.set_cons_succ]
                refine wpAnyH_take (i := 5) (v := ?_) (vatL (vatS (vatS (vatS (vatS (vatS vatZ)))))) (by kernel_rfl) (by kernel_rfl) (by kernel_rfl) (fun _ _ _ h => h) (Or.inl ⟨by rfl, ?_⟩) (by assumption) ?_
                rotate_left
                · intro w hSw
                  try dsimp only at hSw
                  go_simp
                  all_goals with_reducible rfl
                try simp only [Act.put, List.setIfInBounds_toArray, List.set_cons_zero, List.set_cons_succ]
                refine wpAnyH_take (i := 6) (v := ?_) (vatL (vatS (vatS (vatS (vatS (vatS (vatS vatZ))))))) (by kernel_rfl) (by kernel_rfl) (by kernel_rfl) (fun _ _ _ h => h) (Or.inl ⟨by rfl, ?_⟩) (by assumption) ?_
                rotate_left
                · intro w hSw
                  try dsimp only at hSw
                  go_simp
                  all_goals with_reducible rfl
                try simp only [Act.put, List.setIfInBounds_toArray, List.set_cons_zero, List.set_cons_succ]
                refine wpAnyH_take (i := 7) (v := ?_) (vatL (vatS (vatS (vatS (vatS (vatS (vatS (vatS vatZ)))))))) (by kernel_rfl) (by kernel_rfl) (by kernel_rfl) (fun _ _ _ h => h) (Or.inl ⟨by rfl, ?_⟩) (by assumption) ?_
                rotate_left
                · intro w hSw
                  try dsimp only at hSw
                  go_simp
                  all_goals with_reducible rfl
                try simp only [Act.put, List.setIfInBounds_toArray, List.set_cons_zero, List.set_cons_succ]
                refine wpAnyH_take (i := 8) (v := ?_) (vatL (vatS (vatS (vatS (vatS (vatS (vatS (vatS (vatS vatZ))))))))) (by kernel_rfl) (by kernel_rfl) (by kernel_rfl) (fun _ _ _ h => h) (Or.inl ⟨by rfl, ?_⟩) (by assumption) ?_
                rotate_left
                · intro w hSw
                  try dsimp only at hSw
                  go_simp
                  all_goals with_reducible rfl
                try simp only [Act.put, List.setIfInBounds_toArray, List.set_cons_zero, List.set_cons_succ]
                refine wpAnyH_take (i := 9) (v := ?_) (vatL (vatS (vatS (vatS (vatS (vatS (vatS (vatS (vatS (vatS vatZ)))))))))) (by kernel_rfl) (by kernel_rfl) (by kernel_rfl) (fun _ _ _ h => h) (Or.inl ⟨by rfl, ?_⟩) (by assumption) ?_
                rotate_left
                · intro w hSw
                  try dsimp only at hSw
                  go_simp
                  all_goals with_reducible rfl
                try simp only [Act.put, List.setIfInBounds_toArray, List.set_cons_zero, List.set_cons_succ]
                refine wpAnyH_take (i := 10) (v := ?_) (vatL (vatS (vatS (vatS (vatS (vatS (vatS (vatS (vatS (vatS (vatS vatZ))))))))))) (by kernel_rfl) (by kernel_rfl) (by kernel_rfl) (fun _ _ _ h => h) (Or.inl ⟨by rfl, ?_⟩) (by assumption) ?_
                rotate_left
                · intro w hSw
                  try dsimp only at hSw
                  go_simp
                  all_goals with_reducible rfl
                try simp only [Act.put, List.setIfInBounds_toArray, List.set_cons_zero, List.set_cons_succ]
                refine wpAnyH_ready (rs := [11]) (by kernel_rfl) (by simp) ?_
                refine AllReadyH.cons (vatL (vatS (vatS (vatS (vatS (vatS (vatS (vatS (vatS (vatS (vatS (vatS vatZ)))))))))))) (fun K hK => ?_) AllReadyH.nil
                go_simp
                refine hK.out _ _ ?_ (fun hHeld => ?_)
                · exact ⟨hT4.outAt hin, hT4.outAt hkn⟩
                clear hK K
                try simp only [Act.put, List.setIfInBounds_toArray, List.set_cons_zero, List.set_cons_succ]
                refine wpAnyH_take (i := 12) (v := ?_) (vatL (vatS (vatS (vatS (vatS (vatS (vatS (vatS (vatS (vatS (vatS (vatS (vatS vatZ))))))))))))) (by kernel_rfl) (by kernel_rfl) (by kernel_rfl) (fun _ _ _ h => h) (Or.inl ⟨by rfl, ?_⟩) (by assumption) ?_
                rotate_left
                · intro w hSw
                  try dsimp only at hSw
                  go_simp
                  all_goals with_reducible rfl
                try simp only [Act.put, List.setIfInBounds_toArray, List.set_cons_zero, List.set_cons_succ]
                refine wpAnyH_take (i := 13) (v := ?_) (vatL (vatS (vatS (vatS (vatS (vatS (vatS (vatS (vatS (vatS (vatS (vatS (vatS (vatS vatZ)))))))))))))) (by kernel_rfl) (by kernel_rfl) (by kernel_rfl) (fun _ _ _ h => h) (Or.inl ⟨by rfl, ?_⟩) (by assumption) ?_
                rotate_left
                · intro w hSw
                  try dsimp only at hSw
                  go_simp
                  all_goals with_reducible rfl
                try simp only [Act.put, List.setIfInBounds_toArray, List.set_cons_zero, List.set_cons_succ]
                refine wpAnyH_take (i := 14) (v := ?_) (vatL (vatS (vatS (vatS (vatS (vatS (vatS (vatS (vatS (vatS (vatS (vatS (vatS (vatS (vatS vatZ))))))))))))))) (by kernel_rfl) (by kernel_rfl) (by kernel_rfl) (fun _ _ _ h => h) (Or.inl ⟨by rfl, ?_⟩) (by assumption) ?_
                rotate_left
                · intro w hSw
                  try dsimp only at hSw
                  go_simp
                  all_goals with_reducible rfl
                try simp only [Act.put, List.setIfInBounds_toArray, List.set_cons_zero, List.set_cons_succ]
                refine wpAnyH_take (i := 15) (v := ?_) (vatL (vatS (vatS (vatS (vatS (vatS (vatS (vatS (vatS (vatS (vatS (vatS (vatS (vatS (vatS (vatS vatZ)))))))))))))))) (by kernel_rfl) (by kernel_rfl) (by kernel_rfl) (fun _ _ _ h => h) (Or.inl ⟨by rfl, ?_⟩) (by assumption) ?_
                rotate_left
                · intro w hSw
                  try dsimp only at hSw
                  go_simp
                  all_goals with_reducible rfl
                try simp only [Act.put, List.setIfInBounds_toArray, List.set_cons_zero, List.set_cons_succ]
                refine wpAnyH_take (i := 16) (v := ?_) (vatL (vatS (vatS (vatS (vatS (vatS (vatS (vatS (vatS (vatS (vatS (vatS (vatS (vatS (vatS (vatS (vatS vatZ))))))))))))))))) (by kernel_rfl) (by kernel_rfl) (by kernel_rfl) (fun _ _ _ h => h) (Or.inl ⟨by rfl, ?_⟩) (by assumption) ?_
                rotate_left
                · intro w hSw
                  try dsimp only at hSw
                  go_simp
                  all_goals with_reducible rfl
                try simp only [Act.put, List.setIfInBounds_toArray, List.set_cons_zero, List.set_cons_succ]
                refine wpAnyH_take (i := 17) (v := ?_) (vatL (vatS (vatS (vatS (vatS (vatS (vatS (vatS (vatS (vatS (vatS (vatS (vatS (vatS (vatS (vatS (vatS (vatS vatZ)))))))))))))))))) (by kernel_rfl) (by kernel_rfl) (by kernel_rfl) (fun _ _ _ h => h) (Or.inl ⟨by rfl, ?_⟩) (by assumption) ?_
                rotate_left
                · intro w hSw
                  try dsimp only at hSw
                  go_simp
                  all_goals with_reducible rfl
                try simp only [Act.put, List.setIfInBounds_toArray, List.set_cons_zero, List.set_cons_succ]
                refine wpAnyH_take (i := 18) (v := ?_) (vatL (vatS (vatS (vatS (vatS (vatS (vatS (vatS (vatS (vatS (vatS (vatS (vatS (vatS (vatS (vatS (vatS (vatS (vatS vatZ))))))))))))))))))) (by kernel_rfl) (by kernel_rfl) (by kernel_rfl) (fun _ _ _ h => h) (Or.inl ⟨by rfl, ?_⟩) (by assumption) ?_
                rotate_left
                · intro w hSw
                  try dsimp only at hSw
                  go_simp
                  all_goals with_reducible rfl
                try simp only [Act.put, List.setIfInBounds_toArray, List.set_cons_zero, List.set_cons_succ]
                refine wpAnyH_ready (rs := [19]) (by kernel_rfl) (by simp) ?_
                refine AllReadyH.cons (vatL (vatS (vatS (vatS (vatS (vatS (vatS (vatS (vatS (vatS (vatS (vatS (vatS (vatS (vatS (vatS (vatS (vatS (vatS (vatS vatZ)))))))))))))))))))) (fun K hK => ?_) AllReadyH.nil
                go_simp
                refine hK.out _ _ ?_ (fun hHeld => ?_)
                · exact ⟨hT4.outAt hin, hT4.outAt hkn⟩
                clear hK K
                try simp only [Act.put, List.setIfInBounds_toArray, List.set_cons_zero, List.set_cons_succ]
                refine wpAnyH_take (i := 20) (v := ?_) (vatL (vatS (vatS (vatS (vatS (vatS (vatS (vatS (vatS (vatS (vatS (vatS (vatS (vatS (vatS (vatS (vatS (vatS (vatS (vatS (vatS vatZ))))))))))))))))))))) (by kernel_rfl) (by kernel_rfl) (by kernel_rfl) (fun _ _ _ h => h) (Or.inl ⟨by rfl, ?_⟩) (by assumption) ?_
                rotate_left
                · intro w hSw
                  try dsimp only at hSw
                  go_simp
                  all_goals with_reducible rfl
                try simp only [Act.put, List.setIfInBounds_toArray, List.set_cons_zero, List.set_cons_succ]
                refine wpAnyH_take (i := 21) (v := ?_) (vatL (vatS (vatS (vatS (vatS (vatS (vatS (vatS (vatS (vatS (vatS (vatS (vatS (vatS (vatS (vatS (vatS (vatS (vatS (vatS (vatS (vatS vatZ)))))))))))))))))))))) (by kernel_rfl) (by kernel_rfl) (by kernel_rfl) (fun _ _ _ h => h) (Or.inl ⟨by rfl, ?_⟩) (by assumption) ?_
                rotate_left
                · intro w hSw
                  try dsimp only at hSw
                  go_simp
                  all_goals with_reducible rfl
                try simp only [Act.put, List.setIfInBounds_toArray, List.set_cons_zero, List.set_cons_succ]
                refine wpAnyH_take (i := 22) (v := ?_) (vatL (vatS (vatS (vatS (vatS (vatS (vatS (vatS (vatS (vatS (vatS (vatS (vatS (vatS (vatS (vatS (vatS (vatS (vatS (vatS (vatS (vatS (vatS vatZ))))))))))))))))))))))) (by kernel_rfl) (by kernel_rfl) (by kernel_rfl) (fun _ _ _ h => h) (Or.inl ⟨by rfl, ?_⟩) (by assumption) ?_
                rotate_left
                · intro w hSw
                  try dsimp only at hSw
                  go_simp
                  all_goals with_reducible rfl
                try simp only [Act.put, List.setIfInBounds_toArray, List.set_cons_zero, List.set_cons_succ]
                refine wpAnyH_take (i := 23) (v := ?_) (vatL (vatS (vatS (vatS (vatS (vatS (vatS (vatS (vatS (vatS (vatS (vatS (vatS (vatS (vatS (vatS (vatS (vatS (vatS (vatS (vatS (vatS (vatS (vatS vatZ)))))))))))))))))))))))) (by kernel_rfl) (by kernel_rfl) (by kernel_rfl) (fun _ _ _ h => h) (Or.inl ⟨by rfl, ?_⟩) (by assumption) ?_
                rotate_left
                · intro w hSw
                  try dsimp only at hSw
                  go_simp
                  all_goals with_reducible rfl
                try simp only [Act.put, List.setIfInBounds_toArray, List.set_cons_zero, List.set_cons_succ]
                refine wpAnyH_take (i := 24) (v := ?_) (vatL (vatS (vatS (vatS (vatS (vatS (vatS (vatS (vatS (vatS (vatS (vatS (vatS (vatS (vatS (vatS (vatS (vatS (vatS (vatS (vatS (vatS (vatS (vatS (vatS vatZ))))))))))))))))))))))))) (by kernel_rfl) (by kernel_rfl) (by kernel_rfl) (fun _ _ _ h => h) (Or.inl ⟨by rfl, ?_⟩) (by assumption) ?_
                rotate_left
                · intro w hSw
                  try dsimp only at hSw
                  go_simp
                  all_goals with_reducible rfl
                try simp only [Act.put, List.setIfInBounds_toArray, List.set_cons_zero, List.set_cons_succ]
                refine wpAnyH_take (i := 25) (v := ?_) (vatL (vatS (vatS (vatS (vatS (vatS (vatS (vatS (vatS (vatS (vatS (vatS (vatS (vatS (vatS (vatS (vatS (vatS (vatS (vatS (vatS (vatS (vatS (vatS (vatS (vatS vatZ)))))))))))))))))))))))))) (by kernel_rfl) (by kernel_rfl) (by kernel_rfl) (fun _ _ _ h => h) (Or.inl ⟨by rfl, ?_⟩) (by assumption) ?_
                rotate_left
                · intro w hSw
                  try dsimp only at hSw
                  go_simp
                  all_goals with_reducible rfl
                try simp only [Act.put, List.setIfInBounds_toArray, List.set_cons_zero, List.set_cons_succ]
                refine wpAnyH_take (i := 26) (v := ?_) (vatL (vatS (vatS (vatS (vatS (vatS (vatS (vatS (vatS (vatS (vatS (vatS (vatS (vatS (vatS (vatS (vatS (vatS (vatS (vatS (vatS (vatS (vatS (vatS (vatS (vatS (vatS vatZ))))))))))))))))))))))))))) (by kernel_rfl) (by kernel_rfl) (by kernel_rfl) (fun _ _ _ h => h) (Or.inl ⟨by rfl, ?_⟩) (by assumption) ?_
                rotate_left
                · intro w hSw
                  try dsimp only at hSw
                  go_simp
                  all_goals with_reducible rfl
                try simp only [Act.put, List.setIfInBounds_toArray, List.set_cons_zero, List.set_cons_succ]
                refine wpAnyH_ready (rs := [27]) (by kernel_rfl) (by simp) ?_
                refine AllReadyH.cons (vatL (vatS (vatS (vatS (vatS (vatS (vatS (vatS (vatS (vatS (vatS (vatS (vatS (vatS (vatS (vatS (vatS (vatS (vatS (vatS (vatS (vatS (vatS (vatS (vatS (vatS (vatS (vatS vatZ)))))))))))))))))))))))))))) (fun K hK => ?_) AllReadyH.nil
                go_simp
                refine hK.out _ _ ?_ (fun hHeld => ?_)
                · exact ⟨hT4.outAt hin, hT4.outAt hkn⟩
                clear hK K
                try simp only [Act.put, List.setIfInBounds_toArray, List.set_cons_zero, List.set_cons_succ]
                refine wpAnyH_take (i := 28) (v := ?_) (vatL (vatS (vatS (vatS (vatS (vatS (vatS (vatS (vatS (vatS (vatS (vatS (vatS (vatS (vatS (vatS (vatS (vatS (vatS (vatS (vatS (vatS (vatS (vatS (vatS (vatS (vatS (vatS (vatS vatZ))))))))))))))))))))))))))))) (by kernel_rfl) (by kernel_rfl) (by kernel_rfl) (fun _ _ _ h => h) (Or.inl ⟨by rfl, ?_⟩) (by assumption) ?_
                rotate_left
                · intro w hSw
                  try dsimp only at hSw
                  go_simp
                  all_goals with_reducible rfl
                try simp only [Act.put, List.setIfInBounds_toArray, List.set_cons_zero, List.set_cons_succ]
                refine wpAnyH_take (i := 29) (v := ?_) (vatL (vatS (vatS (vatS (vatS (vatS (vatS (vatS (vatS (vatS (vatS (vatS (vatS (vatS (vatS (vatS (vatS (vatS (vatS (vatS (vatS (vatS (vatS (vatS (vatS (vatS (vatS (vatS (vatS (vatS vatZ)))))))))))))))))))))))))))))) (by kernel_rfl) (by kernel_rfl) (by kernel_rfl) (fun _ _ _ h => h) (Or.inl ⟨by rfl, ?_⟩) (by assumption) ?_
                rotate_left
                · intro w hSw
                  try dsimp only at hSw
                  go_simp
                  all_goals with_reducible rfl
                try simp only [Act.put, List.setIfInBounds_toArray, List.set_cons_zero, List.set_cons_succ]
                refine wpAnyH_take (i := 30) (v := ?_) (vatL (vatS (vatS (vatS (vatS (vatS (vatS (vatS (vatS (vatS (vatS (vatS (vatS (vatS (vatS (vatS (vatS (vatS (vatS (vatS (vatS (vatS (vatS (vatS (vatS (vatS (vatS (vatS (vatS (vatS (vatS vatZ))))))))))))))))))))))))))))))) (by kernel_rfl) (by kernel_rfl) (by kernel_rfl) (fun _ _ _ h => h) (Or.inl ⟨by rfl, ?_⟩) (by assumption) ?_
                rotate_left
                · intro w hSw
                  try dsimp only at hSw
                  go_simp
                  all_goals with_reducible rfl
                try simp only [Act.put, List.setIfInBounds_toArray, List.set_cons_zero, List.set_cons_succ]
                refine wpAnyH_ready (rs := [31]) (by kernel_rfl) (by simp) ?_
                refine AllReadyH.cons (vatL (vatS (vatS (vatS (vatS (vatS (vatS (vatS (vatS (vatS (vatS (vatS (vatS (vatS (vatS (vatS (vatS (vatS (vatS (vatS (vatS (vatS (vatS (vatS (vatS (vatS (vatS (vatS (vatS (vatS (vatS (vatS vatZ)))))))))))))))))))))))))))))))) (fun K hK => ?_) AllReadyH.nil
                go_simp
                refine hK.out _ _ ?_ (fun hHeld => ?_)
                · exact ⟨hT5.outAt hin, hT5.outAt hkn⟩
                clear hK K
                try simp only [Act.put, List.setIfInBounds_toArray, List.set_cons_zero, List.set_cons_succ]
                refine wpAnyH_done (by kernel_rfl) ?_ _
                go_wp2_with (fail)
                refine ⟨⟨j + 1, by omega, by simp, hT5.congr (fun x y hx hy => ?_), (hbr.setCell (p := ⟨g + 1 + i, j, none⟩) (by show w.heap.size ≤ g + 1 + i; omega) _).drew⟩, by simp [intOf]; omega⟩
                unfold upd
                by_cases h1 : x = i ∧ y = j
                · rw [if_pos h1, h1.1, h1.2]
                  show (if i < i ∨ (i = i ∧ j < j + 1) then wS fa (k + 1) i j else wS fa k i j) = _
                  rw [if_pos (.inr ⟨rfl, Nat.lt_succ_self j⟩)]
                  show (wS fa k i j || (wS fa k i k && wS fa k k j)) = _
                  rw [HOv.out, HPv.out, HQv.out]
                  simp
                · rw [if_neg h1]
                  unfold wM
                  by_cases h2 : x < i ∨ (x = i ∧ y < j)
                  · rw [if_pos h2, if_pos (by omega)]
                  · rw [if_neg h2, if_neg (by omega)]
            · obtain rfl : j = n + 1 := by omega
              have hjI : ¬ ((n + 1 : Nat) : Int) < (n : Int) + 1 := by omega
              go_wp2_with (fail)
              refine ⟨⟨i + 1, by omega, by simp, hT.congr (fun x y _ hy => ?_), hbr⟩, by simp [intOf]; omega⟩
              unfold wM
              by_cases h2 : x < i ∨ (x = i ∧ y < n + 1)
              · rw [if_pos h2, if_pos (by omega)]
              · rw [if_neg h2, if_neg (by omega)]
        · obtain rfl : i = n + 1 := by omega
          have hiI : ¬ ((n + 1 : Nat) : Int) < (n : Int) + 1 := by omega
          go_wp2_with (fail)
          exact ⟨⟨k + 1, by omega, by simp, hT.congr (fun x y hx _ => by unfold wM; rw [if_pos (by omega)]), hbr⟩, by simp [intOf]; omega⟩
    · obtain rfl : k = n + 1 := by omega
      have hkI : ¬ ((n + 1 : Nat) : Int) < (n : Int) + 1 := by omega
      go_wp2_with (fail)
      exact bodyPost_ret (v := tabV n g) (by simp [results, Try.results69, go_sem]; try rfl) rfl ⟨⟨g, hgw, rfl, hT⟩, hbr⟩
end Go.Proofs.Ytngbfjimmdkfeaa

