/- Texts joined: Hc Hd. -/
import Derived.Test.YtngbfjimmdkfeaaPBH1
import Derived.Test.YtngbfjimmdkfeaaPBM
import Derived.Test.YtngbfjimmdkfeaaPBH2
import Derived.OwnWalkIn
import Derived.TacticsInMore
import Derived.LoopNIn
import Derived.LoopIn
import Derived.Sort.LoopGhostIn
import Derived.Sort.QuietIn
import Derived.BigQuiet
set_option linter.unusedVariables false
set_option linter.unusedSimpArgs false
namespace Go.Proofs.Ytngbfjimmdkfeaa
open Go.RowKit Go.Shelf

attribute [local go_sem] Oper.semAt_some

set_option maxRecDepth 100000 in
set_option maxHeartbeats 1000000 in
theorem behind_any (wb : Nat) (fi : Nat) (lb : Array Value) (s : Int) (w : World) :
    Calls Try.prog 84 #[.pointer (some ⟨wb, 0, none⟩), .int .i64 s, .func (.func fi) #[] lb] w fun e w' => e = .returned (.func (.func 90) #[] #[.pointer (some ⟨w.heap.size, 0, none⟩), .pointer (some ⟨w.heap.size + 1, 0, none⟩), .pointer (some ⟨w.heap.size + 2, 0, none⟩)]) ∧ w' = ((w.alloc (.cells #[.pointer (some ⟨wb, 0, none⟩)] 119)).alloc (.cells #[.int .i64 s] 3)).alloc (.cells #[.func (.func fi) #[] lb] 100) := by
  go_enter Try.func84, Try.ntmps84
  go_wp2
  go_ret
  exact ⟨rfl, rfl⟩
end Go.Proofs.Ytngbfjimmdkfeaa

namespace Go.Proofs.Ytngbfjimmdkfeaa
open Go.RowKit Go.Shelf

attribute [local go_sem] Oper.semAt_some

/-- What the iterator reads. -/
structure ItF (W : World) (x : Nf) (p : NfL) (L : WkL) (wb bW bS bC : Nat) (s : Nat) (cv : Value) : Prop where
  cw : W.cell? ⟨bW, 0, none⟩ = some (.pointer (some ⟨wb, 0, none⟩))
  cs : W.cell? ⟨bS, 0, none⟩ = some (.int .i64 (s : Int))
  cc : W.cell? ⟨bC, 0, none⟩ = some cv
  b0 : W.cell? ⟨wb, 0, none⟩ = some (.slice p.ga x.es.length p.gc)
  b1 : W.cell? ⟨wb, 1, none⟩ = some (.slice (some ⟨L.fb, 0, none⟩) x.n.toNat x.n.toNat)
  b2 : W.cell? ⟨wb, 2, none⟩ = some (.slice (some ⟨L.nb, 0, none⟩) x.es.length x.es.length)
  first : ∀ i : Nat, i < x.n.toNat → W.cell? ⟨L.fb, i, none⟩ = some (.int .i64 (lastE x.es (i : Int) x.es.length))
  next : ∀ i : Nat, i < x.es.length → W.cell? ⟨L.nb, i, none⟩ = some (.int .i64 (nextE x.es i))
  es : Egs W p.ga p.gc x.es
/-- What may have come, what has. -/
abbrev BGood (x : Nf) (Pr : Eg → Bool) (s : Nat) (pre : List Int) : Prop := ∃ r, pre ++ r = behE x.es Pr (s : Int) x.es.length
abbrev BFull (x : Nf) (Pr : Eg → Bool) (s : Nat) (xs : List Int) : Prop := xs = behE x.es Pr (s : Int) x.es.length
abbrev encI (t : Int) : Array Value := #[.int .i64 t]

set_option maxRecDepth 100000 in
set_option maxHeartbeats 2000000 in
theorem behind1_N (K : World → Prop) (F : World → World → Prop) (x : Nf) (p : NfL) (L : WkL) (wb bW bS bC bX : Nat) (s : Nat) (Pr : Eg → Bool)
    (hK : ∀ W, K W → ItF W x p L wb bW bS bC s (.func (.func 73) #[] #[])) (hKB : ∀ W W', K W → Below W.heap.size W W' → K W') (hKF : ∀ W W', K W → F W W' → K W')
    (hKc : ∀ W e sa sc, K W → Sps W sa sc e.q → Calls Try.prog 73 (#[.agg #[.int .i64 e.f, .int .i64 e.t, .slice sa e.q.length sc]] ++ #[]) W fun r w' => r = .returned (.bool (Pr e)) ∧ Below W.heap.size W w')
    (hs : s < x.n.toNat) (hN : x.n.toNat ≤ 2000) (hM : x.es.length ≤ 1000000) (T : TypeId → Bool) (w : World) (hKw : K w) :
    WalksF Try.prog 90 #[.pointer (some ⟨bW, 0, none⟩), .pointer (some ⟨bS, 0, none⟩), .pointer (some ⟨bC, 0, none⟩)] encI (BGood x Pr s) (BFull x Pr s) F T w := by
  intro l J W hW hJ hY h0
  have HK := Lib.hid (hKB _ _ hKw hW)
  obtain ⟨ea, ec, ga, gc⟩ := p
  obtain ⟨fb, nb, mb⟩ := L
  obtain ⟨N, hNN⟩ : ∃ N, Hid (x.n.toNat = N) := ⟨_, Lib.hid rfl⟩
  obtain ⟨M, hMM⟩ : ∃ M, Hid (x.es.length = M) := ⟨_, Lib.hid rfl⟩
  obtain ⟨X, hX⟩ : ∃ X, Hid (lastE x.es (s : Int) M = X) := ⟨_, Lib.hid rfl⟩
  rw [hNN.out] at hs hN
  rw [hMM.out] at hM
  have HSt : Hid (∀ W, K W → (W.cell? ⟨bW, 0, none⟩ = some (.pointer (some ⟨wb, 0, none⟩)) ∧ W.cell? ⟨bS, 0, none⟩ = some (.int .i64 (s : Int)) ∧ W.cell? ⟨wb, 1, none⟩ = some (.slice (some ⟨fb, 0, none⟩) N N) ∧ W.cell? ⟨fb, s, none⟩ = some (.int .i64 X))) := Lib.hid (fun W h => ⟨(hK W h).cw, (hK W h).cs, by have := (hK W h).b1; rw [hNN.out] at this; exact this, by have := (hK W h).first s (by rw [hNN.out]; exact hs); rw [hMM.out, hX.out] at this; exact this⟩)
  have hsI : (s : Int) < (N : Int) := by omega
  have hsI0 : (0 : Int) ≤ (s : Int) := by omega
  refine callsIn_of_wp Try.func90 rfl trivial ?_ rfl
  simp only [Try.ntmps90, List.size_toArray, List.length_cons, List.length_nil, Nat.reduceAdd, Nat.reduceSub, Array.replicate_succ, Array.replicate_zero, List.push_toArray, List.append_toArray, List.nil_append, List.cons_append]
  gi_wp2_with (fail)
  refine wpIn_region_held_drew (S := fun w' => (w'.cell? ⟨bW, 0, none⟩ = some (.pointer (some ⟨wb, 0, none⟩)) ∧ w'.cell? ⟨bS, 0, none⟩ = some (.int .i64 (s : Int)) ∧ w'.cell? ⟨wb, 1, none⟩ = some (.slice (some ⟨fb, 0, none⟩) N N) ∧ w'.cell? ⟨fb, s, none⟩ = some (.int .i64 X))) (by kernel_rfl) ?_ (fun hHeld => ?_)
  · exact HSt.out _ (hKB _ _ HK.out (Below.refl _ _).drew)
  refine wpAnyHI_take (i := 0) (v := ?_) rfl (gatL gatZ) (by kernel_rfl) (by kernel_rfl) (by kernel_rfl) (fun _ _ _ h => h) (Or.inl ⟨by rfl, ?_⟩) (fun _ => by rfl) (by assumption) ?_
  rotate_left
  · intro w hSw
    try dsimp only at hSw
    go_simp
    all_goals with_reducible rfl
  try simp only [Act.put, List.setIfInBounds_toArray, List.set_cons_zero, List.set_cons_succ]
  refine wpAnyHI_take (i := 1) (v := ?_) rfl (gatL (gatS gatZ)) (by kernel_rfl) (by kernel_rfl) (by kernel_rfl) (fun _ _ _ h => h) (Or.inl ⟨by rfl, ?_⟩) (fun _ => by rfl) (by assumption) ?_
  rotate_left
  · intro w hSw
    try dsimp only at hSw
    go_simp
    all_goals with_reducible rfl
  try simp only [Act.put, List.setIfInBounds_toArray, List.set_cons_zero, List.set_cons_succ]
  refine wpAnyHI_take (i := 2) (v := ?_) rfl (gatL (gatS (gatS gatZ))) (by kernel_rfl) (by kernel_rfl) (by kernel_rfl) (fun _ _ _ h => h) (Or.inl ⟨by rfl, ?_⟩) (fun _ => by rfl) (by assumption) ?_
  rotate_left
  · intro w hSw
    try dsimp only at hSw
    go_simp
    all_goals with_reducible rfl
  try simp only [Act.put, List.setIfInBounds_toArray, List.set_cons_zero, List.set_cons_succ]
  refine wpAnyHI_take (i := 3) (v := ?_) rfl (gatL (gatS (gatS (gatS gatZ)))) (by kernel_rfl) (by kernel_rfl) (by kernel_rfl) (fun _ _ _ h => h) (Or.inl ⟨by rfl, ?_⟩) (fun _ => by rfl) (by assumption) ?_
  rotate_left
  · intro w hSw
    try dsimp only at hSw
    go_simp
    all_goals with_reducible rfl
  try simp only [Act.put, List.setIfInBounds_toArray, List.set_cons_zero, List.set_cons_succ]
  refine wpAnyHI_take (i := 4) (v := ?_) rfl (gatL (gatS (gatS (gatS (gatS gatZ))))) (by kernel_rfl) (by kernel_rfl) (by kernel_rfl) (fun _ _ _ h => h) (Or.inl ⟨by rfl, ?_⟩) (fun _ => by rfl) (by assumption) ?_
  rotate_left
  · intro w hSw
    try dsimp only at hSw
    go_simp
    all_goals with_reducible rfl
  try simp only [Act.put, List.setIfInBounds_toArray, List.set_cons_zero, List.set_cons_succ]
  refine wpAnyHI_take (i := 5) (v := ?_) rfl (gatL (gatS (gatS (gatS (gatS (gatS gatZ)))))) (by kernel_rfl) (by kernel_rfl) (by kernel_rfl) (fun _ _ _ h => h) (Or.inl ⟨by rfl, ?_⟩) (fun _ => by rfl) (by assumption) ?_
  rotate_left
  · intro w hSw
    try dsimp only at hSw
    go_simp
    all_goals with_reducible rfl
  try simp only [Act.put, List.setIfInBounds_toArray, List.set_cons_zero, List.set_cons_succ]
  refine wpAnyHI_take (i := 6) (v := ?_) rfl (gatL (gatS (gatS (gatS (gatS (gatS (gatS gatZ))))))) (by kernel_rfl) (by kernel_rfl) (by kernel_rfl) (fun _ _ _ h => h) (Or.inl ⟨by rfl, ?_⟩) (fun _ => by rfl) (by assumption) ?_
  rotate_left
  · intro w hSw
    try dsimp only at hSw
    go_simp
    all_goals with_reducible rfl
  try simp only [Act.put, List.setIfInBounds_toArray, List.set_cons_zero, List.set_cons_succ]
  refine wpAnyHI_take (i := 7) (v := ?_) rfl (gatL (gatS (gatS (gatS (gatS (gatS (gatS (gatS gatZ)))))))) (by kernel_rfl) (by kernel_rfl) (by kernel_rfl) (fun _ _ _ h => h) (Or.inl ⟨by rfl, ?_⟩) (fun _ => by rfl) (by assumption) ?_
  rotate_left
  · intro w hSw
    try dsimp only at hSw
    go_simp
    all_goals with_reducible rfl
  try simp only [Act.put, List.setIfInBounds_toArray, List.set_cons_zero, List.set_cons_succ]
  refine wpAnyHI_done (by kernel_rfl) ?_ _
  gi_wp2_with (fail)
  have HKd := Lib.hid (hKB _ _ HK.out (Below.refl _ _).drew)
  have Hjd := Lib.hid (hJ _ W W.drew none h0 (gbD (World.grownBy.refl W _)) (fun r e => by cases e))
  gi_loopg [5] M (fun g o wr => ∃ (k : Nat) (pre : List Int), k = g ∧ k ≤ M ∧ o = .int .i64 (lastE x.es (s : Int) k) ∧ K wr ∧ J pre wr ∧ pre ++ behE x.es Pr (s : Int) k = behE x.es Pr (s : Int) x.es.length)
  case atStart => exact ⟨M, [], rfl, Nat.le_refl _, by rw [hX.out], HKd.out, Hjd.out, by rw [hMM.out]; rfl⟩
  case round =>
    obtain ⟨k, pre, rfl, hk, rfl, hKr, hj, hall⟩ := hrel
    have hlo := lastE_lo x.es (s : Int) k
    obtain ⟨Y, hY0⟩ : ∃ Y, Hid (lastE x.es (s : Int) k = Y) := ⟨_, Lib.hid rfl⟩
    rw [hY0.out] at hlo ⊢
    by_cases hm : Y = -1
    · subst hm
      have HALL : Hid (pre = behE x.es Pr (s : Int) x.es.length) := Lib.hid (by rw [← hall, behE_none _ _ _ _ hY0.out, List.append_nil])
      have HJ := Lib.hid hj
      clear hall hj
      gi_wp2_with (fail)
      go_end0
      exact ⟨⟨_, rfl⟩, pre, HALL.out, HJ.out⟩
    · obtain ⟨i, rfl⟩ : ∃ i : Nat, Y = (i : Int) := ⟨Y.toNat, by omega⟩
      have hik : i < k := by omega
      have hiM : i < x.es.length := by rw [hMM.out]; omega
      have hbs := behE_some x.es Pr (s : Int) k i hY0.out
      have hnx : Hid (nextE x.es i = lastE x.es (s : Int) i) := Lib.hid (by unfold nextE; rw [lastE_f x.es (s : Int) k i hY0.out])
      obtain ⟨e, he⟩ : ∃ e, Hid (egAt x.es i = e) := ⟨_, Lib.hid rfl⟩
      rw [he.out] at hbs
      rw [hbs] at hall
      obtain ⟨b, off, hga⟩ := (hK _ hKr).es.at_ i hiM
      subst hga
      have hKd2 := hKB _ _ hKr (Below.refl _ _).drew
      obtain ⟨ce0, ce1, sa, sc, ce2, hsp⟩ := (hK _ hKd2).es.cell b off rfl i hiM
      rw [← egAt_eq hiM, he.out] at ce0 ce1 ce2 hsp
      have HE0 := Lib.hid (And.intro ce0 (And.intro ce1 ce2))
      have HSpd := Lib.hid hsp
      have HKd2 := Lib.hid hKd2
      have Hjd2 := Lib.hid (hJ _ wr wr.drew none hj (gbD (World.grownBy.refl wr _)) (fun r e => by cases e))
      have HS3 : Hid (∀ W, K W → (W.cell? ⟨bW, 0, none⟩ = some (.pointer (some ⟨wb, 0, none⟩)) ∧ W.cell? ⟨bC, 0, none⟩ = some (.func (.func 73) #[] #[]) ∧ W.cell? ⟨wb, 0, none⟩ = some (.slice (some ⟨b, off, none⟩) M gc) ∧ W.cell? ⟨wb, 2, none⟩ = some (.slice (some ⟨nb, 0, none⟩) M M) ∧ W.cell? ⟨nb, i, none⟩ = some (.int .i64 (nextE x.es i)) ∧ W.cell? ⟨b, off + i * 3 + 1, none⟩ = some (.int .i64 e.t))) := Lib.hid (fun W h => ⟨(hK W h).cw, (hK W h).cc, by have := (hK W h).b0; rw [hMM.out] at this; exact this, by have := (hK W h).b2; rw [hMM.out] at this; exact this, (hK W h).next i hiM, by have := ((hK W h).es.cell b off rfl i hiM).2.1; rw [← egAt_eq hiM, he.out] at this; exact this⟩)
      have hlm := And.intro (hK wr hKr).es.le (hK wr hKr).es.max
      rw [hMM.out] at hlm hiM
      have hiMI : (i : Int) < (M : Int) := by omega
      have hiI0 : (0 : Int) ≤ (i : Int) := by omega
      have hiI1 : ¬ (i : Int) = -1 := by omega
      have hbl := World.block_lt_of_cell? _ _ ce0
      clear ce0 ce1 ce2 hsp hKd2 hKr hj hbs hKw h0 hlo hm
      obtain ⟨B, hPe⟩ : ∃ B, Hid (Pr e = B) := ⟨_, Lib.hid rfl⟩
      cases B
      case true =>
        rw [hPe.out, if_pos rfl] at hall
        have hgd : BGood x Pr s (pre ++ [e.t]) := ⟨behE x.es Pr (s : Int) i, by rw [← hall, List.append_assoc]⟩
        have HYw := Lib.hid (fun W1 (h : J pre W1) => hY pre e.t W1 h hgd)
        have Hall := Lib.hid (show (pre ++ [e.t]) ++ behE x.es Pr (s : Int) i = behE x.es Pr (s : Int) x.es.length by rw [← hall, List.append_assoc])
        clear hall hgd
        gi_wp2_with (fail)
        refine wpIn_region_held_drew (S := fun w' => (w'.cell? ⟨bW, 0, none⟩ = some (.pointer (some ⟨wb, 0, none⟩)) ∧ w'.cell? ⟨bC, 0, none⟩ = some (.func (.func 73) #[] #[]) ∧ w'.cell? ⟨wb, 0, none⟩ = some (.slice (some ⟨b, off, none⟩) M gc) ∧ w'.cell? ⟨wb, 2, none⟩ = some (.slice (some ⟨nb, 0, none⟩) M M) ∧ w'.cell? ⟨nb, i, none⟩ = some (.int .i64 (nextE x.es i)) ∧ w'.cell? ⟨b, off + i * 3 + 1, none⟩ = some (.int .i64 e.t))) (by kernel_rfl) ?_ (fun hHeld => ?_)
        · exact HS3.out _ HKd2.out
        refine wpAnyHI_take (i := 0) (v := ?_) rfl (gatL gatZ) (by kernel_rfl) (by kernel_rfl) (by kernel_rfl) (fun _ _ _ h => h) (Or.inl ⟨by rfl, ?_⟩) (fun _ => by rfl) (by assumption) ?_
        rotate_left
        · intro w hSw
          try dsimp only at hSw
          go_simp
          all_goals with_reducible rfl
        try simp only [Act.put, List.setIfInBounds_toArray, List.set_cons_zero, List.set_cons_succ]
        refine wpAnyHI_take (i := 1) (v := ?_) rfl (gatL (gatS gatZ)) (by kernel_rfl) (by kernel_rfl) (by kernel_rfl) (fun _ _ _ h => h) (Or.inl ⟨by rfl, ?_⟩) (fun _ => by rfl) (by assumption) ?_
        rotate_left
        · intro w hSw
          try dsimp only at hSw
          go_simp
          all_goals with_reducible rfl
        try simp only [Act.put, List.setIfInBounds_toArray, List.set_cons_zero, List.set_cons_succ]
        refine wpAnyHI_take (i := 2) (v := ?_) rfl (gatL (gatS (gatS gatZ))) (by kernel_rfl) (by kernel_rfl) (by kernel_rfl) (fun _ _ _ h => h) (Or.inl ⟨by rfl, ?_⟩) (fun _ => by rfl) (by assumption) ?_
        rotate_left
        · intro w hSw
          try dsimp only at hSw
          go_simp
          all_goals with_reducible rfl
        try simp only [Act.put, List.setIfInBounds_toArray, List.set_cons_zero, List.set_cons_succ]
        refine wpAnyHI_take (i := 3) (v := ?_) rfl (gatL (gatS (gatS (gatS gatZ)))) (by kernel_rfl) (by kernel_rfl) (by kernel_rfl) (fun _ _ _ h => h) (Or.inl ⟨by rfl, ?_⟩) (fun _ => by rfl) (by assumption) ?_
        rotate_left
        · intro w hSw
          try dsimp only at hSw
          go_simp
          all_goals with_reducible rfl
        try simp only [Act.put, List.setIfInBounds_toArray, List.set_cons_zero, List.set_cons_succ]
        refine wpAnyHI_take (i := 4) (v := ?_) rfl (gatL (gatS (gatS (gatS (gatS gatZ))))) (by kernel_rfl) (by kernel_rfl) (by kernel_rfl) (fun _ _ _ h => h) (Or.inl ⟨by rfl, ?_⟩) (fun _ => by rfl) (by assumption) ?_
        rotate_left
        · intro w hSw
          try dsimp only at hSw
          go_simp
          all_goals with_reducible rfl
        try simp only [Act.put, List.setIfInBounds_toArray, List.set_cons_zero, List.set_cons_succ]
        refine wpAnyHI_take (i := 5) (v := ?_) rfl (gatL (gatS (gatS (gatS (gatS (gatS gatZ)))))) (by kernel_rfl) (by kernel_rfl) (by kernel_rfl) (fun _ _ _ h => h) (Or.inl ⟨by rfl, ?_⟩) (fun _ => by rfl) (by assumption) ?_
        rotate_left
        · intro w hSw
          try dsimp only at hSw
          go_simp
          all_goals with_reducible rfl
        try simp only [Act.put, List.setIfInBounds_toArray, List.set_cons_zero, List.set_cons_succ]
        refine wpAnyHI_take (i := 6) (v := ?_) rfl (gatL (gatS (gatS (gatS (gatS (gatS (gatS gatZ))))))) (by kernel_rfl) (by kernel_rfl) (by kernel_rfl) (fun _ _ _ h => h) (Or.inl ⟨by rfl, ?_⟩) (fun _ => by rfl) (by assumption) ?_
        rotate_left
        · intro w hSw
          try dsimp only at hSw
          go_simp
          all_goals with_reducible rfl
        try simp only [Act.put, List.setIfInBounds_toArray, List.set_cons_zero, List.set_cons_succ]
        refine wpAnyHI_ready (rs := [7]) (by kernel_rfl) (by simp) ?_
        refine AllReadyHI.cons (gatL (gatS (gatS (gatS (gatS (gatS (gatS (gatS gatZ)))))))) (fun K hK => ?_) AllReadyHI.nil
        have ce0 := HE0.out.1
        have ce1 := HE0.out.2.1
        have ce2 := HE0.out.2.2
        go_simp
        clear ce0 ce1 ce2
        refine hK.out _ _ ?_ (fun hHeld => ?_)
        · exact HS3.out _ HKd2.out
        clear hK K
        try simp only [Act.put, List.setIfInBounds_toArray, List.set_cons_zero, List.set_cons_succ]
        refine wpAnyHI_ready (rs := [8]) (by kernel_rfl) (by simp) ?_
        refine AllReadyHI.cons (gatL (gatS (gatS (gatS (gatS (gatS (gatS (gatS (gatS gatZ))))))))) (fun K hK => ?_) AllReadyHI.nil
        go_simp
        refine ⟨trivial, rfl, ((callsIn_wide (n := 0)).2 (hKc _ e sa sc HKd2.out HSpd.out)).mono ?_⟩
        rintro r w3 ⟨rfl, hb3⟩
        have HK3 := Lib.hid (hKB _ _ HKd2.out hb3)
        have Hj3 := Lib.hid (hJ _ _ w3 none Hjd2.out (below_grownBy hb3 none) (fun r e => by cases e))
        clear hb3
        dsimp only
        rw [hPe.out]
        refine hK.out _ _ ?_ (fun hHeld => ?_)
        · exact HS3.out _ HK3.out
        clear hK K
        try simp only [Act.put, List.setIfInBounds_toArray, List.set_cons_zero, List.set_cons_succ]
        refine wpAnyHI_take (i := 9) (v := ?_) rfl (gatL (gatS (gatS (gatS (gatS (gatS (gatS (gatS (gatS (gatS gatZ)))))))))) (by kernel_rfl) (by kernel_rfl) (by kernel_rfl) (fun _ _ _ h => h) (Or.inl ⟨by rfl, ?_⟩) (fun _ => by rfl) (by assumption) ?_
        rotate_left
        · intro w hSw
          try dsimp only at hSw
          go_simp
          all_goals with_reducible rfl
        try simp only [Act.put, List.setIfInBounds_toArray, List.set_cons_zero, List.set_cons_succ]
        refine wpAnyHI_take (i := 10) (v := ?_) rfl (gatL (gatS (gatS (gatS (gatS (gatS (gatS (gatS (gatS (gatS (gatS gatZ))))))))))) (by kernel_rfl) (by kernel_rfl) (by kernel_rfl) (fun _ _ _ h => h) (Or.inl ⟨by rfl, ?_⟩) (fun _ => by rfl) (by assumption) ?_
        rotate_left
        · intro w hSw
          try dsimp only at hSw
          go_simp
          all_goals with_reducible rfl
        try simp only [Act.put, List.setIfInBounds_toArray, List.set_cons_zero, List.set_cons_succ]
        refine wpAnyHI_take (i := 11) (v := ?_) rfl (gatL (gatS (gatS (gatS (gatS (gatS (gatS (gatS (gatS (gatS (gatS (gatS gatZ)))))))))))) (by kernel_rfl) (by kernel_rfl) (by kernel_rfl) (fun _ _ _ h => h) (Or.inl ⟨by rfl, ?_⟩) (fun _ => by rfl) (by assumption) ?_
        rotate_left
        · intro w hSw
          try dsimp only at hSw
          go_simp
          all_goals with_reducible rfl
        try simp only [Act.put, List.setIfInBounds_toArray, List.set_cons_zero, List.set_cons_succ]
        refine wpAnyHI_take (i := 12) (v := ?_) rfl (gatL (gatS (gatS (gatS (gatS (gatS (gatS (gatS (gatS (gatS (gatS (gatS (gatS gatZ))))))))))))) (by kernel_rfl) (by kernel_rfl) (by kernel_rfl) (fun _ _ _ h => h) (Or.inl ⟨by rfl, ?_⟩) (fun _ => by rfl) (by assumption) ?_
        rotate_left
        · intro w hSw
          try dsimp only at hSw
          go_simp
          all_goals with_reducible rfl
        try simp only [Act.put, List.setIfInBounds_toArray, List.set_cons_zero, List.set_cons_succ]
        refine wpAnyHI_take (i := 13) (v := ?_) rfl (gatL (gatS (gatS (gatS (gatS (gatS (gatS (gatS (gatS (gatS (gatS (gatS (gatS (gatS gatZ)))))))))))))) (by kernel_rfl) (by kernel_rfl) (by kernel_rfl) (fun _ _ _ h => h) (Or.inl ⟨by rfl, ?_⟩) (fun _ => by rfl) (by assumption) ?_
        rotate_left
        · intro w hSw
          try dsimp only at hSw
          go_simp
          all_goals with_reducible rfl
        try simp only [Act.put, List.setIfInBounds_toArray, List.set_cons_zero, List.set_cons_succ]
        refine wpAnyHI_take (i := 14) (v := ?_) rfl (gatL (gatS (gatS (gatS (gatS (gatS (gatS (gatS (gatS (gatS (gatS (gatS (gatS (gatS (gatS gatZ))))))))))))))) (by kernel_rfl) (by kernel_rfl) (by kernel_rfl) (fun _ _ _ h => h) (Or.inl ⟨by rfl, ?_⟩) (fun _ => by rfl) (by assumption) ?_
        rotate_left
        · intro w hSw
          try dsimp only at hSw
          go_simp
          all_goals with_reducible rfl
        try simp only [Act.put, List.setIfInBounds_toArray, List.set_cons_zero, List.set_cons_succ]
        refine wpAnyHI_take (i := 15) (v := ?_) rfl (gatL (gatS (gatS (gatS (gatS (gatS (gatS (gatS (gatS (gatS (gatS (gatS (gatS (gatS (gatS (gatS gatZ)))))))))))))))) (by kernel_rfl) (by kernel_rfl) (by kernel_rfl) (fun _ _ _ h => h) (Or.inl ⟨by rfl, ?_⟩) (fun _ => by rfl) (by assumption) ?_
        rotate_left
        · intro w hSw
          try dsimp only at hSw
          go_simp
          all_goals with_reducible rfl
        try simp only [Act.put, List.setIfInBounds_toArray, List.set_cons_zero, List.set_cons_succ]
        refine wpAnyHI_take (i := 16) (v := ?_) rfl (gatL (gatS (gatS (gatS (gatS (gatS (gatS (gatS (gatS (gatS (gatS (gatS (gatS (gatS (gatS (gatS (gatS gatZ))))))))))))))))) (by kernel_rfl) (by kernel_rfl) (by kernel_rfl) (fun _ _ _ h => h) (Or.inl ⟨by rfl, ?_⟩) (fun _ => by rfl) (by assumption) ?_
        rotate_left
        · intro w hSw
          try dsimp only at hSw
          go_simp
          all_goals with_reducible rfl
        try simp only [Act.put, List.setIfInBounds_toArray, List.set_cons_zero, List.set_cons_succ]
        refine wpAnyHI_take (i := 17) (v := ?_) rfl (gatL (gatS (gatS (gatS (gatS (gatS (gatS (gatS (gatS (gatS (gatS (gatS (gatS (gatS (gatS (gatS (gatS (gatS gatZ)))))))))))))))))) (by kernel_rfl) (by kernel_rfl) (by kernel_rfl) (fun _ _ _ h => h) (Or.inl ⟨by rfl, ?_⟩) (fun _ => by rfl) (by assumption) ?_
        rotate_left
        · intro w hSw
          try dsimp only at hSw
          go_simp
          all_goals with_reducible rfl
        try simp only [Act.put, List.setIfInBounds_toArray, List.set_cons_zero, List.set_cons_succ]
        refine wpAnyHI_take (i := 18) (v := ?_) rfl (gatL (gatS (gatS (gatS (gatS (gatS (gatS (gatS (gatS (gatS (gatS (gatS (gatS (gatS (gatS (gatS (gatS (gatS (gatS gatZ))))))))))))))))))) (by kernel_rfl) (by kernel_rfl) (by kernel_rfl) (fun _ _ _ h => h) (Or.inl ⟨by rfl, ?_⟩) (fun _ => by rfl) (by assumption) ?_
        rotate_left
        · intro w hSw
          try dsimp only at hSw
          go_simp
          all_goals with_reducible rfl
        try simp only [Act.put, List.setIfInBounds_toArray, List.set_cons_zero, List.set_cons_succ]
        refine wpAnyHI_ready (rs := [19]) (by kernel_rfl) (by simp) ?_
        refine AllReadyHI.cons (gatL (gatS (gatS (gatS (gatS (gatS (gatS (gatS (gatS (gatS (gatS (gatS (gatS (gatS (gatS (gatS (gatS (gatS (gatS (gatS gatZ)))))))))))))))))))) (fun K hK => ?_) AllReadyHI.nil
        obtain ⟨fn, tmps, assign, body, hy, hR⟩ := HYw.out w3 Hj3.out
        have HRr := Lib.hid hR
        clear hR
        dsimp only [encI] at hy
        go_simp
        refine ⟨rfl, HRr.out.mono ?_⟩
        rintro r w4 ⟨rfl, hj4, hf4⟩
        have HK4 := Lib.hid (hKF _ _ HK3.out hf4)
        have Hj4 := Lib.hid hj4
        clear hj4 hf4
        dsimp only
        refine hK.out _ _ ?_ (fun hHeld => ?_)
        · exact HS3.out _ HK4.out
        clear hK K
        try simp only [Act.put, List.setIfInBounds_toArray, List.set_cons_zero, List.set_cons_succ]
        refine wpAnyHI_take (i := 20) (v := ?_) rfl (gatL (gatS (gatS (gatS (gatS (gatS (gatS (gatS (gatS (gatS (gatS (gatS (gatS (gatS (gatS (gatS (gatS (gatS (gatS (gatS (gatS gatZ))))))))))))))))))))) (by kernel_rfl) (by kernel_rfl) (by kernel_rfl) (fun _ _ _ h => h) (Or.inl ⟨by rfl, ?_⟩) (fun _ => by rfl) (by assumption) ?_
        rotate_left
        · intro w hSw
          try dsimp only at hSw
          go_simp
          all_goals with_reducible rfl
        try simp only [Act.put, List.setIfInBounds_toArray, List.set_cons_zero, List.set_cons_succ]
        refine wpAnyHI_take (i := 21) (v := ?_) rfl (gatL (gatS (gatS (gatS (gatS (gatS (gatS (gatS (gatS (gatS (gatS (gatS (gatS (gatS (gatS (gatS (gatS (gatS (gatS (gatS (gatS (gatS gatZ)))))))))))))))))))))) (by kernel_rfl) (by kernel_rfl) (by kernel_rfl) (fun _ _ _ h => h) (Or.inl ⟨by rfl, ?_⟩) (fun _ => by rfl) (by assumption) ?_
        rotate_left
        · intro w hSw
          try dsimp only at hSw
          go_simp
          all_goals with_reducible rfl
        try simp only [Act.put, List.setIfInBounds_toArray, List.set_cons_zero, List.set_cons_succ]
        refine wpAnyHI_done (by kernel_rfl) ?_ _
        obtain ⟨q0, q1, q2, q3, q4, _⟩ := HS3.out _ HK4.out
        gi_wp2_with (fail)
        gi_roundg i
        case measure => omega
        case rel => exact ⟨i, pre ++ [e.t], rfl, by omega, by rw [hnx.out], HK4.out, Hj4.out, Hall.out⟩
      case false =>
        rw [hPe.out, if_neg (by simp), List.nil_append] at hall
        have Hall := Lib.hid hall
        clear hall
        gi_wp2_with (fail)
        refine wpIn_region_held_drew (S := fun w' => (w'.cell? ⟨bW, 0, none⟩ = some (.pointer (some ⟨wb, 0, none⟩)) ∧ w'.cell? ⟨bC, 0, none⟩ = some (.func (.func 73) #[] #[]) ∧ w'.cell? ⟨wb, 0, none⟩ = some (.slice (some ⟨b, off, none⟩) M gc) ∧ w'.cell? ⟨wb, 2, none⟩ = some (.slice (some ⟨nb, 0, none⟩) M M) ∧ w'.cell? ⟨nb, i, none⟩ = some (.int .i64 (nextE x.es i)) ∧ w'.cell? ⟨b, off + i * 3 + 1, none⟩ = some (.int .i64 e.t))) (by kernel_rfl) ?_ (fun hHeld => ?_)
        · exact HS3.out _ HKd2.out
        refine wpAnyHI_take (i := 0) (v := ?_) rfl (gatL gatZ) (by kernel_rfl) (by kernel_rfl) (by kernel_rfl) (fun _ _ _ h => h) (Or.inl ⟨by rfl, ?_⟩) (fun _ => by rfl) (by assumption) ?_
        rotate_left
        · intro w hSw
          try dsimp only at hSw
          go_simp
          all_goals with_reducible rfl
        try simp only [Act.put, List.setIfInBounds_toArray, List.set_cons_zero, List.set_cons_succ]
        refine wpAnyHI_take (i := 1) (v := ?_) rfl (gatL (gatS gatZ)) (by kernel_rfl) (by kernel_rfl) (by kernel_rfl) (fun _ _ _ h => h) (Or.inl ⟨by rfl, ?_⟩) (fun _ => by rfl) (by assumption) ?_
        rotate_left
        · intro w hSw
          try dsimp only at hSw
          go_simp
          all_goals with_reducible rfl
        try simp only [Act.put, List.setIfInBounds_toArray, List.set_cons_zero, List.set_cons_succ]
        refine wpAnyHI_take (i := 2) (v := ?_) rfl (gatL (gatS (gatS gatZ))) (by kernel_rfl) (by kernel_rfl) (by kernel_rfl) (fun _ _ _ h => h) (Or.inl ⟨by rfl, ?_⟩) (fun _ => by rfl) (by assumption) ?_
        rotate_left
        · intro w hSw
          try dsimp only at hSw
          go_simp
          all_goals with_reducible rfl
        try simp only [Act.put, List.setIfInBounds_toArray, List.set_cons_zero, List.set_cons_succ]
        refine wpAnyHI_take (i := 3) (v := ?_) rfl (gatL (gatS (gatS (gatS gatZ)))) (by kernel_rfl) (by kernel_rfl) (by kernel_rfl) (fun _ _ _ h => h) (Or.inl ⟨by rfl, ?_⟩) (fun _ => by rfl) (by assumption) ?_
        rotate_left
        · intro w hSw
          try dsimp only at hSw
          go_simp
          all_goals with_reducible rfl
        try simp only [Act.put, List.setIfInBounds_toArray, List.set_cons_zero, List.set_cons_succ]
        refine wpAnyHI_take (i := 4) (v := ?_) rfl (gatL (gatS (gatS (gatS (gatS gatZ))))) (by kernel_rfl) (by kernel_rfl) (by kernel_rfl) (fun _ _ _ h => h) (Or.inl ⟨by rfl, ?_⟩) (fun _ => by rfl) (by assumption) ?_
        rotate_left
        · intro w hSw
          try dsimp only at hSw
          go_simp
          all_goals with_reducible rfl
        try simp only [Act.put, List.setIfInBounds_toArray, List.set_cons_zero, List.set_cons_succ]
        refine wpAnyHI_take (i := 5) (v := ?_) rfl (gatL (gatS (gatS (gatS (gatS (gatS gatZ)))))) (by kernel_rfl) (by kernel_rfl) (by kernel_rfl) (fun _ _ _ h => h) (Or.inl ⟨by rfl, ?_⟩) (fun _ => by rfl) (by assumption) ?_
        rotate_left
        · intro w hSw
          try dsimp only at hSw
          go_simp
          all_goals with_reducible rfl
        try simp only [Act.put, List.setIfInBounds_toArray, List.set_cons_zero, List.set_cons_succ]
        refine wpAnyHI_take (i := 6) (v := ?_) rfl (gatL (gatS (gatS (gatS (gatS (gatS (gatS gatZ))))))) (by kernel_rfl) (by kernel_rfl) (by kernel_rfl) (fun _ _ _ h => h) (Or.inl ⟨by rfl, ?_⟩) (fun _ => by rfl) (by assumption) ?_
        rotate_left
        · intro w hSw
          try dsimp only at hSw
          go_simp
          all_goals with_reducible rfl
        try simp only [Act.put, List.setIfInBounds_toArray, List.set_cons_zero, List.set_cons_succ]
        refine wpAnyHI_ready (rs := [7]) (by kernel_rfl) (by simp) ?_
        refine AllReadyHI.cons (gatL (gatS (gatS (gatS (gatS (gatS (gatS (gatS gatZ)))))))) (fun K hK => ?_) AllReadyHI.nil
        have ce0 := HE0.out.1
        have ce1 := HE0.out.2.1
        have ce2 := HE0.out.2.2
        go_simp
        clear ce0 ce1 ce2
        refine hK.out _ _ ?_ (fun hHeld => ?_)
        · exact HS3.out _ HKd2.out
        clear hK K
        try simp only [Act.put, List.setIfInBounds_toArray, List.set_cons_zero, List.set_cons_succ]
        refine wpAnyHI_ready (rs := [8]) (by kernel_rfl) (by simp) ?_
        refine AllReadyHI.cons (gatL (gatS (gatS (gatS (gatS (gatS (gatS (gatS (gatS gatZ))))))))) (fun K hK => ?_) AllReadyHI.nil
        go_simp
        refine ⟨trivial, rfl, ((callsIn_wide (n := 0)).2 (hKc _ e sa sc HKd2.out HSpd.out)).mono ?_⟩
        rintro r w3 ⟨rfl, hb3⟩
        have HK3 := Lib.hid (hKB _ _ HKd2.out hb3)
        have Hj3 := Lib.hid (hJ _ _ w3 none Hjd2.out (below_grownBy hb3 none) (fun r e => by cases e))
        clear hb3
        dsimp only
        rw [hPe.out]
        refine hK.out _ _ ?_ (fun hHeld => ?_)
        · exact HS3.out _ HK3.out
        clear hK K
        try simp only [Act.put, List.setIfInBounds_toArray, List.set_cons_zero, List.set_cons_succ]
        refine wpAnyHI_take (i := 9) (v := ?_) rfl (gatL (gatS (gatS (gatS (gatS (gatS (gatS (gatS (gatS (gatS gatZ)))))))))) (by kernel_rfl) (by kernel_rfl) (by kernel_rfl) (fun _ _ _ h => h) (Or.inl ⟨by rfl, ?_⟩) (fun _ => by rfl) (by assumption) ?_
        rotate_left
        · intro w hSw
          try dsimp only at hSw
          go_simp
          all_goals with_reducible rfl
        try simp only [Act.put, List.setIfInBounds_toArray, List.set_cons_zero, List.set_cons_succ]
        refine wpAnyHI_take (i := 10) (v := undef) rfl (gatL (gatS (gatS (gatS (gatS (gatS (gatS (gatS (gatS (gatS (gatS gatZ))))))))))) (by kernel_rfl) (by kernel_rfl) (by kernel_rfl) (fun _ _ _ h => h) (Or.inr ⟨by rfl, rfl⟩) (fun _ => by rfl) (by assumption) ?_
        try simp only [Act.put, List.setIfInBounds_toArray, List.set_cons_zero, List.set_cons_succ]
        refine wpAnyHI_take (i := 11) (v := undef) rfl (gatL (gatS (gatS (gatS (gatS (gatS (gatS (gatS (gatS (gatS (gatS (gatS gatZ)))))))))))) (by kernel_rfl) (by kernel_rfl) (by kernel_rfl) (fun _ _ _ h => h) (Or.inr ⟨by rfl, rfl⟩) (fun _ => by rfl) (by assumption) ?_
        try simp only [Act.put, List.setIfInBounds_toArray, List.set_cons_zero, List.set_cons_succ]
        refine wpAnyHI_take (i := 12) (v := undef) rfl (gatL (gatS (gatS (gatS (gatS (gatS (gatS (gatS (gatS (gatS (gatS (gatS (gatS gatZ))))))))))))) (by kernel_rfl) (by kernel_rfl) (by kernel_rfl) (fun _ _ _ h => h) (Or.inr ⟨by rfl, rfl⟩) (fun _ => by rfl) (by assumption) ?_
        try simp only [Act.put, List.setIfInBounds_toArray, List.set_cons_zero, List.set_cons_succ]
        refine wpAnyHI_take (i := 13) (v := undef) rfl (gatL (gatS (gatS (gatS (gatS (gatS (gatS (gatS (gatS (gatS (gatS (gatS (gatS (gatS gatZ)))))))))))))) (by kernel_rfl) (by kernel_rfl) (by kernel_rfl) (fun _ _ _ h => h) (Or.inr ⟨by rfl, rfl⟩) (fun _ => by rfl) (by assumption) ?_
        try simp only [Act.put, List.setIfInBounds_toArray, List.set_cons_zero, List.set_cons_succ]
        refine wpAnyHI_take (i := 14) (v := undef) rfl (gatL (gatS (gatS (gatS (gatS (gatS (gatS (gatS (gatS (gatS (gatS (gatS (gatS (gatS (gatS gatZ))))))))))))))) (by kernel_rfl) (by kernel_rfl) (by kernel_rfl) (fun _ _ _ h => h) (Or.inr ⟨by rfl, rfl⟩) (fun _ => by rfl) (by assumption) ?_
        try simp only [Act.put, List.setIfInBounds_toArray, List.set_cons_zero, List.set_cons_succ]
        refine wpAnyHI_take (i := 15) (v := undef) rfl (gatL (gatS (gatS (gatS (gatS (gatS (gatS (gatS (gatS (gatS (gatS (gatS (gatS (gatS (gatS (gatS gatZ)))))))))))))))) (by kernel_rfl) (by kernel_rfl) (by kernel_rfl) (fun _ _ _ h => h) (Or.inr ⟨by rfl, rfl⟩) (fun _ => by rfl) (by assumption) ?_
        try simp only [Act.put, List.setIfInBounds_toArray, List.set_cons_zero, List.set_cons_succ]
        refine wpAnyHI_take (i := 16) (v := undef) rfl (gatL (gatS (gatS (gatS (gatS (gatS (gatS (gatS (gatS (gatS (gatS (gatS (gatS (gatS (gatS (gatS (gatS gatZ))))))))))))))))) (by kernel_rfl) (by kernel_rfl) (by kernel_rfl) (fun _ _ _ h => h) (Or.inr ⟨by rfl, rfl⟩) (fun _ => by rfl) (by assumption) ?_
        try simp only [Act.put, List.setIfInBounds_toArray, List.set_cons_zero, List.set_cons_succ]
        refine wpAnyHI_take (i := 17) (v := undef) rfl (gatL (gatS (gatS (gatS (gatS (gatS (gatS (gatS (gatS (gatS (gatS (gatS (gatS (gatS (gatS (gatS (gatS (gatS gatZ)))))))))))))))))) (by kernel_rfl) (by kernel_rfl) (by kernel_rfl) (fun _ _ _ h => h) (Or.inr ⟨by rfl, rfl⟩) (fun _ => by rfl) (by assumption) ?_
        try simp only [Act.put, List.setIfInBounds_toArray, List.set_cons_zero, List.set_cons_succ]
        refine wpAnyHI_take (i := 18) (v := undef) rfl (gatL (gatS (gatS (gatS (gatS (gatS (gatS (gatS (gatS (gatS (gatS (gatS (gatS (gatS (gatS (gatS (gatS (gatS (gatS gatZ))))))))))))))))))) (by kernel_rfl) (by kernel_rfl) (by kernel_rfl) (fun _ _ _ h => h) (Or.inr ⟨by rfl, rfl⟩) (fun _ => by rfl) (by assumption) ?_
        try simp only [Act.put, List.setIfInBounds_toArray, List.set_cons_zero, List.set_cons_succ]
        refine wpAnyHI_take (i := 19) (v := undef) rfl (gatL (gatS (gatS (gatS (gatS (gatS (gatS (gatS (gatS (gatS (gatS (gatS (gatS (gatS (gatS (gatS (gatS (gatS (gatS (gatS gatZ)))))))))))))))))))) (by kernel_rfl) (by kernel_rfl) (by kernel_rfl) (fun _ _ _ h => h) (Or.inr ⟨by rfl, rfl⟩) (fun _ => by rfl) (by assumption) ?_
        try simp only [Act.put, List.setIfInBounds_toArray, List.set_cons_zero, List.set_cons_succ]
        refine wpAnyHI_take (i := 20) (v := undef) rfl (gatL (gatS (gatS (gatS (gatS (gatS (gatS (gatS (gatS (gatS (gatS (gatS (gatS (gatS (gatS (gatS (gatS (gatS (gatS (gatS (gatS gatZ))))))))))))))))))))) (by kernel_rfl) (by kernel_rfl) (by kernel_rfl) (fun _ _ _ h => h) (Or.inr ⟨by rfl, rfl⟩) (fun _ => by rfl) (by assumption) ?_
        try simp only [Act.put, List.setIfInBounds_toArray, List.set_cons_zero, List.set_cons_succ]
        refine wpAnyHI_take (i := 21) (v := ?_) rfl (gatL (gatS (gatS (gatS (gatS (gatS (gatS (gatS (gatS (gatS (gatS (gatS (gatS (gatS (gatS (gatS (gatS (gatS (gatS (gatS (gatS (gatS gatZ)))))))))))))))))))))) (by kernel_rfl) (by kernel_rfl) (by kernel_rfl) (fun _ _ _ h => h) (Or.inl ⟨by rfl, ?_⟩) (fun _ => by rfl) (by assumption) ?_
        rotate_left
        · intro w hSw
          try dsimp only at hSw
          go_simp
          all_goals with_reducible rfl
        try simp only [Act.put, List.setIfInBounds_toArray, List.set_cons_zero, List.set_cons_succ]
        refine wpAnyHI_done (by kernel_rfl) ?_ _
        obtain ⟨q0, q1, q2, q3, q4, _⟩ := HS3.out _ HK3.out
        gi_wp2_with (fail)
        gi_roundg i
        case measure => omega
        case rel => exact ⟨i, pre, rfl, by omega, by rw [hnx.out], HK3.out, Hj3.out, Hall.out⟩
end Go.Proofs.Ytngbfjimmdkfeaa

