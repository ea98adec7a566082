/- Texts joined: Wa Wb Jo. -/
import Derived.Test.YtldmgifphkpdlaaRHAp
import Derived.Test.YtldmgifphkpdlaaRHAf
import Derived.Test.YtldmgifphkpdlaaRHAo
import Derived.Test.YtldmgifphkpdlaaRHAj
import Derived.Test.YtldmgifphkpdlaaRHAn
set_option linter.unusedVariables false
set_option linter.unusedSimpArgs false
namespace Go.Proofs.Ytldmgifphkpdlaa
open Go.RowKit Go.Maps

attribute [local go_sem] Oper.semAt_some

set_option maxRecDepth 100000 in
set_option maxHeartbeats 16000000 in
theorem sameBools9_any (a b : Option Addr) (ac bc : Nat) (l m : List Bool) (w : World) (hl : Vs w a ac (l.map Value.bool)) (hm : Vs w b bc (m.map Value.bool)) :
    Calls Try.prog 15 #[.slice a l.length ac, .slice b m.length bc] w fun e w' => e = .returned (.bool (decide (l = m))) ∧ Below w.heap.size w w' := by
  have hle : l.length ≤ ac := by have := hl.le; rwa [List.length_map] at this
  have hmx := hl.max
  have hle2 : m.length ≤ bc := by have := hm.le; rwa [List.length_map] at this
  have hmx2 := hm.max
  obtain ⟨R, hR⟩ : ∃ R, Hid (decide (l = m) = R) := ⟨_, Lib.hid rfl⟩
  rw [hR.out]
  obtain ⟨L, HL⟩ : ∃ L, Hid (l.length = L) := ⟨_, Lib.hid rfl⟩
  obtain ⟨M, HM⟩ : ∃ L, Hid (m.length = L) := ⟨_, Lib.hid rfl⟩
  rw [HL.out] at hle ⊢
  rw [HM.out] at hle2 ⊢
  by_cases hLM : L = M
  · subst hLM
    go_enter Try.func15, Try.ntmps15
    go_wp2_with (fail)
    go_loopw [5, 13] (fun _ i wr => ∃ (k : Nat), k ≤ L ∧ i = .int .i64 (k : Int) ∧ Hid (l.take k = m.take k) ∧ Below w.heap.size w wr) (fun _ i _ => L - (RowKit.intOf i).toNat)
    case atStart => exact ⟨0, by omega, rfl, Lib.hid rfl, Below.refl _ w⟩
    case round =>
      obtain ⟨k, hk, rfl, HR, hbr⟩ := hrel
      by_cases hlt : k < L
      · have hkl : k < l.length := by rw [HL.out]; exact hlt
        have hkm : k < m.length := by rw [HM.out]; exact hlt
        have hkI : (k : Int) < (L : Int) := by omega
        have hkI0 : (0 : Int) ≤ (k : Int) := by omega
        obtain ⟨b1, o1, rfl⟩ := hl.at_ k (by rw [List.length_map]; exact hkl)
        obtain ⟨b2, o2, rfl⟩ := hm.at_ k (by rw [List.length_map]; exact hkm)
        have c0 := (hl.grown hbr).cell b1 o1 rfl k (by rw [List.length_map]; exact hkl)
        have d0 := (hm.grown hbr).cell b2 o2 rfl k (by rw [List.length_map]; exact hkm)
        rw [List.getElem_map] at c0 d0
        obtain ⟨s, HS⟩ : ∃ s, Hid (l[k] = s) := ⟨_, Lib.hid rfl⟩
        obtain ⟨t, HT⟩ : ∃ s, Hid (m[k] = s) := ⟨_, Lib.hid rfl⟩
        rw [HS.out] at c0
        rw [HT.out] at d0
        have hmore : Hid (l.take (k + 1) = l.take k ++ [s] ∧ m.take (k + 1) = m.take k ++ [t]) := Lib.hid ⟨by rw [List.take_add_one, List.getElem?_eq_getElem hkl, HS.out]; rfl, by rw [List.take_add_one, List.getElem?_eq_getElem hkm, HT.out]; rfl⟩
        have hne : Hid (s ≠ t → R = false) := Lib.hid (fun h => by rw [← hR.out]; exact decide_eq_false (fun e => h (by rw [← HS.out, ← HT.out]; subst e; rfl)))
        have Hbd := Lib.hid hbr.drew
        have HSc : Hid (wr.drew.cell? ⟨b1, o1 + k, none⟩ = some (.bool s) ∧ wr.drew.cell? ⟨b2, o2 + k, none⟩ = some (.bool t)) := Lib.hid ⟨c0, d0⟩
        clear c0 d0 hl hm hbr
        by_cases e1 : s = t
        · subst e1
          go_wp2_with (fail)
          refine wp_region_held_drew (S := fun w' => (w'.cell? ⟨b1, o1 + k, none⟩ = some (.bool s) ∧ w'.cell? ⟨b2, o2 + k, none⟩ = some (.bool s))) (by kernel_rfl) ?_ (fun hHeld => ?_)
          · exact HSc.out
          refine wpAnyH_take (i := 0) (v := ?_) (iatLS iatZS) (by kernel_rfl) (by kernel_rfl) (by kernel_rfl) (fun _ _ _ h => h) (Or.inl ⟨by rfl, ?_⟩) (by assumption) ?_
          rotate_left
          · intro w hSw
            try dsimp only at hSw
            go_simp
            all_goals with_reducible rfl
          try simp only [Act.put, List.setIfInBounds_toArray, List.set_cons_zero, List.set_cons_succ]
          refine wpAnyH_take (i := 1) (v := ?_) (iatLS (iatSS iatZS)) (by kernel_rfl) (by kernel_rfl) (by kernel_rfl) (fun _ _ _ h => h) (Or.inl ⟨by rfl, ?_⟩) (by assumption) ?_
          rotate_left
          · intro w hSw
            try dsimp only at hSw
            go_simp
            all_goals with_reducible rfl
          try simp only [Act.put, List.setIfInBounds_toArray, List.set_cons_zero, List.set_cons_succ]
          refine wpAnyH_take (i := 2) (v := ?_) (iatLS (iatSS (iatSS iatZS))) (by kernel_rfl) (by kernel_rfl) (by kernel_rfl) (fun _ _ _ h => h) (Or.inl ⟨by rfl, ?_⟩) (by assumption) ?_
          rotate_left
          · intro w hSw
            try dsimp only at hSw
            go_simp
            all_goals with_reducible rfl
          try simp only [Act.put, List.setIfInBounds_toArray, List.set_cons_zero, List.set_cons_succ]
          refine wpAnyH_take (i := 3) (v := ?_) (iatLS (iatSS (iatSS (iatSS iatZS)))) (by kernel_rfl) (by kernel_rfl) (by kernel_rfl) (fun _ _ _ h => h) (Or.inl ⟨by rfl, ?_⟩) (by assumption) ?_
          rotate_left
          · intro w hSw
            try dsimp only at hSw
            go_simp
            all_goals with_reducible rfl
          try simp only [Act.put, List.setIfInBounds_toArray, List.set_cons_zero, List.set_cons_succ]
          refine wpAnyH_take (i := 4) (v := ?_) (iatLS (iatSS (iatSS (iatSS (iatSS iatZS))))) (by kernel_rfl) (by kernel_rfl) (by kernel_rfl) (fun _ _ _ h => h) (Or.inl ⟨by rfl, ?_⟩) (by assumption) ?_
          rotate_left
          · intro w hSw
            try dsimp only at hSw
            go_simp
            all_goals with_reducible rfl
          try simp only [Act.put, List.setIfInBounds_toArray, List.set_cons_zero, List.set_cons_succ]
          refine wpAnyH_take (i := 5) (v := ?_) (iatLS (iatSS (iatSS (iatSS (iatSS (iatSS iatZS)))))) (by kernel_rfl) (by kernel_rfl) (by kernel_rfl) (fun _ _ _ h => h) (Or.inl ⟨by rfl, ?_⟩) (by assumption) ?_
          rotate_left
          · intro w hSw
            try dsimp only at hSw
            go_simp
            all_goals with_reducible rfl
          try simp only [Act.put, List.setIfInBounds_toArray, List.set_cons_zero, List.set_cons_succ]
          refine wpAnyH_take (i := 6) (v := ?_) (iatLS (iatSS (iatSS (iatSS (iatSS (iatSS (iatSS iatZS))))))) (by kernel_rfl) (by kernel_rfl) (by kernel_rfl) (fun _ _ _ h => h) (Or.inl ⟨by rfl, ?_⟩) (by assumption) ?_
          rotate_left
          · intro w hSw
            try dsimp only at hSw
            go_simp
            all_goals with_reducible rfl
          try simp only [Act.put, List.setIfInBounds_toArray, List.set_cons_zero, List.set_cons_succ]
          refine wpAnyH_take (i := 7) (v := ?_) (iatLS (iatSS (iatSS (iatSS (iatSS (iatSS (iatSS (iatSS iatZS)))))))) (by kernel_rfl) (by kernel_rfl) (by kernel_rfl) (fun _ _ _ h => h) (Or.inl ⟨by rfl, ?_⟩) (by assumption) ?_
          rotate_left
          · intro w hSw
            try dsimp only at hSw
            go_simp
            all_goals with_reducible rfl
          try simp only [Act.put, List.setIfInBounds_toArray, List.set_cons_zero, List.set_cons_succ]
          refine wpAnyH_take (i := 8) (v := ?_) (iatLS (iatSS (iatSS (iatSS (iatSS (iatSS (iatSS (iatSS (iatSS iatZS))))))))) (by kernel_rfl) (by kernel_rfl) (by kernel_rfl) (fun _ _ _ h => h) (Or.inl ⟨by rfl, ?_⟩) (by assumption) ?_
          rotate_left
          · intro w hSw
            try dsimp only at hSw
            go_simp
            all_goals with_reducible rfl
          try simp only [Act.put, List.setIfInBounds_toArray, List.set_cons_zero, List.set_cons_succ]
          refine wpAnyH_done (by kernel_rfl) ?_ _
          go_wp2_with (fail)
          exact ⟨⟨k + 1, by omega, by go_num, Lib.hid (by rw [hmore.out.1, hmore.out.2, HR.out]), Hbd.out⟩, by simp [RowKit.intOf]; omega⟩
        · have hF := Lib.hid (hne.out e1)
          obtain rfl : t = !s := by cases s <;> cases t <;> simp_all
          clear e1
          go_wp2_with (fail)
          refine wp_region_held_drew (S := fun w' => (w'.cell? ⟨b1, o1 + k, none⟩ = some (.bool s) ∧ w'.cell? ⟨b2, o2 + k, none⟩ = some (.bool (!s)))) (by kernel_rfl) ?_ (fun hHeld => ?_)
          · exact HSc.out
          refine wpAnyH_take (i := 0) (v := ?_) (iatLS iatZS) (by kernel_rfl) (by kernel_rfl) (by kernel_rfl) (fun _ _ _ h => h) (Or.inl ⟨by rfl, ?_⟩) (by assumption) ?_
          rotate_left
          · intro w hSw
            try dsimp only at hSw
            go_simp
            all_goals with_reducible rfl
          try simp only [Act.put, List.setIfInBounds_toArray, List.set_cons_zero, List.set_cons_succ]
          refine wpAnyH_take (i := 1) (v := ?_) (iatLS (iatSS iatZS)) (by kernel_rfl) (by kernel_rfl) (by kernel_rfl) (fun _ _ _ h => h) (Or.inl ⟨by rfl, ?_⟩) (by assumption) ?_
          rotate_left
          · intro w hSw
            try dsimp only at hSw
            go_simp
            all_goals with_reducible rfl
          try simp only [Act.put, List.setIfInBounds_toArray, List.set_cons_zero, List.set_cons_succ]
          refine wpAnyH_take (i := 2) (v := ?_) (iatLS (iatSS (iatSS iatZS))) (by kernel_rfl) (by kernel_rfl) (by kernel_rfl) (fun _ _ _ h => h) (Or.inl ⟨by rfl, ?_⟩) (by assumption) ?_
          rotate_left
          · intro w hSw
            try dsimp only at hSw
            go_simp
            all_goals with_reducible rfl
          try simp only [Act.put, List.setIfInBounds_toArray, List.set_cons_zero, List.set_cons_succ]
          refine wpAnyH_take (i := 3) (v := ?_) (iatLS (iatSS (iatSS (iatSS iatZS)))) (by kernel_rfl) (by kernel_rfl) (by kernel_rfl) (fun _ _ _ h => h) (Or.inl ⟨by rfl, ?_⟩) (by assumption) ?_
          rotate_left
          · intro w hSw
            try dsimp only at hSw
            go_simp
            all_goals with_reducible rfl
          try simp only [Act.put, List.setIfInBounds_toArray, List.set_cons_zero, List.set_cons_succ]
          refine wpAnyH_take (i := 4) (v := ?_) (iatLS (iatSS (iatSS (iatSS (iatSS iatZS))))) (by kernel_rfl) (by kernel_rfl) (by kernel_rfl) (fun _ _ _ h => h) (Or.inl ⟨by rfl, ?_⟩) (by assumption) ?_
          rotate_left
          · intro w hSw
            try dsimp only at hSw
            go_simp
            all_goals with_reducible rfl
          try simp only [Act.put, List.setIfInBounds_toArray, List.set_cons_zero, List.set_cons_succ]
          refine wpAnyH_take (i := 5) (v := ?_) (iatLS (iatSS (iatSS (iatSS (iatSS (iatSS iatZS)))))) (by kernel_rfl) (by kernel_rfl) (by kernel_rfl) (fun _ _ _ h => h) (Or.inl ⟨by rfl, ?_⟩) (by assumption) ?_
          rotate_left
          · intro w hSw
            try dsimp only at hSw
            go_simp
            all_goals with_reducible rfl
          try simp only [Act.put, List.setIfInBounds_toArray, List.set_cons_zero, List.set_cons_succ]
          refine wpAnyH_take (i := 6) (v := ?_) (iatLS (iatSS (iatSS (iatSS (iatSS (iatSS (iatSS iatZS))))))) (by kernel_rfl) (by kernel_rfl) (by kernel_rfl) (fun _ _ _ h => h) (Or.inl ⟨by rfl, ?_⟩) (by assumption) ?_
          rotate_left
          · intro w hSw
            try dsimp only at hSw
            go_simp
            all_goals with_reducible rfl
          try simp only [Act.put, List.setIfInBounds_toArray, List.set_cons_zero, List.set_cons_succ]
          refine wpAnyH_take (i := 7) (v := ?_) (iatLS (iatSS (iatSS (iatSS (iatSS (iatSS (iatSS (iatSS iatZS)))))))) (by kernel_rfl) (by kernel_rfl) (by kernel_rfl) (fun _ _ _ h => h) (Or.inl ⟨by rfl, ?_⟩) (by assumption) ?_
          rotate_left
          · intro w hSw
            try dsimp only at hSw
            go_simp
            all_goals with_reducible rfl
          try simp only [Act.put, List.setIfInBounds_toArray, List.set_cons_zero, List.set_cons_succ]
          refine wpAnyH_take (i := 8) (v := ?_) (iatLS (iatSS (iatSS (iatSS (iatSS (iatSS (iatSS (iatSS (iatSS iatZS))))))))) (by kernel_rfl) (by kernel_rfl) (by kernel_rfl) (fun _ _ _ h => h) (Or.inl ⟨by rfl, ?_⟩) (by assumption) ?_
          rotate_left
          · intro w hSw
            try dsimp only at hSw
            go_simp
            all_goals with_reducible rfl
          try simp only [Act.put, List.setIfInBounds_toArray, List.set_cons_zero, List.set_cons_succ]
          refine wpAnyH_done (by kernel_rfl) ?_ _
          go_wp2_with (fail)
          exact bodyPost_ret (v := .bool false) (by simp [results, Try.results15, go_sem]; try first | rfl | assumption | omega) rfl ⟨by rw [hF.out], Hbd.out⟩
      · obtain rfl : k = L := by omega
        have hkI : ¬ (k : Int) < (k : Int) := by omega
        have hT : Hid (R = true) := Lib.hid (by rw [← hR.out]; exact decide_eq_true (by have := HR.out; rwa [List.take_of_length_le (by simp [HL.out]), List.take_of_length_le (by simp [HM.out])] at this))
        go_wp2_with (fail)
        exact bodyPost_ret (v := .bool true) (by simp [results, Try.results15, go_sem]; try first | rfl | assumption | omega) rfl ⟨by rw [hT.out], hbr⟩
  · have hF : Hid (R = false) := Lib.hid (by rw [← hR.out]; exact decide_eq_false (fun e => hLM (by have := congrArg List.length e; (try simp only [List.length_map] at this); exact HL.out.symm.trans (this.trans HM.out))))
    have hne : ((L : Int) != (M : Int)) = true := by rw [bne_iff_ne]; omega
    clear hLM
    go_enter Try.func15, Try.ntmps15
    go_wp2_with (fail)
    exact bodyPost_ret (v := .bool false) (by simp [results, Try.results15, go_sem]; try first | rfl | assumption | omega) rfl ⟨by rw [hF.out], Below.refl _ _⟩

set_option maxRecDepth 100000 in
set_option maxHeartbeats 16000000 in
theorem sameLists9_any (a b : Option Addr) (ac bc : Nat) (l m : List IltD) (w : World) (Hl : AltsI w a ac l) (Hm : AltsI w b bc m) :
    Calls Try.prog 18 #[.slice a l.length ac, .slice b m.length bc] w fun e w' => e = .returned (.bool (decide (l.map (fun x => x.l) = m.map (fun x => x.l)))) ∧ Below w.heap.size w w' := by
  have hl := Hl.row
  have hm := Hm.row
  have hle : l.length ≤ ac := by have := hl.le; rwa [List.length_map] at this
  have hmx := hl.max
  have hle2 : m.length ≤ bc := by have := hm.le; rwa [List.length_map] at this
  have hmx2 := hm.max
  obtain ⟨R, hR⟩ : ∃ R, Hid (decide (l.map (fun x => x.l) = m.map (fun x => x.l)) = R) := ⟨_, Lib.hid rfl⟩
  rw [hR.out]
  obtain ⟨L, HL⟩ : ∃ L, Hid (l.length = L) := ⟨_, Lib.hid rfl⟩
  obtain ⟨M, HM⟩ : ∃ L, Hid (m.length = L) := ⟨_, Lib.hid rfl⟩
  rw [HL.out] at hle ⊢
  rw [HM.out] at hle2 ⊢
  by_cases hLM : L = M
  · subst hLM
    go_enter Try.func18, Try.ntmps18
    go_wp2_with (fail)
    go_loopw [5, 13] (fun _ i wr => ∃ (k : Nat), k ≤ L ∧ i = .int .i64 (k : Int) ∧ Hid ((l.map (fun x => x.l)).take k = (m.map (fun x => x.l)).take k) ∧ Below w.heap.size w wr) (fun _ i _ => L - (RowKit.intOf i).toNat)
    case atStart => exact ⟨0, by omega, rfl, Lib.hid rfl, Below.refl _ w⟩
    case round =>
      obtain ⟨k, hk, rfl, HR, hbr⟩ := hrel
      by_cases hlt : k < L
      · have hkl : k < l.length := by rw [HL.out]; exact hlt
        have hkm : k < m.length := by rw [HM.out]; exact hlt
        have hkI : (k : Int) < (L : Int) := by omega
        have hkI0 : (0 : Int) ≤ (k : Int) := by omega
        obtain ⟨b1, o1, rfl⟩ := hl.at_ k (by rw [List.length_map]; exact hkl)
        obtain ⟨b2, o2, rfl⟩ := hm.at_ k (by rw [List.length_map]; exact hkm)
        have c0 := (hl.grown hbr).cell b1 o1 rfl k (by rw [List.length_map]; exact hkl)
        have d0 := (hm.grown hbr).cell b2 o2 rfl k (by rw [List.length_map]; exact hkm)
        rw [List.getElem_map] at c0 d0
        have Hx := Lib.hid ((Hl.nms _ (List.getElem_mem hkl)).grown hbr)
        have Hy := Lib.hid ((Hm.nms _ (List.getElem_mem hkm)).grown hbr)
        have hmore : Hid ((l.map (fun x => x.l)).take (k + 1) = (l.map (fun x => x.l)).take k ++ [l[k].l] ∧ (m.map (fun x => x.l)).take (k + 1) = (m.map (fun x => x.l)).take k ++ [m[k].l]) := Lib.hid ⟨by rw [List.take_add_one, List.getElem?_map, List.getElem?_eq_getElem hkl]; rfl, by rw [List.take_add_one, List.getElem?_map, List.getElem?_eq_getElem hkm]; rfl⟩
        have hne : Hid (l[k].l ≠ m[k].l → R = false) := Lib.hid (fun h => by
          rw [← hR.out]
          refine decide_eq_false (fun e => h ?_)
          have h1 := congrArg (fun q => q[k]?) e
          simpa [hkl, hkm] using h1)
        obtain ⟨x, hx⟩ : ∃ v, Hid (l[k] = v) := ⟨_, Lib.hid rfl⟩
        obtain ⟨y, hy⟩ : ∃ v, Hid (m[k] = v) := ⟨_, Lib.hid rfl⟩
        rw [hx.out] at c0 Hx hmore hne
        rw [hy.out] at d0 Hy hmore hne
        obtain ⟨s, sa, sc⟩ := x
        obtain ⟨t, ta, tc⟩ := y
        change _ = some (Value.slice sa s.length sc) at c0
        change _ = some (Value.slice ta t.length tc) at d0
        dsimp only at Hx Hy hmore hne
        have Hc := Lib.hid (fun W (hb : Below wr.heap.size wr W) => sameInts8_any sa ta sc tc s t W (Hx.out.grown hb) (Hy.out.grown hb))
        have Hbd := Lib.hid hbr.drew
        have HSc : Hid (wr.drew.cell? ⟨b1, o1 + k, none⟩ = some (.slice sa s.length sc) ∧ wr.drew.cell? ⟨b2, o2 + k, none⟩ = some (.slice ta t.length tc)) := Lib.hid ⟨c0, d0⟩
        have hbl1 := World.block_lt_of_cell? _ _ HSc.out.1
        have hbl2 := World.block_lt_of_cell? _ _ HSc.out.2
        have Hcd := Lib.hid (Hc.out wr.drew (Below.refl _ wr).drew)
        obtain ⟨q, hq⟩ : ∃ v, Hid (decide (s = t) = v) := ⟨_, Lib.hid rfl⟩
        rw [hq.out] at Hcd
        obtain ⟨SL, hSL⟩ : ∃ v, Hid (s.length = v) := ⟨_, Lib.hid rfl⟩
        obtain ⟨TL, hTL⟩ : ∃ v, Hid (t.length = v) := ⟨_, Lib.hid rfl⟩
        rw [hSL.out, hTL.out] at Hcd HSc
        clear c0 d0 hl hm hbr Hc Hx Hy Hl Hm
        cases q
        · have hF := Lib.hid (hne.out (of_decide_eq_false hq.out))
          go_wp2_with (fail)
          refine wp_region_held_drew (S := fun w' => (w'.cell? ⟨b1, o1 + k, none⟩ = some (.slice sa SL sc) ∧ w'.cell? ⟨b2, o2 + k, none⟩ = some (.slice ta TL tc))) (by kernel_rfl) ?_ (fun hHeld => ?_)
          · exact HSc.out
          refine wpAnyH_take (i := 0) (v := ?_) (iatLS iatZS) (by kernel_rfl) (by kernel_rfl) (by kernel_rfl) (fun _ _ _ h => h) (Or.inl ⟨by rfl, ?_⟩) (by assumption) ?_
          rotate_left
          · intro w hSw
            try dsimp only at hSw
            go_simp
            all_goals with_reducible rfl
          try simp only [Act.put, List.setIfInBounds_toArray, List.set_cons_zero, List.set_cons_succ]
          refine wpAnyH_take (i := 1) (v := ?_) (iatLS (iatSS iatZS)) (by kernel_rfl) (by kernel_rfl) (by kernel_rfl) (fun _ _ _ h => h) (Or.inl ⟨by rfl, ?_⟩) (by assumption) ?_
          rotate_left
          · intro w hSw
            try dsimp only at hSw
            go_simp
            all_goals with_reducible rfl
          try simp only [Act.put, List.setIfInBounds_toArray, List.set_cons_zero, List.set_cons_succ]
          refine wpAnyH_take (i := 2) (v := ?_) (iatLS (iatSS (iatSS iatZS))) (by kernel_rfl) (by kernel_rfl) (by kernel_rfl) (fun _ _ _ h => h) (Or.inl ⟨by rfl, ?_⟩) (by assumption) ?_
          rotate_left
          · intro w hSw
            try dsimp only at hSw
            go_simp
            all_goals with_reducible rfl
          try simp only [Act.put, List.setIfInBounds_toArray, List.set_cons_zero, List.set_cons_succ]
          refine wpAnyH_take (i := 3) (v := ?_) (iatLS (iatSS (iatSS (iatSS iatZS)))) (by kernel_rfl) (by kernel_rfl) (by kernel_rfl) (fun _ _ _ h => h) (Or.inl ⟨by rfl, ?_⟩) (by assumption) ?_
          rotate_left
          · intro w hSw
            try dsimp only at hSw
            go_simp
            all_goals with_reducible rfl
          try simp only [Act.put, List.setIfInBounds_toArray, List.set_cons_zero, List.set_cons_succ]
          refine wpAnyH_take (i := 4) (v := ?_) (iatLS (iatSS (iatSS (iatSS (iatSS iatZS))))) (by kernel_rfl) (by kernel_rfl) (by kernel_rfl) (fun _ _ _ h => h) (Or.inl ⟨by rfl, ?_⟩) (by assumption) ?_
          rotate_left
          · intro w hSw
            try dsimp only at hSw
            go_simp
            all_goals with_reducible rfl
          try simp only [Act.put, List.setIfInBounds_toArray, List.set_cons_zero, List.set_cons_succ]
          refine wpAnyH_take (i := 5) (v := ?_) (iatLS (iatSS (iatSS (iatSS (iatSS (iatSS iatZS)))))) (by kernel_rfl) (by kernel_rfl) (by kernel_rfl) (fun _ _ _ h => h) (Or.inl ⟨by rfl, ?_⟩) (by assumption) ?_
          rotate_left
          · intro w hSw
            try dsimp only at hSw
            go_simp
            all_goals with_reducible rfl
          try simp only [Act.put, List.setIfInBounds_toArray, List.set_cons_zero, List.set_cons_succ]
          refine wpAnyH_take (i := 6) (v := ?_) (iatLS (iatSS (iatSS (iatSS (iatSS (iatSS (iatSS iatZS))))))) (by kernel_rfl) (by kernel_rfl) (by kernel_rfl) (fun _ _ _ h => h) (Or.inl ⟨by rfl, ?_⟩) (by assumption) ?_
          rotate_left
          · intro w hSw
            try dsimp only at hSw
            go_simp
            all_goals with_reducible rfl
          try simp only [Act.put, List.setIfInBounds_toArray, List.set_cons_zero, List.set_cons_succ]
          refine wpAnyH_take (i := 7) (v := ?_) (iatLS (iatSS (iatSS (iatSS (iatSS (iatSS (iatSS (iatSS iatZS)))))))) (by kernel_rfl) (by kernel_rfl) (by kernel_rfl) (fun _ _ _ h => h) (Or.inl ⟨by rfl, ?_⟩) (by assumption) ?_
          rotate_left
          · intro w hSw
            try dsimp only at hSw
            go_simp
            all_goals with_reducible rfl
          try simp only [Act.put, List.setIfInBounds_toArray, List.set_cons_zero, List.set_cons_succ]
          refine wpAnyH_ready (rs := [8]) (by kernel_rfl) (by simp) ?_
          refine AllReadyH.cons (iatLS (iatSS (iatSS (iatSS (iatSS (iatSS (iatSS (iatSS (iatSS iatZS))))))))) (fun K hK => ?_) AllReadyH.nil
          go_simp
          (with_reducible refine Hcd.out.mono ?_)
          rintro e6 W6 ⟨rfl, hb6⟩
          have HS6 : Hid (W6.cell? ⟨b1, o1 + k, none⟩ = some (.slice sa SL sc) ∧ W6.cell? ⟨b2, o2 + k, none⟩ = some (.slice ta TL tc)) := Lib.hid ⟨(hb6.cell (p := ⟨b1, o1 + k, none⟩) hbl1).trans HSc.out.1, (hb6.cell (p := ⟨b2, o2 + k, none⟩) hbl2).trans HSc.out.2⟩
          have Hb6 := Lib.hid (Hbd.out.trans (hb6.mono Hbd.out.size))
          clear hb6
          try dsimp only
          refine hK.out _ _ ?_ (fun hHeld => ?_)
          · exact HS6.out
          clear hK K
          try simp only [Act.put, List.setIfInBounds_toArray, List.set_cons_zero, List.set_cons_succ]
          refine wpAnyH_take (i := 9) (v := ?_) (iatLS (iatSS (iatSS (iatSS (iatSS (iatSS (iatSS (iatSS (iatSS (iatSS iatZS)))))))))) (by kernel_rfl) (by kernel_rfl) (by kernel_rfl) (fun _ _ _ h => h) (Or.inl ⟨by rfl, ?_⟩) (by assumption) ?_
          rotate_left
          · intro w hSw
            try dsimp only at hSw
            go_simp
            all_goals with_reducible rfl
          try simp only [Act.put, List.setIfInBounds_toArray, List.set_cons_zero, List.set_cons_succ]
          refine wpAnyH_done (by kernel_rfl) ?_ _
          go_wp2_with (fail)
          exact bodyPost_ret (v := .bool false) (by simp [results, Try.results18, go_sem]; try first | rfl | assumption | omega) rfl ⟨by rw [hF.out], Hb6.out⟩
        · have e1 := of_decide_eq_true hq.out
          have hmore2 : Hid ((l.map (fun x => x.l)).take (k + 1) = (m.map (fun x => x.l)).take (k + 1)) := Lib.hid (by rw [hmore.out.1, hmore.out.2, HR.out, e1])
          clear e1
          go_wp2_with (fail)
          refine wp_region_held_drew (S := fun w' => (w'.cell? ⟨b1, o1 + k, none⟩ = some (.slice sa SL sc) ∧ w'.cell? ⟨b2, o2 + k, none⟩ = some (.slice ta TL tc))) (by kernel_rfl) ?_ (fun hHeld => ?_)
          · exact HSc.out
          refine wpAnyH_take (i := 0) (v := ?_) (iatLS iatZS) (by kernel_rfl) (by kernel_rfl) (by kernel_rfl) (fun _ _ _ h => h) (Or.inl ⟨by rfl, ?_⟩) (by assumption) ?_
          rotate_left
          · intro w hSw
            try dsimp only at hSw
            go_simp
            all_goals with_reducible rfl
          try simp only [Act.put, List.setIfInBounds_toArray, List.set_cons_zero, List.set_cons_succ]
          refine wpAnyH_take (i := 1) (v := ?_) (iatLS (iatSS iatZS)) (by kernel_rfl) (by kernel_rfl) (by kernel_rfl) (fun _ _ _ h => h) (Or.inl ⟨by rfl, ?_⟩) (by assumption) ?_
          rotate_left
          · intro w hSw
            try dsimp only at hSw
            go_simp
            all_goals with_reducible rfl
          try simp only [Act.put, List.setIfInBounds_toArray, List.set_cons_zero, List.set_cons_succ]
          refine wpAnyH_take (i := 2) (v := ?_) (iatLS (iatSS (iatSS iatZS))) (by kernel_rfl) (by kernel_rfl) (by kernel_rfl) (fun _ _ _ h => h) (Or.inl ⟨by rfl, ?_⟩) (by assumption) ?_
          rotate_left
          · intro w hSw
            try dsimp only at hSw
            go_simp
            all_goals with_reducible rfl
          try simp only [Act.put, List.setIfInBounds_toArray, List.set_cons_zero, List.set_cons_succ]
          refine wpAnyH_take (i := 3) (v := ?_) (iatLS (iatSS (iatSS (iatSS iatZS)))) (by kernel_rfl) (by kernel_rfl) (by kernel_rfl) (fun _ _ _ h => h) (Or.inl ⟨by rfl, ?_⟩) (by assumption) ?_
          rotate_left
          · intro w hSw
            try dsimp only at hSw
            go_simp
            all_goals with_reducible rfl
          try simp only [Act.put, List.setIfInBounds_toArray, List.set_cons_zero, List.set_cons_succ]
          refine wpAnyH_take (i := 4) (v := ?_) (iatLS (iatSS (iatSS (iatSS (iatSS iatZS))))) (by kernel_rfl) (by kernel_rfl) (by kernel_rfl) (fun _ _ _ h => h) (Or.inl ⟨by rfl, ?_⟩) (by assumption) ?_
          rotate_left
          · intro w hSw
            try dsimp only at hSw
            go_simp
            all_goals with_reducible rfl
          try simp only [Act.put, List.setIfInBounds_toArray, List.set_cons_zero, List.set_cons_succ]
          refine wpAnyH_take (i := 5) (v := ?_) (iatLS (iatSS (iatSS (iatSS (iatSS (iatSS iatZS)))))) (by kernel_rfl) (by kernel_rfl) (by kernel_rfl) (fun _ _ _ h => h) (Or.inl ⟨by rfl, ?_⟩) (by assumption) ?_
          rotate_left
          · intro w hSw
            try dsimp only at hSw
            go_simp
            all_goals with_reducible rfl
          try simp only [Act.put, List.setIfInBounds_toArray, List.set_cons_zero, List.set_cons_succ]
          refine wpAnyH_take (i := 6) (v := ?_) (iatLS (iatSS (iatSS (iatSS (iatSS (iatSS (iatSS iatZS))))))) (by kernel_rfl) (by kernel_rfl) (by kernel_rfl) (fun _ _ _ h => h) (Or.inl ⟨by rfl, ?_⟩) (by assumption) ?_
          rotate_left
          · intro w hSw
            try dsimp only at hSw
            go_simp
            all_goals with_reducible rfl
          try simp only [Act.put, List.setIfInBounds_toArray, List.set_cons_zero, List.set_cons_succ]
          refine wpAnyH_take (i := 7) (v := ?_) (iatLS (iatSS (iatSS (iatSS (iatSS (iatSS (iatSS (iatSS iatZS)))))))) (by kernel_rfl) (by kernel_rfl) (by kernel_rfl) (fun _ _ _ h => h) (Or.inl ⟨by rfl, ?_⟩) (by assumption) ?_
          rotate_left
          · intro w hSw
            try dsimp only at hSw
            go_simp
            all_goals with_reducible rfl
          try simp only [Act.put, List.setIfInBounds_toArray, List.set_cons_zero, List.set_cons_succ]
          refine wpAnyH_ready (rs := [8]) (by kernel_rfl) (by simp) ?_
          refine AllReadyH.cons (iatLS (iatSS (iatSS (iatSS (iatSS (iatSS (iatSS (iatSS (iatSS iatZS))))))))) (fun K hK => ?_) AllReadyH.nil
          go_simp
          (with_reducible refine Hcd.out.mono ?_)
          rintro e6 W6 ⟨rfl, hb6⟩
          have HS6 : Hid (W6.cell? ⟨b1, o1 + k, none⟩ = some (.slice sa SL sc) ∧ W6.cell? ⟨b2, o2 + k, none⟩ = some (.slice ta TL tc)) := Lib.hid ⟨(hb6.cell (p := ⟨b1, o1 + k, none⟩) hbl1).trans HSc.out.1, (hb6.cell (p := ⟨b2, o2 + k, none⟩) hbl2).trans HSc.out.2⟩
          have Hb6 := Lib.hid (Hbd.out.trans (hb6.mono Hbd.out.size))
          clear hb6
          try dsimp only
          refine hK.out _ _ ?_ (fun hHeld => ?_)
          · exact HS6.out
          clear hK K
          try simp only [Act.put, List.setIfInBounds_toArray, List.set_cons_zero, List.set_cons_succ]
          refine wpAnyH_take (i := 9) (v := ?_) (iatLS (iatSS (iatSS (iatSS (iatSS (iatSS (iatSS (iatSS (iatSS (iatSS iatZS)))))))))) (by kernel_rfl) (by kernel_rfl) (by kernel_rfl) (fun _ _ _ h => h) (Or.inl ⟨by rfl, ?_⟩) (by assumption) ?_
          rotate_left
          · intro w hSw
            try dsimp only at hSw
            go_simp
            all_goals with_reducible rfl
          try simp only [Act.put, List.setIfInBounds_toArray, List.set_cons_zero, List.set_cons_succ]
          refine wpAnyH_done (by kernel_rfl) ?_ _
          go_wp2_with (fail)
          exact ⟨⟨k + 1, by omega, by go_num, hmore2, Hb6.out⟩, by simp [RowKit.intOf]; omega⟩
      · obtain rfl : k = L := by omega
        have hkI : ¬ (k : Int) < (k : Int) := by omega
        have hT : Hid (R = true) := Lib.hid (by rw [← hR.out]; exact decide_eq_true (by have := HR.out; rwa [List.take_of_length_le (by simp [HL.out]), List.take_of_length_le (by simp [HM.out])] at this))
        go_wp2_with (fail)
        exact bodyPost_ret (v := .bool true) (by simp [results, Try.results18, go_sem]; try first | rfl | assumption | omega) rfl ⟨by rw [hT.out], hbr⟩
  · have hF : Hid (R = false) := Lib.hid (by rw [← hR.out]; exact decide_eq_false (fun e => hLM (by have := congrArg List.length e; (try simp only [List.length_map] at this); exact HL.out.symm.trans (this.trans HM.out))))
    have hne : ((L : Int) != (M : Int)) = true := by rw [bne_iff_ne]; omega
    clear hLM
    go_enter Try.func18, Try.ntmps18
    go_wp2_with (fail)
    exact bodyPost_ret (v := .bool false) (by simp [results, Try.results18, go_sem]; try first | rfl | assumption | omega) rfl ⟨by rw [hF.out], Below.refl _ _⟩

end Go.Proofs.Ytldmgifphkpdlaa

namespace Go.Proofs.Ytldmgifphkpdlaa

def e9C : List (List (List Int)) := [[[0, -1, 1], []]]
def e9D : List (List (List Int)) := [[[-2, 1]], [[0], []]]
theorem e9C_out (r : Nat) (h : 1 ≤ r) : e9C.getD r [] = [] := by
  obtain ⟨r, rfl⟩ : ∃ q, r = q + 1 := ⟨r - 1, by omega⟩
  rfl
theorem e9D_out (r : Nat) (h : 2 ≤ r) : e9D.getD r [] = [] := by
  obtain ⟨r, rfl⟩ : ∃ q, r = q + 2 := ⟨r - 2, by omega⟩
  rfl
theorem e9C_nul : nulB e9C = fun r => decide (r = 0) := by
  funext r
  by_cases h : r = 0
  · subst h
    rw [decide_eq_true rfl]
    exact (nul_iff (by decide)).2 ⟨[], by decide, rfl⟩
  · rw [decide_eq_false h]
    cases e : nulB e9C r
    · rfl
    · have := nulB_lt e
      simp [e9C] at this
      omega
theorem e9D_nul : nulB e9D = fun r => decide (r = 1) := by
  funext r
  by_cases h : r = 1
  · subst h
    rw [decide_eq_true rfl]
    exact (nul_iff (by decide)).2 ⟨[], by decide, rfl⟩
  · rw [decide_eq_false h]
    cases e : nulB e9D r
    · rfl
    · have h1 := nulB_lt e
      simp [e9D] at h1
      obtain rfl : r = 0 := by omega
      obtain ⟨a, ha, he⟩ := (nul_iff (by decide)).1 e
      have : a = [-2, 1] := by simpa [e9D] using ha
      subst this
      rw [emp_cons, emp_cons] at he
      simp at he
theorem ris_1 (x : Int) (P : Int → Prop) (h : ∀ t, P t ↔ t = x) : Ris [x] P := ⟨by simp, fun t => by rw [h, List.mem_singleton]⟩
theorem ris_2 (x y : Int) (hxy : x < y) (P : Int → Prop) (h : ∀ t, P t ↔ t = x ∨ t = y) : Ris [x, y] P := ⟨by simp [hxy], fun t => by rw [h]; simp⟩
theorem e9C_alt {r : Nat} {a : List Int} (h : a ∈ e9C.getD r []) : r = 0 ∧ (a = [0, -1, 1] ∨ a = []) := by
  by_cases e : r = 0
  · subst e
    exact ⟨rfl, by simpa [e9C] using h⟩
  · rw [e9C_out r (by omega)] at h
    cases h
theorem e9D_alt {r : Nat} {a : List Int} (h : a ∈ e9D.getD r []) : (r = 0 ∧ a = [-2, 1]) ∨ (r = 1 ∧ (a = [0] ∨ a = [])) := by
  by_cases e : r = 0
  · subst e
    exact .inl ⟨rfl, by simpa [e9D] using h⟩
  · by_cases e1 : r = 1
    · subst e1
      exact .inr ⟨rfl, by simpa [e9D] using h⟩
    · rw [e9D_out r (by omega)] at h
      cases h
theorem e9C_first : Ris [0] (TokP e9C (nulB e9C) [-1 - ((0 : Nat) : Int)]) := by
  rw [e9C_nul]
  refine ris_1 _ _ fun t => ⟨fun h => ?_, fun h => ?_⟩
  · have := first_all (F := fun _ t => t = 0) (fun r a ha k hk => ?_) (by omega) h
    · exact this
    · obtain ⟨rfl, rfl | rfl⟩ := e9C_alt ha
      · have : k = 0 := by simpa [ahd] using hk
        subst this
        exact ⟨fun _ => rfl, fun h => by omega⟩
      · cases hk
  · subst h
    exact tok_rule (a := [0, -1, 1]) (by simp [e9C]) (by rw [show ahd (fun r => decide (r = 0)) [0, -1, 1] = [0] by simp [ahd]]; exact tok_self (by omega))
def f9D (r : Nat) (t : Int) : Prop := t = 0 ∨ (r = 0 ∧ t = 1)
theorem e9D_sound {r : Nat} {t : Int} (h : TokP e9D (fun r => decide (r = 1)) [-1 - (r : Int)] t) : f9D r t := by
  have := first_all (F := f9D) (fun r a ha k hk => ?_) (by omega) h
  · rwa [ruL_of] at this
  · rcases e9D_alt ha with ⟨rfl, rfl⟩ | ⟨rfl, rfl | rfl⟩
    · have : k = -2 ∨ k = 1 := by simpa [ahd, ruL] using hk
      rcases this with rfl | rfl
      · refine ⟨fun h => by omega, fun _ t ht => ?_⟩
        rcases ht with h | ⟨h, _⟩
        · exact .inl h
        · exact absurd h (by decide)
      · exact ⟨fun _ => .inr ⟨rfl, rfl⟩, fun h => by omega⟩
    · have : k = 0 := by simpa [ahd] using hk
      subst this
      exact ⟨fun _ => .inl rfl, fun h => by omega⟩
    · cases hk
theorem e9D_one : TokP e9D (fun r => decide (r = 1)) [-1 - ((1 : Nat) : Int)] 0 := tok_rule (a := [0]) (by simp [e9D]) (by rw [show ahd (fun r => decide (r = 1)) [0] = [0] by simp [ahd]]; exact tok_self (by omega))
theorem e9D_first0 : Ris [0, 1] (TokP e9D (nulB e9D) [-1 - ((0 : Nat) : Int)]) := by
  rw [e9D_nul]
  refine ris_2 _ _ (by omega) _ fun t => ⟨fun h => ?_, fun h => ?_⟩
  · rcases e9D_sound h with h | h
    · exact .inl h
    · exact .inr h.2
  · refine tok_rule (a := [-2, 1]) (by simp [e9D]) ?_
    rw [show ahd (fun r => decide (r = 1)) [-2, 1] = [-2, 1] by simp [ahd, ruL], tok_iff]
    rcases h with rfl | rfl
    · exact ⟨-2, by simp, (show (-1 - ((1 : Nat) : Int)) = -2 by omega) ▸ e9D_one⟩
    · exact ⟨1, by simp, tok_self (by omega)⟩
theorem e9D_first1 : Ris [0] (TokP e9D (nulB e9D) [-1 - ((1 : Nat) : Int)]) := by
  rw [e9D_nul]
  refine ris_1 _ _ fun t => ⟨fun h => ?_, fun h => ?_⟩
  · rcases e9D_sound h with h | h
    · exact h
    · exact absurd h.1 (by decide)
  · subst h
    exact e9D_one
theorem e9D_lead : Ris [0] (TokP e9D (nulB e9D) (ahd (nulB e9D) [-2])) := by
  have : ahd (nulB e9D) [-2] = [-1 - ((1 : Nat) : Int)] := by rw [e9D_nul]; simp [ahd, ruL]
  rw [this]
  exact e9D_first1
theorem e9D_emp : emp (nulB e9D) [-2] = true := by rw [e9D_nul]; rfl
theorem at3 {a b c : Int} {i : Nat} {x : Int} (h : [a, b, c][i]? = some x) : (i = 0 ∧ x = a) ∨ (i = 1 ∧ x = b) ∨ (i = 2 ∧ x = c) := by
  match i, h with
  | 0, h => exact .inl ⟨rfl, by simpa using h.symm⟩
  | 1, h => exact .inr (.inl ⟨rfl, by simpa using h.symm⟩)
  | 2, h => exact .inr (.inr ⟨rfl, by simpa using h.symm⟩)
  | i + 3, h => simp at h
theorem e9C_fol : Ris [1, 2] (FolP e9C (nulB e9C) 2 0) := by
  rw [e9C_nul]
  have key : ∀ {s r : Nat} {a : List Int} {i : Nat}, a ∈ e9C.getD r [] → a[i]? = some (-1 - (s : Int)) → s = 0 ∧ r = 0 ∧ a.drop (i + 1) = [1] := by
    intro s r a i ha hi
    obtain ⟨rfl, rfl | rfl⟩ := e9C_alt ha
    · rcases at3 hi with ⟨rfl, e⟩ | ⟨rfl, e⟩ | ⟨rfl, e⟩
      · omega
      · exact ⟨by omega, rfl, rfl⟩
      · omega
    · simp at hi
  refine ris_2 _ _ (by omega) _ fun t => ⟨fun h => ?_, fun h => ?_⟩
  · refine fol_all (F := fun _ t => t = 1 ∨ t = 2) (.inr rfl) (fun s r a i hr ha hi t ht => ?_) (fun s r hl t ht => ht) h
    obtain ⟨rfl, rfl, e⟩ := key ha hi
    rw [e, show ahd (fun r => decide (r = 0)) [1] = [1] by simp [ahd]] at ht
    exact .inl (tok_tok (by omega) ht)
  · rcases h with rfl | rfl
    · exact fol_beh (r := 0) (a := [0, -1, 1]) (i := 1) (by decide) (by simp [e9C]) rfl (by rw [show ahd (fun r => decide (r = 0)) (List.drop (1 + 1) [0, -1, 1]) = [1] by simp [ahd]]; exact tok_self (by omega))
    · exact fol_end
theorem e9D_key {s r : Nat} {a : List Int} {i : Nat} (ha : a ∈ e9D.getD r []) (hi : a[i]? = some (-1 - (s : Int))) : s = 1 ∧ r = 0 ∧ a.drop (i + 1) = [1] := by
  rcases e9D_alt ha with ⟨rfl, rfl⟩ | ⟨rfl, rfl | rfl⟩
  · match i, hi with
    | 0, hi =>
      have : (-2 : Int) = -1 - (s : Int) := by simpa using hi
      exact ⟨by omega, rfl, rfl⟩
    | 1, hi =>
      have : (1 : Int) = -1 - (s : Int) := by simpa using hi
      omega
    | i + 2, hi => simp at hi
  · match i, hi with
    | 0, hi =>
      have : (0 : Int) = -1 - (s : Int) := by simpa using hi
      omega
    | i + 1, hi => simp at hi
  · simp at hi
theorem e9D_folS {s : Nat} {t : Int} (h : FolP e9D (fun r => decide (r = 1)) 2 s t) : (s = 0 ∧ t = 2) ∨ (s ≠ 0 ∧ t = 1) := by
  refine fol_all (F := fun s t => (s = 0 ∧ t = 2) ∨ (s ≠ 0 ∧ t = 1)) (.inl ⟨rfl, rfl⟩) (fun s r a i hr ha hi t ht => ?_) (fun s r hl t ht => ?_) h
  · obtain ⟨rfl, rfl, e⟩ := e9D_key ha hi
    rw [e, show ahd (fun r => decide (r = 1)) [1] = [1] by simp [ahd]] at ht
    exact .inr ⟨by decide, tok_tok (by omega) ht⟩
  · obtain ⟨_, a, ha, i, hi, he⟩ := hl
    obtain ⟨rfl, rfl, e⟩ := e9D_key ha hi
    rw [e, emp_cons] at he
    simp at he
theorem e9D_fol0 : Ris [2] (FolP e9D (nulB e9D) 2 0) := by
  rw [e9D_nul]
  refine ris_1 _ _ fun t => ⟨fun h => ?_, fun h => ?_⟩
  · rcases e9D_folS h with h | h
    · exact h.2
    · exact absurd rfl h.1
  · subst h
    exact fol_end
theorem e9D_fol1 : Ris [1] (FolP e9D (nulB e9D) 2 1) := by
  rw [e9D_nul]
  refine ris_1 _ _ fun t => ⟨fun h => ?_, fun h => ?_⟩
  · rcases e9D_folS h with h | h
    · exact absurd h.1 (by decide)
    · exact h.2
  · subst h
    exact fol_beh (r := 0) (a := [-2, 1]) (i := 0) (by decide) (by simp [e9D]) rfl (by rw [show ahd (fun r => decide (r = 1)) (List.drop (0 + 1) [-2, 1]) = [1] by simp [ahd]]; exact tok_self (by omega))
theorem e9D_sh1 : shP e9D 1 = 0 := (sh_nul (al := e9D) e9D_out (r := 1)).2 (by rw [e9D_nul]; rfl)
theorem e9D_sh0 : shP e9D 0 = 1 := by
  have h1 := sh_alt (al := e9D) (r := 0) (a := [-2, 1]) (by simp [e9D])
  have h2 : lenP (shP e9D) [-2, 1] = 1 := by
    rw [lenP, lenP, lenP]
    have : ruL (-2) = 1 := by simp [ruL]
    rw [this, e9D_sh1]
    simp
  have h3 := sh_nonneg e9D 0
  have h4 : shP e9D 0 ≠ 0 := fun h => by
    have := (sh_nul (al := e9D) e9D_out (r := 0)).1 h
    rw [e9D_nul] at this
    simp at this
  omega
end Go.Proofs.Ytldmgifphkpdlaa

namespace Go.Proofs.Ytldmgifphkpdlaa
open Go.RowKit Go.Maps

attribute [local go_sem] Oper.semAt_some

theorem map_ne_row {W : World} {b n : Nat} {m : Int → Bool} (h : SetZ W b n m) {base e size k c : Nat} {a : Option Addr} {xs : List Value} (ho : W.ownsRow base e size (.slice a k c) k xs) : ∀ g, (Value.slice a k c).ownBlock = some g → g ≠ b := by
  intro g hg e2
  obtain ⟨_, cur, h1⟩ := own_typ ho g hg
  obtain ⟨es, c, h2⟩ := h.obj
  rw [e2, h2] at h1
  cases h1
theorem mapZ_ne_blk {W : World} {b n : Nat} {m : Int → Bool} (h : SetZ W b n m) {g t : Nat} {cs : List Value} (ho : Blk W g t cs) : g ≠ b := by
  intro e2
  obtain ⟨es, c, h2⟩ := h.obj
  unfold Blk at ho
  rw [e2, h2] at ho
  cases ho
abbrev RowM (W : World) (B : Nat) (a : Option Addr) (c N : Nat) (p : Nat → Nat) : Prop := W.ownsRow B 79 1 (.slice a N c) N ((List.range N).map (fun r => Value.map (some (p r))))
/-- What stands behind each rule, and where it stands last: sets in two rows, each in a variable. -/
structure NbAt (W : World) (B hb lb N n : Nat) (ba : Option Addr) (bc : Nat) (la : Option Addr) (lc : Nat) (p q : Nat → Nat) (MB ML : Nat → Int → Bool) : Prop where
  hbx : Blk W hb 75 [.slice ba N bc]
  lbx : Blk W lb 75 [.slice la N lc]
  r1 : RowM W B ba bc N p
  r2 : RowM W B la lc N q
  s1 : ∀ r, r < N → SetZ W (p r) n (MB r)
  s2 : ∀ r, r < N → SetZ W (q r) n (ML r)
  inj1 : ∀ r s, r < N → s < N → p r = p s → r = s
  inj2 : ∀ r s, r < N → s < N → q r = q s → r = s
  ne : ∀ r s, r < N → s < N → p r ≠ q s
  lo : B ≤ hb ∧ B ≤ lb ∧ hb ≠ lb ∧ ∀ r, r < N → B ≤ p r ∧ B ≤ q r
  ap : ∀ g, (Value.slice ba N bc).ownBlock = some g → (Value.slice la N lc).ownBlock ≠ some g
section
variable {W W' : World} {B hb lb N n bc lc : Nat} {ba la : Option Addr} {p q : Nat → Nat} {MB ML : Nat → Int → Bool}
theorem NbAt.below (h : NbAt W B hb lb N n ba bc la lc p q MB ML) (hb2 : Below W.heap.size W W') : NbAt W' B hb lb N n ba bc la lc p q MB ML where
  hbx := h.hbx.below hb2 h.hbx.lt
  lbx := h.lbx.below hb2 h.lbx.lt
  r1 := World.ownsRow.kept h.r1 (below_grownBy hb2 none) (by cases e : (Value.slice ba N bc).ownBlock <;> simp)
  r2 := World.ownsRow.kept h.r2 (below_grownBy hb2 none) (by cases e : (Value.slice la N lc).ownBlock <;> simp)
  s1 := fun r hr => (h.s1 r hr).kept (below_grownBy hb2 none) (by simp)
  s2 := fun r hr => (h.s2 r hr).kept (below_grownBy hb2 none) (by simp)
  inj1 := h.inj1
  inj2 := h.inj2
  ne := h.ne
  lo := h.lo
  ap := h.ap
/-- A set of the first row is turned. -/
theorem NbAt.turn1 (h : NbAt W B hb lb N n ba bc la lc p q MB ML) {r : Nat} (hr : r < N) {M : Int → Bool} (hs : SetZ W' (p r) (n + 1) M) (hg : W.grownBy W' (some (p r))) : NbAt W' B hb lb N (n + 1) ba bc la lc p q (fun s => if s = r then M else MB s) ML where
  hbx := h.hbx.kept hg (fun e => mapZ_ne_blk (h.s1 r hr) h.hbx (by injection e))
  lbx := h.lbx.kept hg (fun e => mapZ_ne_blk (h.s1 r hr) h.lbx (by injection e))
  r1 := World.ownsRow.kept h.r1 hg (.inr (fun e => map_ne_row (h.s1 r hr) h.r1 _ e rfl))
  r2 := World.ownsRow.kept h.r2 hg (.inr (fun e => map_ne_row (h.s1 r hr) h.r2 _ e rfl))
  s1 := fun s hs2 => by
    by_cases e : s = r
    · subst e; rw [if_pos rfl]; exact hs
    · rw [if_neg e]; exact ((h.s1 s hs2).kept hg (fun e2 => e (h.inj1 s r hs2 hr (by injection e2)))).mono (Nat.le_succ n)
  s2 := fun s hs2 => ((h.s2 s hs2).kept hg (fun e2 => h.ne r s hr hs2 (by injection e2 with e2; exact e2.symm))).mono (Nat.le_succ n)
  inj1 := h.inj1
  inj2 := h.inj2
  ne := h.ne
  lo := h.lo
  ap := h.ap
theorem NbAt.turn2 (h : NbAt W B hb lb N n ba bc la lc p q MB ML) {r : Nat} (hr : r < N) {M : Int → Bool} (hs : SetZ W' (q r) (n + 1) M) (hg : W.grownBy W' (some (q r))) : NbAt W' B hb lb N (n + 1) ba bc la lc p q MB (fun s => if s = r then M else ML s) where
  hbx := h.hbx.kept hg (fun e => mapZ_ne_blk (h.s2 r hr) h.hbx (by injection e))
  lbx := h.lbx.kept hg (fun e => mapZ_ne_blk (h.s2 r hr) h.lbx (by injection e))
  r1 := World.ownsRow.kept h.r1 hg (.inr (fun e => map_ne_row (h.s2 r hr) h.r1 _ e rfl))
  r2 := World.ownsRow.kept h.r2 hg (.inr (fun e => map_ne_row (h.s2 r hr) h.r2 _ e rfl))
  s1 := fun s hs2 => ((h.s1 s hs2).kept hg (fun e2 => h.ne s r hs2 hr (by injection e2))).mono (Nat.le_succ n)
  s2 := fun s hs2 => by
    by_cases e : s = r
    · subst e; rw [if_pos rfl]; exact hs
    · rw [if_neg e]; exact ((h.s2 s hs2).kept hg (fun e2 => e (h.inj2 s r hs2 hr (by injection e2)))).mono (Nat.le_succ n)
  inj1 := h.inj1
  inj2 := h.inj2
  ne := h.ne
  lo := h.lo
  ap := h.ap
theorem NbAt.congr {MB' ML' : Nat → Int → Bool} (h : NbAt W B hb lb N n ba bc la lc p q MB ML) (h1 : ∀ r x, MB r x = MB' r x) (h2 : ∀ r x, ML r x = ML' r x) : NbAt W B hb lb N n ba bc la lc p q MB' ML' := by
  obtain rfl : MB = MB' := funext fun r => funext (h1 r)
  obtain rfl : ML = ML' := funext fun r => funext (h2 r)
  exact h
theorem NbAt.mono (h : NbAt W B hb lb N n ba bc la lc p q MB ML) {n' : Nat} (hn : n ≤ n') : NbAt W B hb lb N n' ba bc la lc p q MB ML := { h with s1 := fun r hr => (h.s1 r hr).mono hn, s2 := fun r hr => (h.s2 r hr).mono hn }
end
theorem row_at {W : World} {B N c : Nat} {a : Option Addr} {p : Nat → Nat} (h : RowM W B a c N p) {r : Nat} (hr : r < N) : ∃ g, a = some ⟨g, 0, none⟩ ∧ W.cell? ⟨g, r, none⟩ = some (.map (some (p r))) := by
  rcases h.2 with ⟨e1, e0⟩ | ⟨g, cp, cur, e1, hb, hk, hnc, hcm, _⟩
  · omega
  · injection e1 with e1 e2 e3
    subst e1
    refine ⟨g, rfl, ?_⟩
    rw [World.ownsRow.cellAt h r (by rw [Nat.mul_one]; exact hr)]
    exact rng_cell _ _ hr
theorem row_le {W : World} {B N c : Nat} {a : Option Addr} {p : Nat → Nat} (h : RowM W B a c N p) : N ≤ c ∧ c ≤ 9223372036854775807 := by
  have := (own_vals h (by simp))
  exact ⟨by have := this.le; simpa using this, this.max⟩
/-- What growing leaves. -/
def GrwQ (W : World) (B hb lb N n : Nat) (ba : Option Addr) (bc : Nat) (la : Option Addr) (lc : Nat) (p q : Nat → Nat) (MB ML : Nat → Int → Bool) (f : Nat → Bool) (r i : Nat) (s : List Int) (e : Ending) (W' : World) : Prop :=
  e = .returned (.tuple #[]) ∧ NbAt W' B hb lb N (n + 1000) ba bc la lc p q (fun t y => MB t y || (decide (t = r) && decide (y ∈ ahd f s))) (fun t y => ML t y || (decide (t = r) && (emp f s && decide (y = (i : Int))))) ∧ Below B W W'

set_option maxRecDepth 100000 in
set_option maxHeartbeats 16000000 in
theorem grows_any (W0 W : World) (bb : Nat) (d : CfD) (na : Option Addr) (nc : Nat) (f : Nat → Bool) (hb lb n : Nat) (ba : Option Addr) (bc : Nat) (la : Option Addr) (lc : Nat) (p q : Nat → Nat) (MB ML : Nat → Int → Bool) (r i : Nat) (s : List Int) (sa : Option Addr) (sc : Nat)
    (hB : BgAt W0 bb d na nc f) (hf : FitC d) (hbl : Below W0.heap.size W0 W) (hN : NbAt W W0.heap.size hb lb d.alts.length n ba bc la lc p q MB ML) (hr : r < d.alts.length) (hi : i < d.alts.length) (hs : Ints W0 sa sc s) (hok : OkL d.toks.length d.alts.length s) (hsl : s.length ≤ 500) (hn : n ≤ 1000000000000) :
    Calls Try.prog 93 #[.int .i64 (r : Int), .int .i64 (i : Int), .slice sa s.length sc, .pointer (some ⟨bb, 0, none⟩), .pointer (some ⟨hb, 0, none⟩), .pointer (some ⟨lb, 0, none⟩)] W (GrwQ W W0.heap.size hb lb d.alts.length n ba bc la lc p q MB ML f r i s) := by
  have hBw := hB.below hbl
  have hr60 := hf.r
  have ht60 := hf.t
  have Hah := Lib.hid (ahead_any d.aa d.alts.length d.ac na d.alts.length nc f s sa sc W (hB.nul.grown hbl) (hs.grown hbl) (fun y hy => (hok y hy).1) (by omega))
  have hb1 := hBw.box
  have hbbs := hB.box.lt
  have Hint := Lib.hid (ints_ahd hs f)
  have hal := ahd_len (f := f) s
  have hall : (ahd f s).length ≤ sc ∧ sc ≤ 9223372036854775807 := ⟨by have := Hint.out.le; rwa [List.length_map] at this, hs.max⟩
  have Hfit : Hid (∀ y ∈ ahd f s, (Go.Lit.int .i64 y).wf = true) := Lib.hid (fun y hy => wf9 (by have := hok y (ahd_sub hy); omega))
  have Hfi : Hid ((Go.Lit.int .i64 (i : Int)).wf = true) := Lib.hid (wf9 (by omega))
  obtain ⟨Q, hQ⟩ : ∃ Q, Hid (GrwQ W W0.heap.size hb lb d.alts.length n ba bc la lc p q MB ML f r i s = Q) := ⟨_, Lib.hid rfl⟩
  rw [hQ.out]
  obtain ⟨AH, hAH⟩ : ∃ q, Hid (ahd f s = q) := ⟨_, Lib.hid rfl⟩
  obtain ⟨E, hE⟩ : ∃ q, Hid (emp f s = q) := ⟨_, Lib.hid rfl⟩
  have HQ : Hid (∀ e W', (e = .returned (.tuple #[]) ∧ NbAt W' W0.heap.size hb lb d.alts.length (n + 1000) ba bc la lc p q (fun t y => MB t y || (decide (t = r) && decide (y ∈ AH))) (fun t y => ML t y || (decide (t = r) && (E && decide (y = (i : Int))))) ∧ Below W0.heap.size W W') → Q e W') := Lib.hid (fun e W' h => by rw [← hQ.out]; unfold GrwQ; rw [hAH.out, hE.out]; exact h)
  rw [hAH.out] at Hint hal hall Hfit
  rw [hAH.out, hE.out] at Hah
  have HW0 := Lib.hid hbl
  have hbW := hbl.size
  have HN0 := Lib.hid hN
  obtain ⟨L, HL⟩ : ∃ q, Hid (d.alts.length = q) := ⟨_, Lib.hid rfl⟩
  obtain ⟨SL, HSL⟩ : ∃ q, Hid (s.length = q) := ⟨_, Lib.hid rfl⟩
  obtain ⟨AL, HAL⟩ : ∃ q, Hid (AH.length = q) := ⟨_, Lib.hid rfl⟩
  obtain ⟨daa, hdaa⟩ : ∃ q, Hid (d.aa = q) := ⟨_, Lib.hid rfl⟩
  obtain ⟨dac, hdac⟩ : ∃ q, Hid (d.ac = q) := ⟨_, Lib.hid rfl⟩
  obtain ⟨base, hbase⟩ : ∃ q, Hid (W0.heap.size = q) := ⟨_, Lib.hid rfl⟩
  rw [HL.out, hdaa.out, hdac.out] at hb1 Hah
  rw [HL.out] at hr hi hr60 HN0 HQ
  rw [HSL.out, HAL.out] at Hah
  rw [HAL.out] at hal hall
  rw [HSL.out] at hal hsl ⊢
  rw [hbase.out] at HN0 HQ hbbs HW0 hbW
  have x0 := hb1.cell 0
  have x1 := hb1.cell 1
  have xl := hb1.lt
  simp only [List.getElem?_cons_zero, List.getElem?_cons_succ] at x0 x1
  have hrI : (r : Int) < (L : Int) := by omega
  have hrI0 : (0 : Int) ≤ (r : Int) := by omega
  clear hB hBw hb1 hs hok hf hN hbl hQ
  go_enter Try.func93, Try.ntmps93
  go_wp2_with (fail)
  refine Hah.out.mono ?_
  rintro e w2 ⟨rfl, hb2⟩
  have HN2 := Lib.hid (HN0.out.below hb2)
  have Hb2 : Hid (Below base W w2) := Lib.hid (hb2.mono hbW)
  clear hb2 x0 x1 xl HN0 Hah
  go_wp2_with (fail)
  go_loopw [21] (fun iv wr => ∃ k : Nat, k ≤ AL ∧ iv = .int .i64 (k : Int) ∧ Hid (NbAt wr base hb lb L (n + k) ba bc la lc p q (fun t y => MB t y || (decide (t = r) && decide (y ∈ AH.take k))) ML) ∧ Below base W wr) (fun iv _ => AL - (RowKit.intOf iv).toNat)
  case atStart => exact ⟨0, Nat.zero_le _, rfl, Lib.hid (HN2.out.congr (fun t y => by simp) (fun t y => rfl)), Hb2.out⟩
  case round =>
    clear HN2 Hb2
    obtain ⟨k, hk, rfl, HN, hbr⟩ := hrel
    obtain ⟨U, rfl⟩ : ∃ U, U = wr := ⟨_, rfl⟩
    by_cases hlt : k < AL
    · have hkI : (k : Int) < (AL : Int) := by omega
      have hkI0 : (0 : Int) ≤ (k : Int) := by omega
      have hkl : k < AH.length := by rw [HAL.out]; exact hlt
      have hb0 : Below base W0 U := HW0.out.trans hbr
      have hrow := Hint.out.grown (by rw [hbase.out]; exact hb0)
      have htk : Hid (AH.take (k + 1) = AH.take k ++ [AH[k]]) := Lib.hid (by rw [List.take_add_one, List.getElem?_eq_getElem hkl]; rfl)
      have hwf := Hfit.out _ (List.getElem_mem hkl)
      obtain ⟨b, bo, hb⟩ := hrow.at_ k (by rw [List.length_map]; exact hkl)
      have cb := hrow.cell b bo hb k (by rw [List.length_map]; exact hkl)
      rw [List.getElem_map] at cb
      obtain ⟨y, hy⟩ : ∃ v, Hid (AH[k] = v) := ⟨_, Lib.hid rfl⟩
      rw [hy.out] at cb htk hwf
      have hblb := World.block_lt_of_cell? _ _ cb
      have h0 := HN.out.hbx.cell 0
      have h0l := HN.out.hbx.lt
      simp only [List.getElem?_cons_zero] at h0
      obtain ⟨g1, hg1, hc1⟩ := row_at HN.out.r1 hr
      have hc1l := World.block_lt_of_cell? _ _ hc1
      have hle := row_le HN.out.r1
      have Hadd := Lib.hid (zAdd_any U (p r) (n + k) _ y (HN.out.s1 r hr) hwf (by unfold maxLen; omega))
      have hplo := (HN.out.lo.2.2.2 r hr).1
      obtain ⟨pr, hpr⟩ : ∃ q, Hid (p r = q) := ⟨_, Lib.hid rfl⟩
      rw [hpr.out] at hc1 Hadd
      have Hplo := Lib.hid hplo
      have Hbr := Lib.hid hbr
      subst hg1
      subst hb
      clear hrow hb0 hplo hbr
      obtain ⟨Z, hZ⟩ : ∃ q, Hid ((!(MB r y || (decide (r = r) && decide (y ∈ AH.take k)))) = q) := ⟨_, Lib.hid rfl⟩
      have Hadd2 : Hid (Calls Try.prog 61 #[.map (some pr), .int .i64 y] U fun e W' => e = .returned (.bool Z) ∧ SetZ W' pr (n + k + 1) (fun t => decide (t = y) || (MB r t || (decide (r = r) && decide (t ∈ AH.take k)))) ∧ U.grownBy W' (some pr)) := Lib.hid (by rw [← hZ.out]; exact Hadd.out)
      clear Hadd
      go_wp2_with (fail)
      refine Hadd2.out.mono ?_
      rintro e w5 ⟨rfl, hs5, hg5⟩
      have HN5 : Hid (NbAt w5 base hb lb L (n + (k + 1)) (some ⟨g1, 0, none⟩) bc la lc p q (fun t y => MB t y || (decide (t = r) && decide (y ∈ AH.take (k + 1)))) ML) := Lib.hid ((HN.out.turn1 hr (by rw [hpr.out]; exact hs5) (by rw [hpr.out]; exact hg5)).congr (fun t z => by
        rw [htk.out]
        by_cases e : t = r
        · subst e
          rw [if_pos rfl]
          by_cases e2 : z = y
          · subst e2; simp
          · simp [e2]
        · rw [if_neg e]; simp [e]) (fun t z => rfl))
      have Hb5 := Lib.hid (Hbr.out.trans (belowAt hg5 (B := base) (fun i e => by injection e with e; have := Hplo.out; rw [hpr.out] at this; omega) (Nat.le_trans hbW Hbr.out.size)))
      clear hs5 hg5 h0 h0l hc1 hc1l cb hblb
      go_wp2_with (fail)
      exact ⟨⟨k + 1, by omega, by go_num, HN5, Hb5.out⟩, by simp [RowKit.intOf]; omega⟩
    · have hke : k = AL := by omega
      have hkI : ¬ (k : Int) < (AL : Int) := by omega
      rw [hke, List.take_of_length_le (by rw [HAL.out]; exact Nat.le_refl _)] at HN
      clear hke
      cases E
      case false =>
        have Hfin : Hid (Q (.returned (.tuple #[])) U) := Lib.hid (HQ.out _ _ ⟨rfl, (HN.out.mono (by omega)).congr (fun t y => rfl) (fun t y => by simp), hbr⟩)
        clear hbr
        go_wp2_with (fail)
        first | exact Hfin.out | exact bodyPost_end (v := .tuple #[]) (by simp [results, Try.results93, go_sem]; try rfl) rfl Hfin.out
      case true =>
        have h0 := HN.out.lbx.cell 0
        have h0l := HN.out.lbx.lt
        simp only [List.getElem?_cons_zero] at h0
        obtain ⟨g1, hg1, hc1⟩ := row_at HN.out.r2 hr
        have hc1l := World.block_lt_of_cell? _ _ hc1
        have hle := row_le HN.out.r2
        have Hadd := Lib.hid (zAdd_any U (q r) (n + AL) _ (i : Int) (HN.out.s2 r hr) Hfi.out (by unfold maxLen; omega))
        have hplo := (HN.out.lo.2.2.2 r hr).2
        obtain ⟨pr, hpr⟩ : ∃ x, Hid (q r = x) := ⟨_, Lib.hid rfl⟩
        rw [hpr.out] at hc1 Hadd
        obtain ⟨Z, hZ⟩ : ∃ x, Hid ((!(ML r (i : Int))) = x) := ⟨_, Lib.hid rfl⟩
        rw [hZ.out] at Hadd
        have Hplo := Lib.hid hplo
        have Hbr := Lib.hid hbr
        subst hg1
        clear hplo hbr
        go_wp2_with (fail)
        refine Hadd.out.mono ?_
        rintro e w5 ⟨rfl, hs5, hg5⟩
        have HN5 : Hid (NbAt w5 base hb lb L (n + 1000) ba bc (some ⟨g1, 0, none⟩) lc p q (fun t y => MB t y || (decide (t = r) && decide (y ∈ AH))) (fun t y => ML t y || (decide (t = r) && (true && decide (y = (i : Int)))))) := Lib.hid (((HN.out.turn2 hr (by rw [hpr.out]; exact hs5) (by rw [hpr.out]; exact hg5)).mono (by omega)).congr (fun t z => rfl) (fun t z => by
          by_cases e : t = r
          · subst e
            rw [if_pos rfl]
            cases ML t z <;> simp
          · rw [if_neg e]; simp [e]))
        have Hb5 := Lib.hid (Hbr.out.trans (belowAt hg5 (B := base) (fun i e => by injection e with e; have := Hplo.out; rw [hpr.out] at this; omega) (Nat.le_trans hbW Hbr.out.size)))
        have Hfin : Hid (Q (.returned (.tuple #[])) w5) := Lib.hid (HQ.out _ _ ⟨rfl, HN5.out, Hb5.out⟩)
        clear hs5 hg5 h0 h0l hc1 hc1l
        go_wp2_with (fail)
        first | exact Hfin.out | exact bodyPost_end (v := .tuple #[]) (by simp [results, Try.results93, go_sem]; try rfl) rfl Hfin.out
end Go.Proofs.Ytldmgifphkpdlaa

