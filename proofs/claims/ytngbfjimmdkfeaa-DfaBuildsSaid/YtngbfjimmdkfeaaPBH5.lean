/- Texts joined: He. -/
import Derived.Test.YtngbfjimmdkfeaaPBH1
set_option linter.unusedVariables false
set_option linter.unusedSimpArgs false
namespace Go.Proofs.Ytngbfjimmdkfeaa
open Go.RowKit Go.Shelf Go.Maps

attribute [local go_sem] Oper.semAt_some

/-- All but the bad blocks stay as they are. -/
structure Kps (bad : Nat → Prop) (W W' : World) : Prop where
  os : W'.os = W.os
  tape : W'.tape = W.tape
  output : W'.output = W.output
  size : W.heap.size ≤ W'.heap.size
  block : ∀ k, k < W.heap.size → ¬ bad k → W'.heap[k]? = W.heap[k]?
theorem Kps.refl (bad : Nat → Prop) (W : World) : Kps bad W W := ⟨rfl, rfl, rfl, Nat.le_refl _, fun _ _ _ => rfl⟩
theorem Kps.trans {b1 b2 b3 : Nat → Prop} {W1 W2 W3 : World} (h : Kps b1 W1 W2) (k : Kps b2 W2 W3) (e1 : ∀ i, b1 i → b3 i) (e2 : ∀ i, b2 i → i < W1.heap.size → b3 i) : Kps b3 W1 W3 :=
  ⟨k.os.trans h.os, k.tape.trans h.tape, k.output.trans h.output, Nat.le_trans h.size k.size, fun i hi hb => (k.block i (Nat.lt_of_lt_of_le hi h.size) (fun e => hb (e2 i e hi))).trans (h.block i hi (fun e => hb (e1 i e)))⟩
theorem Kps.mono {b1 b2 : Nat → Prop} {W1 W2 : World} (h : Kps b1 W1 W2) (e : ∀ i, b1 i → i < W1.heap.size → b2 i) : Kps b2 W1 W2 := ⟨h.os, h.tape, h.output, h.size, fun i hi hb => h.block i hi (fun k => hb (e i k hi))⟩
theorem Kps.below {bad : Nat → Prop} {W W' : World} {n : Nat} (h : Kps bad W W') (hn : ∀ k, bad k → n ≤ k) (hs : n ≤ W.heap.size) : Below n W W' :=
  ⟨h.os, h.tape, h.output, h.size, fun k hk => h.block k (by omega) (fun e => by have := hn k e; omega)⟩
theorem kps_grown {W W' : World} {row : Option Nat} (hg : W.grownBy W' row) : Kps (fun k => row = some k) W W' :=
  ⟨hg.os, hg.tape, hg.output, hg.size, fun k hk hb => hg.block k hk (fun e => hb e.symm)⟩
theorem kps_below {W W' : World} (h : Below W.heap.size W W') : Kps (fun _ => False) W W' := ⟨h.os, h.tape, h.output, h.size, fun k hk _ => h.block k hk⟩
theorem Kps.blk {bad : Nat → Prop} {W W' : World} (h : Kps bad W W') {b : Nat} {t : TypeId} {l : List Value} (hb : Blk W b t l) (hn : ¬ bad b) : Blk W' b t l := by
  have hlt := hb.lt
  unfold Blk at *
  rw [h.block b hlt hn]; exact hb
theorem Kps.grown {bad : Nat → Prop} {W W' : World} (h : Kps bad W W') (row : Option Nat) (hb : ∀ k, k < W.heap.size → bad k → row = some k) : W.grownBy W' row :=
  ⟨h.os, h.tape, h.output, h.size, fun k hk hne => h.block k hk (fun e => hne (hb k hk e).symm)⟩
/-- A block of cells is no map. -/
theorem MapI.ne_blk {W : World} {b n c : Nat} {m : Nat → Int} {t : TypeId} {l : List Value} (h : MapI W b n m) (hb : Blk W c t l) : b ≠ c := by
  rintro rfl
  obtain ⟨D, ⟨es, clock, h1, _⟩, _⟩ := h
  unfold Blk at hb
  rw [h1] at hb
  cases hb
theorem MapI.keptK {W W' : World} {b n : Nat} {m : Nat → Int} {bad : Nat → Prop} (h : MapI W b n m) (hk : Kps bad W W') (hn : ¬ bad b) : MapI W' b n m := by
  obtain ⟨D, ⟨es, clock, h1, h4⟩, h2⟩ := h
  exact ⟨D, ⟨es, clock, (hk.block b (Array.getElem?_eq_some_iff.1 h1).1 hn).trans h1, h4⟩, h2⟩
theorem blk_ne {W : World} {b c : Nat} {t u : TypeId} {l m : List Value} (h : Blk W b t l) (k : Blk W c u m) (hn : t ≠ u) : b ≠ c := by
  rintro rfl
  unfold Blk at *
  rw [h] at k
  cases k
  exact hn rfl
/-- The walker stays where blocks are written that are none of its own. -/
theorem WkAt.keptK {w0 W W' : World} {wb : Nat} {x : Nf} {p : NfL} {L : WkL} {R : Int} {mn : Nat} {m : Nat → Int} {bad : Nat → Prop} (h : WkAt w0 W wb x p L R mn m) (hk : Kps bad W W') (hb : ∀ k, bad k → w0.heap.size ≤ k) (h1 : ¬ bad wb) (h2 : ¬ bad L.fb) (h3 : ¬ bad L.nb) (h4 : ¬ bad L.mb) : WkAt w0 W' wb x p L R mn m :=
  ⟨hk.blk h.box h1, hk.blk h.first h2, hk.blk h.next h3, h.mp.keptK hk h4, h.es, h.bel.trans (hk.below hb h.bel.size), h.own⟩

/-- The walker beside the list of those that were met, in the block ob. -/
structure MtAt (w0 W : World) (wb bW ob base : Nat) (x : Nf) (p : NfL) (L : WkL) (R : Int) (mn : Nat) (m : Nat → Int) (oa : Option Addr) (oc : Nat) (out : List Nat) : Prop where
  wk : WkAt w0 W wb x p L R mn m
  bw : Blk W bW 119 [.pointer (some ⟨wb, 0, none⟩)]
  oblk : Blk W ob 23 [.slice oa out.length oc]
  row : OwnI W base oa out.length oc out
  hb : w0.heap.size ≤ base ∧ base ≤ W.heap.size ∧ wb < base ∧ L.fb < base ∧ L.nb < base ∧ L.mb < base ∧ base ≤ bW ∧ base ≤ ob
/-- What meeting may write. -/
def mtBad (mb ob : Nat) (oa : Option Addr) (k : Nat) : Prop := k = mb ∨ k = ob ∨ obk oa = some k
theorem OwnI.obk_typ {w : World} {base n cap : Nat} {a : Option Addr} {l : List Nat} (h : OwnI w base a n cap l) {g : Nat} (e : obk a = some g) : base ≤ g ∧ ∃ cur, w.heap[g]? = some (.cells cur 3 (0, 0)) := h.typ g (by rw [ownBlock_obk]; exact e)
theorem OwnI.obk_ne {w : World} {base n cap c : Nat} {a : Option Addr} {l : List Nat} {t : TypeId} {cs : List Value} (h : OwnI w base a n cap l) (hb : Blk w c t cs) (ht : t ≠ 3) : obk a ≠ some c := by
  intro e
  obtain ⟨_, cur, h1⟩ := h.obk_typ e
  unfold Blk at hb
  rw [h1] at hb
  cases hb
  exact ht rfl
theorem OwnI.obk_map {w : World} {base n cap c k : Nat} {a : Option Addr} {l : List Nat} {m : Nat → Int} (h : OwnI w base a n cap l) (hb : MapI w c k m) : obk a ≠ some c := by
  intro e
  obtain ⟨_, cur, h1⟩ := h.obk_typ e
  obtain ⟨D, ⟨es, clock, h2, _⟩, _⟩ := hb
  rw [h1] at h2
  cases h2
section
variable {w0 W : World} {wb bW ob base : Nat} {x : Nf} {p : NfL} {L : WkL} {R : Int} {mn : Nat} {m : Nat → Int} {oa : Option Addr} {oc : Nat} {out : List Nat}
theorem MtAt.keptK {W' : World} {bad : Nat → Prop} (h : MtAt w0 W wb bW ob base x p L R mn m oa oc out) (hk : Kps bad W W') (hb : ∀ k, bad k → w0.heap.size ≤ k) (h1 : ¬ bad wb) (h2 : ¬ bad L.fb) (h3 : ¬ bad L.nb) (h4 : ¬ bad L.mb) (h5 : ¬ bad bW) (h6 : ¬ bad ob) (h7 : ∀ g, obk oa = some g → ¬ bad g) : MtAt w0 W' wb bW ob base x p L R mn m oa oc out := by
  obtain ⟨q1, q2, q3, q4, q5, q6, q7, q8⟩ := h.hb
  refine ⟨h.wk.keptK hk hb h1 h2 h3 h4, hk.blk h.bw h5, hk.blk h.oblk h6, ?_, q1, Nat.le_trans q2 hk.size, q3, q4, q5, q6, q7, q8⟩
  have := h.row
  refine ⟨this.1, this.2.imp id ?_⟩
  rintro ⟨g, cap, cur, e1, e2, e3, e4⟩
  refine ⟨g, cap, cur, e1, e2, ?_, e4⟩
  rw [hk.block g (Array.getElem?_eq_some_iff.1 e3).1 (h7 g (by injection e1 with e1; rw [e1]; rfl))]
  exact e3
theorem MtAt.drew (h : MtAt w0 W wb bW ob base x p L R mn m oa oc out) : MtAt w0 W.drew wb bW ob base x p L R mn m oa oc out :=
  h.keptK (kps_below (Below.refl _ W).drew) (fun _ h => h.elim) id id id id id id (fun _ _ => id)
set_option maxRecDepth 100000 in
/-- A state is written down as met in the map. -/
theorem MtAt.mark (h : MtAt w0 W wb bW ob base x p L R mn m oa oc out) (st : Nat) (v : Int) (hk : (Lit.int .i64 (st : Int)).wf = true) (hv : (Lit.int .i64 v).wf = true) (hn : mn < maxLen) :
    ∃ W', (Instr.mapUpdate 127 (.map (some L.mb)) (.int .i64 (st : Int)) (.int .i64 v)).run Try.prog W = .ok () W' ∧ MtAt w0 W' wb bW ob base x p L R (mn + 1) (fun j => if j = st then v else m j) oa oc out ∧ Kps (mtBad L.mb ob oa) W W' := by
  obtain ⟨W', hrun, hm, hg⟩ := h.wk.mp.store st v hk hv hn
  have hK := kps_grown hg
  obtain ⟨q1, q2, q3, q4, q5, q6, q7, q8⟩ := h.hb
  have hmp := h.wk.mp
  have n1 := hmp.ne_blk h.wk.box
  have n2 := hmp.ne_blk h.wk.first
  have n3 := hmp.ne_blk h.wk.next
  have n4 := hmp.ne_blk h.bw
  have n5 := hmp.ne_blk h.oblk
  have b1 : ∀ k, some L.mb = some k → w0.heap.size ≤ k := fun k e => by cases e; exact h.wk.own.2.2.2
  refine ⟨W', hrun, ⟨⟨hK.blk h.wk.box (fun e => n1 (by injection e)), hK.blk h.wk.first (fun e => n2 (by injection e)), hK.blk h.wk.next (fun e => n3 (by injection e)), hm, h.wk.es, h.wk.bel.trans (hK.below b1 h.wk.bel.size), h.wk.own⟩, hK.blk h.bw (fun e => n4 (by injection e)), hK.blk h.oblk (fun e => n5 (by injection e)), h.row.kept hg (.inr (h.row.obk_map hmp)), q1, Nat.le_trans q2 hg.size, q3, q4, q5, q6, q7, q8⟩, hK.mono (fun i e _ => .inl (by injection e with e; exact e.symm))⟩
set_option maxRecDepth 100000 in
/-- A state is put onto those that were met. -/
theorem MtAt.push (h : MtAt w0 W wb bW ob base x p L R mn m oa oc out) (st : Nat) (ty : TypeId) (hn : out.length + 1 ≤ 1099511627780) :
    ∃ a' c' w', (Builtin.append_ #[23, 23] ty #[.slice oa out.length oc, .slice (some ⟨W.heap.size, 0, none⟩) 1 1]).run Try.prog (W.alloc (.cells #[iv st] 3)) = .ok (.slice a' (out.length + 1) c') w' ∧
      Blk w' ob 23 [.slice oa out.length oc] ∧ MtAt w0 (w'.setCell ⟨ob, 0, none⟩ (.slice a' (out.length + 1) c')) wb bW ob base x p L R mn m a' c' (out ++ [st]) ∧ Kps (mtBad L.mb ob oa) W (w'.setCell ⟨ob, 0, none⟩ (.slice a' (out.length + 1) c')) ∧ New W.heap.size oa a' := by
  obtain ⟨q1, q2, q3, q4, q5, q6, q7, q8⟩ := h.hb
  obtain ⟨a', c', w', hrun, hown, hg, hnew⟩ := run_pushI W ty st (iv st) rfl h.row hn q2
  rw [ownBlock_obk] at hg
  have hob := h.row.obk_ne h.oblk (by decide)
  have hbw := h.row.obk_ne h.bw (by decide)
  have hlow : ∀ k, k < base → obk oa ≠ some k := fun k hk e => by have := (h.row.obk_typ e).1; omega
  have n5 := h.wk.mp.ne_blk h.oblk
  have n6 := blk_ne h.bw h.oblk (by decide)
  have hob' : Blk w' ob 23 [.slice oa out.length oc] := h.oblk.kept hg (fun e => hob e.symm)
  have ha' : obk a' ≠ some ob := by
    intro e
    obtain ⟨_, cur, h1⟩ := OwnI.obk_typ (show OwnI w' base a' (out.length + 1) c' (out ++ [st]) from hown) e
    unfold Blk at hob'
    rw [h1] at hob'
    cases hob'
  have hg2 := grownBy_set w' ob 0 (.slice a' (out.length + 1) c')
  have hK : Kps (mtBad L.mb ob oa) W (w'.setCell ⟨ob, 0, none⟩ (.slice a' (out.length + 1) c')) := (kps_grown hg).trans (kps_grown hg2) (fun i e => .inr (.inr e)) (fun i e _ => .inr (.inl (by injection e with e; exact e.symm)))
  have b1 : ∀ k, (obk oa = some k ∨ k = ob) → w0.heap.size ≤ k := fun k e => by
    rcases e with e | e
    · have := (h.row.obk_typ e).1; omega
    · omega
  have hK2 : Kps (fun k => obk oa = some k ∨ k = ob) W (w'.setCell ⟨ob, 0, none⟩ (.slice a' (out.length + 1) c')) := (kps_grown hg).trans (kps_grown hg2) (fun i e => .inl e) (fun i e _ => .inr (by injection e with e; exact e.symm))
  have nb : ∀ k, k < base → ¬ (obk oa = some k ∨ k = ob) := fun k hk e => by
    rcases e with e | e
    · exact hlow k hk e
    · omega
  refine ⟨a', c', w', hrun, hob', ⟨h.wk.keptK hK2 b1 (nb _ q3) (nb _ q4) (nb _ q5) (nb _ q6), hK2.blk h.bw (fun e => e.elim hbw n6), ?_, ?_, q1, Nat.le_trans q2 hK.size, q3, q4, q5, q6, q7, q8⟩, hK, hnew⟩
  · have := hob'.set 0 (.slice a' (out.length + 1) c')
    rw [List.length_append]
    exact this
  · rw [List.length_append]
    exact OwnI.kept hown hg2 (.inr ha')
end
/-- A store into a map, as one step of a region that draws. -/
theorem step_mapUpdate_run {P : Program} {ops : Array Oper} {o : Oper} {a : Act} {w : World} {K : Act → World → Prop} {Q : Exit → Act → World → Prop} {E : Prop} (hgd : o.guard = none) (m x v : Operand) (t : TypeId)
    (hop : o.op = Op.mapUpdate t m x v) (vm vx vv : Value) (w' : World) (hm : a.eval m = vm) (hx : a.eval x = vx) (hv : a.eval v = vv)
    (hrun : (Instr.mapUpdate t vm vx vv).run P w = .ok () w') (h : K (a.put o.dst undef) w') :
    if Region.wanted o (yielded ops a.tmps) = true then Oper.wp P o a w K Q else E := by
  have hw : Region.wanted o (yielded ops a.tmps) = true := by simp [Region.wanted, hgd]
  rw [if_pos hw]
  unfold Oper.wp
  simp [execOp, hop, hm, hx, hv, hrun, Result.andThen]
  exact h

/-- What meeting a state comes to. -/
def MetQ (w0 W : World) (wb bW ob base : Nat) (x : Nf) (p : NfL) (L : WkL) (R : Int) (mn : Nat) (m : Nat → Int) (oa : Option Addr) (out : List Nat) (st : Nat) (w' : World) : Prop :=
  ∃ mn' m' a' c' out', MtAt w0 w' wb bW ob base x p L R mn' m' a' c' out' ∧ Kps (mtBad L.mb ob oa) W w' ∧ New W.heap.size oa a' ∧ (if m st < R then out' = out ++ [st] ∧ m' = (fun j => if j = st then R else m j) ∧ mn' = mn + 1 else out' = out ∧ m' = m ∧ mn' = mn)

set_option maxRecDepth 100000 in
set_option maxHeartbeats 2000000 in
theorem nmeet_any (w0 W : World) (wb bW ob base : Nat) (x : Nf) (p : NfL) (L : WkL) (R mn : Nat) (m : Nat → Int) (oa : Option Addr) (oc : Nat) (out : List Nat) (st : Nat) (hM : MtAt w0 W wb bW ob base x p L (R : Int) mn m oa oc out)
    (hst : st ≤ 1000000) (hR : R ≤ 1000000000000) (hmn : mn < 4611686018427387904) (hol : out.length + 1 ≤ 1099511627780) :
    Calls Try.prog 83 #[.int .i64 (st : Int), .pointer (some ⟨bW, 0, none⟩), .pointer (some ⟨ob, 0, none⟩)] W fun e w' => e = .returned (.tuple #[]) ∧ MetQ w0 W wb bW ob base x p L (R : Int) mn m oa out st w' := by
  have hwfs : (Lit.int .i64 (st : Int)).wf = true := WalkArith.wf_i64 (by omega)
  have hwfR : (Lit.int .i64 (R : Int)).wf = true := WalkArith.wf_i64 (by omega)
  obtain ⟨fb, nb, mb⟩ := L
  have hMd := hM.drew
  obtain ⟨V, hV⟩ : ∃ V, Hid (m st = V) := ⟨_, Lib.hid rfl⟩
  have HS0 : Hid (∀ W, MtAt w0 W wb bW ob base x p ⟨fb, nb, mb⟩ (R : Int) mn m oa oc out → (W.cell? ⟨bW, 0, none⟩ = some (.pointer (some ⟨wb, 0, none⟩)) ∧ W.cell? ⟨wb, 4, none⟩ = some (.map (some mb)) ∧ W.cell? ⟨wb, 3, none⟩ = some (.int .i64 (R : Int)) ∧ (Instr.lookup 127 (.map (some mb)) (.int .i64 (st : Int)) false).run Try.prog W = .ok (.int .i64 V) W)) := Lib.hid (fun W h => ⟨by simpa using h.bw.cell 0, by simpa using h.wk.box.cell 4, by simpa using h.wk.box.cell 3, by have := (h.wk.mp.look st hwfs).1; rw [hV.out] at this; exact this⟩)
  have HS1 : Hid (∀ W {mn m}, MtAt w0 W wb bW ob base x p ⟨fb, nb, mb⟩ (R : Int) mn m oa oc out → (W.cell? ⟨bW, 0, none⟩ = some (.pointer (some ⟨wb, 0, none⟩)) ∧ W.cell? ⟨wb, 4, none⟩ = some (.map (some mb)) ∧ W.cell? ⟨wb, 3, none⟩ = some (.int .i64 (R : Int)))) := Lib.hid (fun W {mn m} h => ⟨by simpa using h.bw.cell 0, by simpa using h.wk.box.cell 4, by simpa using h.wk.box.cell 3⟩)
  have HM := Lib.hid hM
  have HMd := Lib.hid hMd
  clear hM hMd
  go_enter Try.func83, Try.ntmps83
  unfold MetQ
  rw [hV.out]
  by_cases hlt : V < (R : Int)
  · have hltb : decide (V < (R : Int)) = true := decide_eq_true hlt
    have HIF := Lib.hid hlt
    go_wp2_with (fail)
    refine wp_region_held_drew (S := fun w' => (w'.cell? ⟨bW, 0, none⟩ = some (.pointer (some ⟨wb, 0, none⟩)) ∧ w'.cell? ⟨wb, 4, none⟩ = some (.map (some mb)) ∧ w'.cell? ⟨wb, 3, none⟩ = some (.int .i64 (R : Int)) ∧ (Instr.lookup 127 (.map (some mb)) (.int .i64 (st : Int)) false).run Try.prog w' = .ok (.int .i64 V) w')) (by kernel_rfl) ?_ (fun hHeld => ?_)
    · exact HS0.out _ HMd.out
    refine wpAnyH_take (i := 0) (v := ?_) (gatL gatZ) (by kernel_rfl) (by kernel_rfl) (by kernel_rfl) (fun _ _ _ h => h) (Or.inl ⟨by rfl, ?_⟩) (by assumption) ?_
    rotate_left
    · intro w hSw
      try dsimp only at hSw
      go_simp
      all_goals with_reducible rfl
    try simp only [Act.put, List.setIfInBounds_toArray, List.set_cons_zero, List.set_cons_succ]
    refine wpAnyH_take (i := 1) (v := ?_) (gatL (gatS gatZ)) (by kernel_rfl) (by kernel_rfl) (by kernel_rfl) (fun _ _ _ h => h) (Or.inl ⟨by rfl, ?_⟩) (by assumption) ?_
    rotate_left
    · intro w hSw
      try dsimp only at hSw
      go_simp
      all_goals with_reducible rfl
    try simp only [Act.put, List.setIfInBounds_toArray, List.set_cons_zero, List.set_cons_succ]
    refine wpAnyH_take (i := 2) (v := ?_) (gatL (gatS (gatS gatZ))) (by kernel_rfl) (by kernel_rfl) (by kernel_rfl) (fun _ _ _ h => h) (Or.inl ⟨by rfl, ?_⟩) (by assumption) ?_
    rotate_left
    · intro w hSw
      try dsimp only at hSw
      go_simp
      all_goals with_reducible rfl
    try simp only [Act.put, List.setIfInBounds_toArray, List.set_cons_zero, List.set_cons_succ]
    refine wpAnyH_take (i := 3) (v := ?_) (gatL (gatS (gatS (gatS gatZ)))) (by kernel_rfl) (by kernel_rfl) (by kernel_rfl) (fun _ _ _ h => h) (Or.inl ⟨by rfl, ?_⟩) (by assumption) ?_
    rotate_left
    · intro w hSw
      try dsimp only at hSw
      go_simp
      all_goals with_reducible rfl
    try simp only [Act.put, List.setIfInBounds_toArray, List.set_cons_zero, List.set_cons_succ]
    refine wpAnyH_take (i := 4) (v := ?_) (gatL (gatS (gatS (gatS (gatS gatZ))))) (by kernel_rfl) (by kernel_rfl) (by kernel_rfl) (fun _ _ _ h => h) (Or.inl ⟨by rfl, ?_⟩) (by assumption) ?_
    rotate_left
    · intro w hSw
      try dsimp only at hSw
      go_simp
      all_goals with_reducible rfl
    try simp only [Act.put, List.setIfInBounds_toArray, List.set_cons_zero, List.set_cons_succ]
    refine wpAnyH_take (i := 5) (v := ?_) (gatL (gatS (gatS (gatS (gatS (gatS gatZ)))))) (by kernel_rfl) (by kernel_rfl) (by kernel_rfl) (fun _ _ _ h => h) (Or.inl ⟨by rfl, ?_⟩) (by assumption) ?_
    rotate_left
    · intro w hSw
      try dsimp only at hSw
      go_simp
      all_goals with_reducible rfl
    try simp only [Act.put, List.setIfInBounds_toArray, List.set_cons_zero, List.set_cons_succ]
    refine wpAnyH_take (i := 6) (v := ?_) (gatL (gatS (gatS (gatS (gatS (gatS (gatS gatZ))))))) (by kernel_rfl) (by kernel_rfl) (by kernel_rfl) (fun _ _ _ h => h) (Or.inl ⟨by rfl, ?_⟩) (by assumption) ?_
    rotate_left
    · intro w hSw
      try dsimp only at hSw
      go_simp
      all_goals with_reducible rfl
    try simp only [Act.put, List.setIfInBounds_toArray, List.set_cons_zero, List.set_cons_succ]
    refine wpAnyH_take (i := 7) (v := ?_) (gatL (gatS (gatS (gatS (gatS (gatS (gatS (gatS gatZ)))))))) (by kernel_rfl) (by kernel_rfl) (by kernel_rfl) (fun _ _ _ h => h) (Or.inl ⟨by rfl, ?_⟩) (by assumption) ?_
    rotate_left
    · intro w hSw
      try dsimp only at hSw
      go_simp
      all_goals with_reducible rfl
    try simp only [Act.put, List.setIfInBounds_toArray, List.set_cons_zero, List.set_cons_succ]
    refine wpAnyH_take (i := 8) (v := ?_) (gatL (gatS (gatS (gatS (gatS (gatS (gatS (gatS (gatS gatZ))))))))) (by kernel_rfl) (by kernel_rfl) (by kernel_rfl) (fun _ _ _ h => h) (Or.inl ⟨by rfl, ?_⟩) (by assumption) ?_
    rotate_left
    · intro w hSw
      try dsimp only at hSw
      go_simp
      all_goals with_reducible rfl
    try simp only [Act.put, List.setIfInBounds_toArray, List.set_cons_zero, List.set_cons_succ]
    refine wpAnyH_take (i := 9) (v := ?_) (gatL (gatS (gatS (gatS (gatS (gatS (gatS (gatS (gatS (gatS gatZ)))))))))) (by kernel_rfl) (by kernel_rfl) (by kernel_rfl) (fun _ _ _ h => h) (Or.inl ⟨by rfl, ?_⟩) (by assumption) ?_
    rotate_left
    · intro w hSw
      try dsimp only at hSw
      go_simp
      all_goals with_reducible rfl
    try simp only [Act.put, List.setIfInBounds_toArray, List.set_cons_zero, List.set_cons_succ]
    refine wpAnyH_take (i := 10) (v := ?_) (gatL (gatS (gatS (gatS (gatS (gatS (gatS (gatS (gatS (gatS (gatS gatZ))))))))))) (by kernel_rfl) (by kernel_rfl) (by kernel_rfl) (fun _ _ _ h => h) (Or.inl ⟨by rfl, ?_⟩) (by assumption) ?_
    rotate_left
    · intro w hSw
      try dsimp only at hSw
      go_simp
      all_goals with_reducible rfl
    try simp only [Act.put, List.setIfInBounds_toArray, List.set_cons_zero, List.set_cons_succ]
    refine wpAnyH_done (by kernel_rfl) ?_ _
    go_wp2_with (fail)
    have HMd2 := Lib.hid HMd.out.drew
    obtain ⟨w5, hsr, hM5, hF5⟩ := HMd2.out.mark st (R : Int) hwfs hwfR (by unfold maxLen; omega)
    have HSr := Lib.hid hsr
    have HM4 := Lib.hid hM5
    have HF4 : Hid (Kps (mtBad mb ob oa) W w5) := Lib.hid ((kps_below ((Below.refl _ W).drew.drew)).trans hF5 (fun _ h => h.elim) (fun k h _ => h))
    clear hsr hM5 hF5
    refine wp_region_held_drew (S := fun w' => (w'.cell? ⟨bW, 0, none⟩ = some (.pointer (some ⟨wb, 0, none⟩)) ∧ w'.cell? ⟨wb, 4, none⟩ = some (.map (some mb)) ∧ w'.cell? ⟨wb, 3, none⟩ = some (.int .i64 (R : Int)))) (by kernel_rfl) ?_ (fun hHeld => ?_)
    · exact HS1.out _ HMd2.out
    refine wpAnyH_take (i := 0) (v := ?_) (gatL gatZ) (by kernel_rfl) (by kernel_rfl) (by kernel_rfl) (fun _ _ _ h => h) (Or.inl ⟨by rfl, ?_⟩) (by assumption) ?_
    rotate_left
    · intro w hSw
      try dsimp only at hSw
      go_simp
      all_goals with_reducible rfl
    try simp only [Act.put, List.setIfInBounds_toArray, List.set_cons_zero, List.set_cons_succ]
    refine wpAnyH_take (i := 1) (v := ?_) (gatL (gatS gatZ)) (by kernel_rfl) (by kernel_rfl) (by kernel_rfl) (fun _ _ _ h => h) (Or.inl ⟨by rfl, ?_⟩) (by assumption) ?_
    rotate_left
    · intro w hSw
      try dsimp only at hSw
      go_simp
      all_goals with_reducible rfl
    try simp only [Act.put, List.setIfInBounds_toArray, List.set_cons_zero, List.set_cons_succ]
    refine wpAnyH_take (i := 2) (v := ?_) (gatL (gatS (gatS gatZ))) (by kernel_rfl) (by kernel_rfl) (by kernel_rfl) (fun _ _ _ h => h) (Or.inl ⟨by rfl, ?_⟩) (by assumption) ?_
    rotate_left
    · intro w hSw
      try dsimp only at hSw
      go_simp
      all_goals with_reducible rfl
    try simp only [Act.put, List.setIfInBounds_toArray, List.set_cons_zero, List.set_cons_succ]
    refine wpAnyH_take (i := 3) (v := ?_) (gatL (gatS (gatS (gatS gatZ)))) (by kernel_rfl) (by kernel_rfl) (by kernel_rfl) (fun _ _ _ h => h) (Or.inl ⟨by rfl, ?_⟩) (by assumption) ?_
    rotate_left
    · intro w hSw
      try dsimp only at hSw
      go_simp
      all_goals with_reducible rfl
    try simp only [Act.put, List.setIfInBounds_toArray, List.set_cons_zero, List.set_cons_succ]
    refine wpAnyH_take (i := 4) (v := ?_) (gatL (gatS (gatS (gatS (gatS gatZ))))) (by kernel_rfl) (by kernel_rfl) (by kernel_rfl) (fun _ _ _ h => h) (Or.inl ⟨by rfl, ?_⟩) (by assumption) ?_
    rotate_left
    · intro w hSw
      try dsimp only at hSw
      go_simp
      all_goals with_reducible rfl
    try simp only [Act.put, List.setIfInBounds_toArray, List.set_cons_zero, List.set_cons_succ]
    refine wpAnyH_take (i := 5) (v := ?_) (gatL (gatS (gatS (gatS (gatS (gatS gatZ)))))) (by kernel_rfl) (by kernel_rfl) (by kernel_rfl) (fun _ _ _ h => h) (Or.inl ⟨by rfl, ?_⟩) (by assumption) ?_
    rotate_left
    · intro w hSw
      try dsimp only at hSw
      go_simp
      all_goals with_reducible rfl
    try simp only [Act.put, List.setIfInBounds_toArray, List.set_cons_zero, List.set_cons_succ]
    refine wpAnyH_take (i := 6) (v := ?_) (gatL (gatS (gatS (gatS (gatS (gatS (gatS gatZ))))))) (by kernel_rfl) (by kernel_rfl) (by kernel_rfl) (fun _ _ _ h => h) (Or.inl ⟨by rfl, ?_⟩) (by assumption) ?_
    rotate_left
    · intro w hSw
      try dsimp only at hSw
      go_simp
      all_goals with_reducible rfl
    try simp only [Act.put, List.setIfInBounds_toArray, List.set_cons_zero, List.set_cons_succ]
    refine wpAnyH_take (i := 7) (v := ?_) (gatL (gatS (gatS (gatS (gatS (gatS (gatS (gatS gatZ)))))))) (by kernel_rfl) (by kernel_rfl) (by kernel_rfl) (fun _ _ _ h => h) (Or.inl ⟨by rfl, ?_⟩) (by assumption) ?_
    rotate_left
    · intro w hSw
      try dsimp only at hSw
      go_simp
      all_goals with_reducible rfl
    try simp only [Act.put, List.setIfInBounds_toArray, List.set_cons_zero, List.set_cons_succ]
    refine wpAnyH_take (i := 8) (v := ?_) (gatL (gatS (gatS (gatS (gatS (gatS (gatS (gatS (gatS gatZ))))))))) (by kernel_rfl) (by kernel_rfl) (by kernel_rfl) (fun _ _ _ h => h) (Or.inl ⟨by rfl, ?_⟩) (by assumption) ?_
    rotate_left
    · intro w hSw
      try dsimp only at hSw
      go_simp
      all_goals with_reducible rfl
    try simp only [Act.put, List.setIfInBounds_toArray, List.set_cons_zero, List.set_cons_succ]
    refine wpAnyH_ready (rs := [9]) (by kernel_rfl) (by simp) ?_
    refine AllReadyH.cons (gatL (gatS (gatS (gatS (gatS (gatS (gatS (gatS (gatS (gatS gatZ)))))))))) (fun K hK => ?_) AllReadyH.nil
    refine step_mapUpdate_run rfl _ _ _ 127 rfl _ _ _ _ rfl rfl rfl HSr.out ?_
    refine hK.out _ _ ?_ (fun hHeld => ?_)
    · exact HS1.out _ HM4.out
    clear hK K
    try simp only [Act.put, List.setIfInBounds_toArray, List.set_cons_zero, List.set_cons_succ]
    refine wpAnyH_done (by kernel_rfl) ?_ _
    obtain ⟨a6, c6, w6, hrun, hk6, hM6, hF6, hN6⟩ := HM4.out.push st 23 hol
    have hr6 := Lib.hid hrun
    clear hrun
    have y0 := HM4.out.oblk.cell 0
    have yl := HM4.out.oblk.lt
    have z0 := hk6.cell 0
    have zf := hk6.frozen 0
    have zl := hk6.lt
    simp only [List.getElem?_cons_zero] at y0 z0
    go_wp2_with (at_builtin; refine wpList_append_run rfl _ _ 23 23 rfl _ _ _ _ rfl rfl hr6.out ?_)
    go_end0
    exact ⟨rfl, _, _, a6, c6, _, hM6, HF4.out.trans hF6 (fun k h => h) (fun k h _ => h), hN6.imp id (fun ⟨g, h1, h2⟩ => ⟨g, h1, Nat.le_trans HF4.out.size h2⟩), ⟨rfl, rfl, rfl⟩⟩
  · have hltb : decide (V < (R : Int)) = false := decide_eq_false hlt
    have HIF := Lib.hid hlt
    go_wp2_with (fail)
    refine wp_region_held_drew (S := fun w' => (w'.cell? ⟨bW, 0, none⟩ = some (.pointer (some ⟨wb, 0, none⟩)) ∧ w'.cell? ⟨wb, 4, none⟩ = some (.map (some mb)) ∧ w'.cell? ⟨wb, 3, none⟩ = some (.int .i64 (R : Int)) ∧ (Instr.lookup 127 (.map (some mb)) (.int .i64 (st : Int)) false).run Try.prog w' = .ok (.int .i64 V) w')) (by kernel_rfl) ?_ (fun hHeld => ?_)
    · exact HS0.out _ HMd.out
    refine wpAnyH_take (i := 0) (v := ?_) (gatL gatZ) (by kernel_rfl) (by kernel_rfl) (by kernel_rfl) (fun _ _ _ h => h) (Or.inl ⟨by rfl, ?_⟩) (by assumption) ?_
    rotate_left
    · intro w hSw
      try dsimp only at hSw
      go_simp
      all_goals with_reducible rfl
    try simp only [Act.put, List.setIfInBounds_toArray, List.set_cons_zero, List.set_cons_succ]
    refine wpAnyH_take (i := 1) (v := ?_) (gatL (gatS gatZ)) (by kernel_rfl) (by kernel_rfl) (by kernel_rfl) (fun _ _ _ h => h) (Or.inl ⟨by rfl, ?_⟩) (by assumption) ?_
    rotate_left
    · intro w hSw
      try dsimp only at hSw
      go_simp
      all_goals with_reducible rfl
    try simp only [Act.put, List.setIfInBounds_toArray, List.set_cons_zero, List.set_cons_succ]
    refine wpAnyH_take (i := 2) (v := ?_) (gatL (gatS (gatS gatZ))) (by kernel_rfl) (by kernel_rfl) (by kernel_rfl) (fun _ _ _ h => h) (Or.inl ⟨by rfl, ?_⟩) (by assumption) ?_
    rotate_left
    · intro w hSw
      try dsimp only at hSw
      go_simp
      all_goals with_reducible rfl
    try simp only [Act.put, List.setIfInBounds_toArray, List.set_cons_zero, List.set_cons_succ]
    refine wpAnyH_take (i := 3) (v := ?_) (gatL (gatS (gatS (gatS gatZ)))) (by kernel_rfl) (by kernel_rfl) (by kernel_rfl) (fun _ _ _ h => h) (Or.inl ⟨by rfl, ?_⟩) (by assumption) ?_
    rotate_left
    · intro w hSw
      try dsimp only at hSw
      go_simp
      all_goals with_reducible rfl
    try simp only [Act.put, List.setIfInBounds_toArray, List.set_cons_zero, List.set_cons_succ]
    refine wpAnyH_take (i := 4) (v := ?_) (gatL (gatS (gatS (gatS (gatS gatZ))))) (by kernel_rfl) (by kernel_rfl) (by kernel_rfl) (fun _ _ _ h => h) (Or.inl ⟨by rfl, ?_⟩) (by assumption) ?_
    rotate_left
    · intro w hSw
      try dsimp only at hSw
      go_simp
      all_goals with_reducible rfl
    try simp only [Act.put, List.setIfInBounds_toArray, List.set_cons_zero, List.set_cons_succ]
    refine wpAnyH_take (i := 5) (v := ?_) (gatL (gatS (gatS (gatS (gatS (gatS gatZ)))))) (by kernel_rfl) (by kernel_rfl) (by kernel_rfl) (fun _ _ _ h => h) (Or.inl ⟨by rfl, ?_⟩) (by assumption) ?_
    rotate_left
    · intro w hSw
      try dsimp only at hSw
      go_simp
      all_goals with_reducible rfl
    try simp only [Act.put, List.setIfInBounds_toArray, List.set_cons_zero, List.set_cons_succ]
    refine wpAnyH_take (i := 6) (v := ?_) (gatL (gatS (gatS (gatS (gatS (gatS (gatS gatZ))))))) (by kernel_rfl) (by kernel_rfl) (by kernel_rfl) (fun _ _ _ h => h) (Or.inl ⟨by rfl, ?_⟩) (by assumption) ?_
    rotate_left
    · intro w hSw
      try dsimp only at hSw
      go_simp
      all_goals with_reducible rfl
    try simp only [Act.put, List.setIfInBounds_toArray, List.set_cons_zero, List.set_cons_succ]
    refine wpAnyH_take (i := 7) (v := ?_) (gatL (gatS (gatS (gatS (gatS (gatS (gatS (gatS gatZ)))))))) (by kernel_rfl) (by kernel_rfl) (by kernel_rfl) (fun _ _ _ h => h) (Or.inl ⟨by rfl, ?_⟩) (by assumption) ?_
    rotate_left
    · intro w hSw
      try dsimp only at hSw
      go_simp
      all_goals with_reducible rfl
    try simp only [Act.put, List.setIfInBounds_toArray, List.set_cons_zero, List.set_cons_succ]
    refine wpAnyH_take (i := 8) (v := ?_) (gatL (gatS (gatS (gatS (gatS (gatS (gatS (gatS (gatS gatZ))))))))) (by kernel_rfl) (by kernel_rfl) (by kernel_rfl) (fun _ _ _ h => h) (Or.inl ⟨by rfl, ?_⟩) (by assumption) ?_
    rotate_left
    · intro w hSw
      try dsimp only at hSw
      go_simp
      all_goals with_reducible rfl
    try simp only [Act.put, List.setIfInBounds_toArray, List.set_cons_zero, List.set_cons_succ]
    refine wpAnyH_take (i := 9) (v := ?_) (gatL (gatS (gatS (gatS (gatS (gatS (gatS (gatS (gatS (gatS gatZ)))))))))) (by kernel_rfl) (by kernel_rfl) (by kernel_rfl) (fun _ _ _ h => h) (Or.inl ⟨by rfl, ?_⟩) (by assumption) ?_
    rotate_left
    · intro w hSw
      try dsimp only at hSw
      go_simp
      all_goals with_reducible rfl
    try simp only [Act.put, List.setIfInBounds_toArray, List.set_cons_zero, List.set_cons_succ]
    refine wpAnyH_take (i := 10) (v := ?_) (gatL (gatS (gatS (gatS (gatS (gatS (gatS (gatS (gatS (gatS (gatS gatZ))))))))))) (by kernel_rfl) (by kernel_rfl) (by kernel_rfl) (fun _ _ _ h => h) (Or.inl ⟨by rfl, ?_⟩) (by assumption) ?_
    rotate_left
    · intro w hSw
      try dsimp only at hSw
      go_simp
      all_goals with_reducible rfl
    try simp only [Act.put, List.setIfInBounds_toArray, List.set_cons_zero, List.set_cons_succ]
    refine wpAnyH_done (by kernel_rfl) ?_ _
    go_wp2_with (fail)
    go_end0
    exact ⟨rfl, _, _, _, _, _, HMd.out, (kps_below (Below.refl _ W).drew).mono (fun _ h _ => h.elim), .inl rfl, ⟨rfl, rfl, rfl⟩⟩
end Go.Proofs.Ytngbfjimmdkfeaa

