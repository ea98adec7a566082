/- Texts joined: Hg. -/
import Derived.Test.YtngbfjimmdkfeaaPBH6
import Derived.Laws.EntriesVeiled
set_option linter.unusedVariables false
set_option linter.unusedSimpArgs false
namespace Go.Proofs.Ytngbfjimmdkfeaa
open Go.RowKit Go.Shelf Go.Maps

attribute [local go_sem] Oper.semAt_some

/-- Those that were met, so far. -/
structure Met1 (x : Nf) (R : Nat) (mn0 mn : Nat) (set out : List Nat) (m : Nat → Int) : Prop where
  nd : out.Nodup
  lt : ∀ a ∈ out, a < x.n.toNat
  rn : ∀ a ∈ out, Rn x (· ∈ set) a
  iff : ∀ a, m a = ((R + 1 : Nat) : Int) ↔ a ∈ out
  le : ∀ a, m a ≤ ((R + 1 : Nat) : Int)
  mn : mn = mn0 + out.length
theorem Met1.len {x : Nf} {R mn0 mn : Nat} {set out : List Nat} {m : Nat → Int} (h : Met1 x R mn0 mn set out m) (hl : linkB x = true) : out.length ≤ x.n.toNat ∧ out.length ≤ 2000 := by
  have := nodup_len x.n.toNat out h.nd h.lt
  have := link_n hl
  omega
/-- One more is met, or was met before. -/
theorem Met1.meet {x : Nf} {R mn0 mn mn' st : Nat} {set out out' : List Nat} {m m' : Nat → Int} (h : Met1 x R mn0 mn set out m) (hst : st < x.n.toNat) (hr : Rn x (· ∈ set) st)
    (hq : if m st < ((R + 1 : Nat) : Int) then out' = out ++ [st] ∧ m' = (fun j => if j = st then ((R + 1 : Nat) : Int) else m j) ∧ mn' = mn + 1 else out' = out ∧ m' = m ∧ mn' = mn) :
    Met1 x R mn0 mn' set out' m' ∧ st ∈ out' ∧ ∃ r, out' = out ++ r := by
  by_cases hlt : m st < ((R + 1 : Nat) : Int)
  · rw [if_pos hlt] at hq
    obtain ⟨rfl, rfl, rfl⟩ := hq
    have hno : st ∉ out := fun e => by have := (h.iff st).2 e; omega
    refine ⟨⟨?_, ?_, ?_, ?_, ?_, ?_⟩, by simp, [st], rfl⟩
    · rw [List.nodup_append]
      refine ⟨h.nd, by simp, ?_⟩
      intro a ha b hb e
      rw [List.mem_singleton] at hb
      subst hb
      exact hno (e ▸ ha)
    · intro a ha
      rcases List.mem_append.1 ha with ha | ha
      · exact h.lt a ha
      · rw [List.mem_singleton.1 ha]; exact hst
    · intro a ha
      rcases List.mem_append.1 ha with ha | ha
      · exact h.rn a ha
      · rw [List.mem_singleton.1 ha]; exact hr
    · intro a
      by_cases e : a = st
      · subst e; simp
      · simp only [if_neg e, List.mem_append, List.mem_singleton, e, or_false]; exact h.iff a
    · intro a
      by_cases e : a = st
      · subst e; simp
      · simp only [if_neg e]; exact h.le a
    · rw [List.length_append, List.length_singleton, h.mn]; omega
  · rw [if_neg hlt] at hq
    obtain ⟨rfl, rfl, rfl⟩ := hq
    exact ⟨h, (h.iff st).1 (by have := h.le st; omega), [], by simp⟩

/-- What closing comes to. -/
def ClQ (w0 W : World) (wb : Nat) (x : Nf) (p : NfL) (L : WkL) (R mn0 : Nat) (set : List Nat) (oa : Option Addr) (oc : Nat) (out : List Nat) (w' : World) : Prop :=
  OwnI w' W.heap.size oa out.length oc out ∧ ∃ mn m, WkAt w0 w' wb x p L ((R + 1 : Nat) : Int) mn m ∧ Met1 x R mn0 mn set out m ∧ (∀ a, a ∈ out ↔ Rn x (· ∈ set) a) ∧ Kps (fun k => k = wb ∨ k = L.mb) W w'

theorem MapI.ne_cell {W : World} {b n c o : Nat} {m : Nat → Int} {v : Value} (h : MapI W b n m) (hc : W.cell? ⟨c, o, none⟩ = some v) : b ≠ c := by
  rintro rfl
  obtain ⟨D, ⟨es, clock, h1, _⟩, _⟩ := h
  simp [World.cell?, h1] at hc
/-- What the walker and its map write is none of the set's. -/
theorem ints_stay {w0 W W' : World} {wb : Nat} {x : Nf} {p : NfL} {L : WkL} {R : Int} {mn : Nat} {m : Nat → Int} {sa : Option Addr} {sc : Nat} {set : List Nat} (h : IntsN W sa sc set) (hW : WkAt w0 W wb x p L R mn m) (hne : ∀ b off, sa = some ⟨b, off, none⟩ → set ≠ [] → b ≠ wb)
    (hk : Kps (fun k => k = wb ∨ k = L.mb) W W') : IntsN W' sa sc set :=
  Ints.keptK h hk (fun b off e hn hb => by
    have hs : set ≠ [] := by intro e0; rw [e0] at hn; exact hn rfl
    rcases hb with hb | hb
    · exact hne b off e hs hb
    · cases hc : set with
      | nil => exact hs hc
      | cons a r =>
        have := h.cell b off e 0 (by rw [hc]; simp)
        exact hW.mp.ne_cell this hb.symm)
/-- Meeting writes nothing of the caller's but the map. -/
theorem meet_stay {w0 W W1 W2 : World} {wb bW : Nat} {x : Nf} {p : NfL} {L : WkL} {R : Int} {mn : Nat} {m : Nat → Int} {oa : Option Addr} {oc : Nat} {out : List Nat} (h : Kps (fun k => k = wb ∨ k = L.mb) W W1) (hM : MtAt w0 W1 wb bW (W.heap.size + 1) W.heap.size x p L R mn m oa oc out)
    (hk : Kps (mtBad L.mb (W.heap.size + 1) oa) W1 W2) : Kps (fun k => k = wb ∨ k = L.mb) W W2 :=
  h.trans hk (fun i e => e) (fun i e hi => by
    rcases e with e | e | e
    · exact .inr e
    · omega
    · have := (hM.row.obk_typ e).1; omega)

/-- The frame at the head of the second loop. -/
def FrC (B i : Nat) (ds : List Deferred) (a : Act) : Prop := ∃ (v0 v1 v3 v4 v7 v8 v10 v11 v12 v13 v14 v15 v16 v17 v18 v19 v20 v21 v22 v23 v24 v25 v26 v27 v28 v29 v30 v31 v32 v33 v34 v35 v36 v37 v38 v39 v40 v41 v42 v43 v44 v45 : Value), a = { tmps := #[v0, v1, .pointer (some ⟨B, 0, none⟩), v3, v4, .pointer (some ⟨B + 1, 0, none⟩), .pointer (some ⟨B + 1 + 1, 0, none⟩), v7, v8, .int .i64 (i : Int), v10, v11, v12, v13, v14, v15, v16, v17, v18, v19, v20, v21, v22, v23, v24, v25, v26, v27, v28, v29, v30, v31, v32, v33, v34, v35, v36, v37, v38, v39, v40, v41, v42, v43, v44, v45], defers := ds }
/-- What stands at the head of the second loop. -/
structure Cl2 (w0 W : World) (wb B : Nat) (x : Nf) (p : NfL) (L : WkL) (R mn : Nat) (set : List Nat) (fv : Value) (ds : List Deferred) (mn' : Nat) (m' : Nat → Int) (oa : Option Addr) (oc : Nat) (out : List Nat) (wr : World) : Prop where
  mt : MtAt w0 wr wb B (B + 1) B x p L ((R + 1 : Nat) : Int) mn' m' oa oc out
  fn : Blk wr (B + 1 + 1) 103 [fv]
  kp : Kps (fun k => k = wb ∨ k = L.mb) W wr
  me : Met1 x R mn mn' set out m'
  all : ∀ a ∈ set, a ∈ out
  mks : Marks ds wr
  ge : ∀ k, isMark ds k → B + 3 ≤ k
theorem Cl2.drew {w0 W : World} {wb B : Nat} {x : Nf} {p : NfL} {L : WkL} {R mn : Nat} {set : List Nat} {fv : Value} {ds : List Deferred} {mn' : Nat} {m' : Nat → Int} {oa : Option Addr} {oc : Nat} {out : List Nat} {wr : World} (h : Cl2 w0 W wb B x p L R mn set fv ds mn' m' oa oc out wr) : Cl2 w0 W wb B x p L R mn set fv ds mn' m' oa oc out wr.drew :=
  ⟨h.mt.drew, h.fn, ⟨h.kp.os, h.kp.tape, h.kp.output, h.kp.size, h.kp.block⟩, h.me, h.all, h.mks.keptK (kps_below (Below.refl _ wr).drew) (fun _ _ => id), h.ge⟩
/-- More blocks. -/
theorem Cl2.more {w0 W : World} {wb B : Nat} {x : Nf} {p : NfL} {L : WkL} {R mn : Nat} {set : List Nat} {fv : Value} {ds : List Deferred} {mn' : Nat} {m' : Nat → Int} {oa : Option Addr} {oc : Nat} {out : List Nat} {wr w' : World} (h : Cl2 w0 W wb B x p L R mn set fv ds mn' m' oa oc out wr) (hk : Kps (fun _ => False) wr w') : Cl2 w0 W wb B x p L R mn set fv ds mn' m' oa oc out w' :=
  ⟨h.mt.keptK hk (fun _ h => h.elim) id id id id id id (fun _ _ => id), hk.blk h.fn id, h.kp.trans hk (fun _ h => h) (fun _ h _ => h.elim), h.me, h.all, h.mks.keptK hk (fun _ _ => id), h.ge⟩

theorem kps_alloc (W : World) (o : Obj) : Kps (fun _ => False) W (W.alloc o) := kps_below ((Below.refl _ W).alloc (Nat.le_refl _) o)
theorem behind_kps {V w2 : World} {o1 o2 o3 : Obj} (h : w2 = ((V.alloc o1).alloc o2).alloc o3) : Kps (fun _ => False) V w2 := by
  rw [h]
  exact ((kps_alloc V o1).trans (kps_alloc _ o2) (fun _ h => h) (fun _ h _ => h)).trans (kps_alloc _ o3) (fun _ h => h) (fun _ h _ => h)
section
variable {w0 W : World} {wb B : Nat} {x : Nf} {p : NfL} {L : WkL} {R mn : Nat} {set : List Nat} {fv : Value} {ds : List Deferred} {mn' : Nat} {m' : Nat → Int} {oa : Option Addr} {oc : Nat} {out : List Nat} {wr : World}
/-- Blocks that are no cells, behind all of these, may be written. -/
theorem Cl2.books {w' : World} {bad : Nat → Prop} {n : Nat} (h : Cl2 w0 W wb B x p L R mn set fv ds mn' m' oa oc out wr) (hk : Kps bad wr w') (hn : B + 3 ≤ n) (hB : W.heap.size = B) (hm : ∀ k, isMark ds k → k < n) (hb : ∀ k, bad k → n ≤ k ∧ ∃ o, wr.heap[k]? = some o ∧ o.isCells = false) : Cl2 w0 W wb B x p L R mn set fv ds mn' m' oa oc out w' := by
  obtain ⟨q1, q2, q3, q4, q5, q6, q7, q8⟩ := h.mt.hb
  have lo : ∀ k, k < n → ¬ bad k := fun k hk e => by have := (hb k e).1; omega
  refine ⟨h.mt.keptK hk (fun k e => by have := (hb k e).1; omega) (lo _ (by omega)) (lo _ (by omega)) (lo _ (by omega)) (lo _ (by omega)) (lo _ (by omega)) (lo _ (by omega)) (fun g e hg => ?_), hk.blk h.fn (lo _ (by omega)), h.kp.trans hk (fun _ h => h) (fun i e hi => by have := (hb i e).1; omega), h.me, h.all, h.mks.keptK hk (fun k e => lo k (hm k e)), h.ge⟩
  obtain ⟨_, cur, h1⟩ := h.mt.row.obk_typ e
  obtain ⟨_, o, h2, h3⟩ := hb g hg
  rw [h1] at h2
  cases h2
  cases h3
/-- One more is met. -/
theorem Cl2.meet {w' : World} {st : Nat} (h : Cl2 w0 W wb B x p L R mn set fv ds mn' m' oa oc out wr) (hB : W.heap.size = B) (hst : st < x.n.toNat) (hr : Rn x (· ∈ set) st) (hq : MetQ w0 wr wb B (B + 1) B x p L ((R + 1 : Nat) : Int) mn' m' oa out st w') :
    ∃ mn2 m2 a2 c2 out2, Cl2 w0 W wb B x p L R mn set fv ds mn2 m2 a2 c2 out2 w' ∧ st ∈ out2 ∧ (∃ r, out2 = out ++ r) ∧ New wr.heap.size oa a2 ∧ Kps (mtBad L.mb (B + 1) oa) wr w' := by
  obtain ⟨mn2, m2, a2, c2, out2, hM, hk, hnw, hif⟩ := hq
  obtain ⟨hT, hs, r, hrr⟩ := h.me.meet hst hr hif
  refine ⟨mn2, m2, a2, c2, out2, ⟨hM, hk.blk h.fn (fun e => ?_), ?_, hT, fun a ha => by rw [hrr]; exact List.mem_append_left _ (h.all a ha), h.mks.keptK hk (fun k e hb => ?_), h.ge⟩, hs, ⟨r, hrr⟩, hnw, hk⟩
  · rcases e with e | e | e
    · exact h.mt.wk.mp.ne_blk h.fn e.symm
    · omega
    · exact h.mt.row.obk_ne h.fn (by decide) e
  · subst hB; exact meet_stay h.kp h.mt hk
  · have hg := h.ge k e
    have ho := h.mks.obj e
    have := h.mt.hb
    rcases hb with hb | hb | hb
    · omega
    · omega
    · obtain ⟨_, cur, h1⟩ := h.mt.row.obk_typ hb
      rw [h1] at ho
      cases ho
end
/-- What a round leaves: all of the first n blocks but the bad ones. -/
structure FrF (n : Nat) (bad : Nat → Prop) (W W' : World) : Prop where
  os : W'.os = W.os
  tape : W'.tape = W.tape
  output : W'.output = W.output
  size : W.heap.size ≤ W'.heap.size
  block : ∀ k, k < n → ¬ bad k → W'.heap[k]? = W.heap[k]?
theorem frm_frf (n : Nat) (bad : Nat → Prop) : Frm n (FrF n bad) :=
  ⟨fun h k => ⟨k.os.trans h.os, k.tape.trans h.tape, k.output.trans h.output, Nat.le_trans h.size k.size, fun i hi hb => (k.block i hi hb).trans (h.block i hi hb)⟩,
   fun {W l o} o' hl ho hc => by
    have hg := grownBy_putObj' W l o'
    exact ⟨hg.os, hg.tape, hg.output, hg.size, fun k hk _ => by
      by_cases hks : k < W.heap.size
      · exact hg.block k hks (fun e => by injection e with e; omega)
      · have := (Array.getElem?_eq_some_iff.1 ho).1; omega⟩⟩
theorem FrF.of_kps {n : Nat} {bad bad' : Nat → Prop} {W W' : World} (h : Kps bad' W W') (hn : n ≤ W.heap.size) (hb : ∀ k, k < n → bad' k → bad k) : FrF n bad W W' :=
  ⟨h.os, h.tape, h.output, h.size, fun k hk hn' => h.block k (by omega) (fun e => hn' (hb k hk e))⟩
/-- What the iterator stands on. -/
structure ItK (w0 : World) (x : Nf) (p : NfL) (L : WkL) (wb n0 : Nat) (s : Nat) (cv : Value) (V : World) : Prop where
  cw : V.cell? ⟨n0, 0, none⟩ = some (.pointer (some ⟨wb, 0, none⟩))
  cs : V.cell? ⟨n0 + 1, 0, none⟩ = some (.int .i64 (s : Int))
  cc : V.cell? ⟨n0 + 2, 0, none⟩ = some cv
  b0 : V.cell? ⟨wb, 0, none⟩ = some (.slice p.ga x.es.length p.gc)
  b1 : V.cell? ⟨wb, 1, none⟩ = some (.slice (some ⟨L.fb, 0, none⟩) x.n.toNat x.n.toNat)
  b2 : V.cell? ⟨wb, 2, none⟩ = some (.slice (some ⟨L.nb, 0, none⟩) x.es.length x.es.length)
  first : ∀ i : Nat, i < x.n.toNat → V.cell? ⟨L.fb, i, none⟩ = some (.int .i64 (lastE x.es (i : Int) x.es.length))
  next : ∀ i : Nat, i < x.es.length → V.cell? ⟨L.nb, i, none⟩ = some (.int .i64 (nextE x.es i))
  bel : Below w0.heap.size w0 V
section
variable {w0 : World} {x : Nf} {p : NfL} {L : WkL} {wb n0 s : Nat} {cv : Value} {V V' : World}
theorem ItK.it (h : ItK w0 x p L wb n0 s cv V) (he : Egs w0 p.ga p.gc x.es) : ItF V x p L wb n0 (n0 + 1) (n0 + 2) s cv := ⟨h.cw, h.cs, h.cc, h.b0, h.b1, h.b2, h.first, h.next, he.grown h.bel⟩
theorem ItK.below (h : ItK w0 x p L wb n0 s cv V) (hb : Below V.heap.size V V') : ItK w0 x p L wb n0 s cv V' :=
  ⟨cell_up hb h.cw, cell_up hb h.cs, cell_up hb h.cc, cell_up hb h.b0, cell_up hb h.b1, cell_up hb h.b2, fun i hi => cell_up hb (h.first i hi), fun i hi => cell_up hb (h.next i hi), h.bel.trans (hb.mono h.bel.size)⟩
theorem ItK.frf {n : Nat} {bad : Nat → Prop} (h : ItK w0 x p L wb n0 s cv V) (hf : FrF n bad V V') (hn : n0 + 2 < n) (h1 : wb < n) (h2 : L.fb < n) (h3 : L.nb < n) (g0 : ∀ k, n0 ≤ k → k < n → ¬ bad k) (g1 : ¬ bad wb) (g2 : ¬ bad L.fb) (g3 : ¬ bad L.nb) (hw : w0.heap.size ≤ n) (hb : ∀ k, bad k → w0.heap.size ≤ k) : ItK w0 x p L wb n0 s cv V' := by
  have mv : ∀ b o v, b < n → ¬ bad b → V.cell? ⟨b, o, none⟩ = some v → V'.cell? ⟨b, o, none⟩ = some v := fun b o v hb' hn' hc => (World.cell?_of_block (a := ⟨b, o, none⟩) (hf.block b hb' hn')).trans hc
  exact ⟨mv _ _ _ (by omega) (g0 _ (Nat.le_refl _) (by omega)) h.cw, mv _ _ _ (by omega) (g0 _ (by omega) (by omega)) h.cs, mv _ _ _ (by omega) (g0 _ (by omega) (by omega)) h.cc, mv _ _ _ h1 g1 h.b0, mv _ _ _ h1 g1 h.b1, mv _ _ _ h1 g1 h.b2, fun i hi => mv _ _ _ h2 g2 (h.first i hi), fun i hi => mv _ _ _ h3 g3 (h.next i hi), h.bel.trans ⟨hf.os, hf.tape, hf.output, hf.size, fun k hk => hf.block k (by omega) (fun e => by have := hb k e; omega)⟩⟩
theorem WkAt.itK {W : World} {R : Int} {mn : Nat} {m : Nat → Int} (h : WkAt w0 W wb x p L R mn m) (c0 : W.cell? ⟨n0, 0, none⟩ = some (.pointer (some ⟨wb, 0, none⟩))) (c1 : W.cell? ⟨n0 + 1, 0, none⟩ = some (.int .i64 (s : Int))) (c2 : W.cell? ⟨n0 + 2, 0, none⟩ = some cv) : ItK w0 x p L wb n0 s cv W :=
  ⟨c0, c1, c2, by simpa using h.box.cell 0, by simpa using h.box.cell 1, by simpa using h.box.cell 2, fun i hi => by have := h.first.cell i; rw [tabL_at _ hi] at this; exact this, fun i hi => by have := h.next.cell i; rw [tabL_at _ hi] at this; exact this, h.bel⟩
end
theorem keepsFrom_kps {n : Nat} {bad : Nat → Prop} {W W' : World} (h : Kps bad W W') (hb : ∀ k o, n ≤ k → W.heap[k]? = some o → o.isCells = false → ¬ bad k) : KeepsFrom n W W' :=
  ⟨h.size, fun k o hk ho hc => (h.block k (Array.getElem?_eq_some_iff.1 ho).1 (hb k o hk ho hc)).trans ho⟩
/-- What holds at the head of each round of the range. -/
def ClI (w0 W : World) (wb B : Nat) (x : Nf) (p : NfL) (L : WkL) (R mn : Nat) (set : List Nat) (fv : Value) (ds : List Deferred) (out0 : List Nat) (g n : Nat) (pre : List Int) (V : World) : Prop :=
  ∃ mn' m' oa oc out, Cl2 w0 W wb B x p L R mn set fv ds mn' m' oa oc out V ∧ (∃ r, out = out0 ++ r) ∧ (∀ t ∈ pre, ∃ b : Nat, t = (b : Int) ∧ b ∈ out) ∧ (∀ h, obk oa = some h → h = g ∨ n ≤ h)

theorem cl2_end {w0 W : World} {wb B : Nat} {x : Nf} {p : NfL} {L : WkL} {R mn : Nat} {set : List Nat} {fv : Value} {ds : List Deferred} {mn' : Nat} {m' : Nat → Int} {oa : Option Addr} {oc : Nat} {out : List Nat} {wr : World} (h : Cl2 w0 W wb B x p L R mn set fv ds mn' m' oa oc out wr) (hB : W.heap.size = B)
    (hall : ∀ j (hj : j < out.length), ∀ b, nstep x out[j] b → b ∈ out) : ClQ w0 W wb x p L R mn set oa oc out wr ∧ ∀ w', Kps (isMark ds) wr w' → ClQ w0 W wb x p L R mn set oa oc out w' := by
  have key : ∀ w', Kps (isMark ds) wr w' → ClQ w0 W wb x p L R mn set oa oc out w' := fun w' hk => by
    obtain ⟨q1, q2, q3, q4, q5, q6, q7, q8⟩ := h.mt.hb
    have lo : ∀ k, k < B + 3 → ¬ isMark ds k := fun k hk e => by have := h.ge k e; omega
    have hM := h.mt.keptK hk (fun k e => by have := h.ge k e; omega) (lo _ (by omega)) (lo _ (by omega)) (lo _ (by omega)) (lo _ (by omega)) (lo _ (by omega)) (lo _ (by omega)) (fun g e hg => by
      obtain ⟨_, cur, h1⟩ := h.mt.row.obk_typ e
      rw [h.mks.obj hg] at h1
      cases h1)
    refine ⟨by rw [hB]; exact hM.row, mn', m', hM.wk, h.me, fun a => ⟨h.me.rn a, Rn.closed h.all (fun a b ha hb => ?_)⟩, h.kp.trans hk (fun _ e => e) (fun i e hi => by have := h.ge i e; omega)⟩
    obtain ⟨j, hj, rfl⟩ := List.mem_iff_getElem.1 ha
    exact hall j hj b hb
  exact ⟨key _ (Kps.refl _ _), key⟩
set_option maxRecDepth 100000 in
set_option maxHeartbeats 4000000 in
theorem closed_any (w0 W : World) (wb : Nat) (x : Nf) (p : NfL) (L : WkL) (R mn : Nat) (m : Nat → Int) (sa : Option Addr) (sc : Nat) (set : List Nat) (hW : WkAt w0 W wb x p L (R : Int) mn m) (hx : linkB x = true) (hM : x.es.length ≤ 1000000)
    (hS : IntsN W sa sc set) (hne : ∀ b off, sa = some ⟨b, off, none⟩ → set ≠ [] → b ≠ wb) (hset : ∀ a ∈ set, a < x.n.toNat) (hm : ∀ a, m a ≤ (R : Int)) (hR : R ≤ 1000000000) (hmn : mn ≤ 2000 * R) :
    Calls Try.prog 77 #[.pointer (some ⟨wb, 0, none⟩), .slice sa set.length sc] W fun e w' => ∃ oa oc out, e = .returned (.slice oa out.length oc) ∧ ClQ w0 W wb x p L R mn set oa oc out w' := by
  obtain ⟨S, hSl⟩ : ∃ S, Hid (set.length = S) := ⟨_, Lib.hid rfl⟩
  have hlm : S ≤ sc ∧ sc ≤ 9223372036854775807 := ⟨by rw [← hSl.out]; have := hS.le; rw [List.length_map] at this; exact this, hS.max⟩
  rw [hSl.out]
  have HS := Lib.hid hS
  have HW := Lib.hid hW
  have hb0 := Blk.new W 119 #[.pointer (some ⟨wb, 0, none⟩)]
  have hw1 : WkAt w0 (W.alloc (.cells #[.pointer (some ⟨wb, 0, none⟩)] 119)) wb x p L (R : Int) mn m := hW.keptK (kps_below ((Below.refl _ W).alloc (Nat.le_refl _) _)) (fun _ h => h.elim) id id id id
  have y3 := hw1.box.cell 3
  have yf := hw1.box.frozen 3
  have yl := hw1.box.lt
  have yl0 := hW.box.lt
  simp only [List.getElem?_cons_zero, List.getElem?_cons_succ] at y3
  have hRI : (R : Int) + 1 ≤ 9223372036854775807 := by omega
  have hRI0 : -9223372036854775808 ≤ (R : Int) + 1 := by omega
  have hcast : ((R + 1 : Nat) : Int) = (R : Int) + 1 := by omega
  have hz := blkN (((W.setCell ⟨wb, 3, none⟩ (.int .i64 ((R : Int) + 1))).alloc (.cells #[.pointer (some ⟨wb, 0, none⟩)] 119)).alloc (.cells #[.slice none 0 0] 23)) (W.heap.size + 1 + 1) #[.nilFunc] 103 (by simp [World.setCell])
  have z0 := hz.cell 0
  have zf := hz.frozen 0
  have zl := hz.lt
  simp only [List.getElem?_cons_zero] at z0
  clear hW hS
  refine (callsIn_wide (n := 0)).1 ?_
  refine callsIn_of_wp_marks Try.func77 rfl trivial ?_ rfl
  simp only [Try.ntmps77, List.size_toArray, List.length_cons, List.length_nil, Nat.reduceAdd, Nat.reduceSub, Array.replicate_succ, Array.replicate_zero, List.push_toArray, List.append_toArray, List.nil_append, List.cons_append]
  have hM1 : MtAt w0 ((((W.setCell ⟨wb, 3, none⟩ (.int .i64 ((R : Int) + 1))).alloc (.cells #[.pointer (some ⟨wb, 0, none⟩)] 119)).alloc (.cells #[.slice none 0 0] 23)).alloc (.cells #[.func (.func 83) #[] #[.pointer (some ⟨W.heap.size, 0, none⟩), .pointer (some ⟨W.heap.size + 1, 0, none⟩)]] 103)) wb W.heap.size (W.heap.size + 1) W.heap.size x p L ((R + 1 : Nat) : Int) mn m none 0 [] := by
    have hk : ∀ (V : World) (o : Obj), Kps (fun _ => False) V (V.alloc o) := fun V o => kps_below ((Below.refl _ V).alloc (Nat.le_refl _) o)
    have hq := HW.out.setRound ((R : Int) + 1)
    have hsz : (W.setCell ⟨wb, 3, none⟩ (.int .i64 ((R : Int) + 1))).heap.size = W.heap.size := by simp [World.setCell]
    have h2 := (((hk (W.setCell ⟨wb, 3, none⟩ (.int .i64 ((R : Int) + 1))) (.cells #[.pointer (some ⟨wb, 0, none⟩)] 119)).trans (hk _ (.cells #[.slice none 0 0] 23)) (fun _ h => h) (fun _ h _ => h)).trans (hk _ (.cells #[.func (.func 83) #[] #[.pointer (some ⟨W.heap.size, 0, none⟩), .pointer (some ⟨W.heap.size + 1, 0, none⟩)]] 103)) (fun _ h => h) (fun _ h _ => h))
    have hl := HW.out
    have l1 := hl.first.lt
    have l2 := hl.next.lt
    have l3 : L.mb < W.heap.size := by
      obtain ⟨D, h1, _⟩ := hl.mp
      exact h1.lt
    rw [hcast]
    refine ⟨hq.keptK h2 (fun _ h => h.elim) id id id id, ?_, ?_, World.ownsRow_nil _ _ _ _, hl.bel.size, ?_, yl0, l1, l2, l3, Nat.le_refl _, Nat.le_succ _⟩
    · exact ((blkN _ W.heap.size #[.pointer (some ⟨wb, 0, none⟩)] 119 hsz.symm).alloc _).alloc _
    · exact (blkN _ (W.heap.size + 1) #[.slice none 0 0] 23 (by rw [World.size_alloc, hsz])).alloc _
    · have := h2.size; rw [hsz] at this; exact this
  have hF1 : Blk ((((W.setCell ⟨wb, 3, none⟩ (.int .i64 ((R : Int) + 1))).alloc (.cells #[.pointer (some ⟨wb, 0, none⟩)] 119)).alloc (.cells #[.slice none 0 0] 23)).alloc (.cells #[.func (.func 83) #[] #[.pointer (some ⟨W.heap.size, 0, none⟩), .pointer (some ⟨W.heap.size + 1, 0, none⟩)]] 103)) (W.heap.size + 1 + 1) 103 [.func (.func 83) #[] #[.pointer (some ⟨W.heap.size, 0, none⟩), .pointer (some ⟨W.heap.size + 1, 0, none⟩)]] := blkN _ _ #[.func (.func 83) #[] #[.pointer (some ⟨W.heap.size, 0, none⟩), .pointer (some ⟨W.heap.size + 1, 0, none⟩)]] 103 (by simp [World.setCell])
  have hK1 : Kps (fun k => k = wb ∨ k = L.mb) W ((((W.setCell ⟨wb, 3, none⟩ (.int .i64 ((R : Int) + 1))).alloc (.cells #[.pointer (some ⟨wb, 0, none⟩)] 119)).alloc (.cells #[.slice none 0 0] 23)).alloc (.cells #[.func (.func 83) #[] #[.pointer (some ⟨W.heap.size, 0, none⟩), .pointer (some ⟨W.heap.size + 1, 0, none⟩)]] 103)) := (kps_grown (grownBy_set W wb 3 (.int .i64 ((R : Int) + 1)))).trans ((((kps_below ((Below.refl _ (W.setCell ⟨wb, 3, none⟩ (.int .i64 ((R : Int) + 1)))).alloc (Nat.le_refl _) (.cells #[.pointer (some ⟨wb, 0, none⟩)] 119))).trans (kps_below ((Below.refl _ _).alloc (Nat.le_refl _) (.cells #[.slice none 0 0] 23))) (fun _ h => h) (fun _ h _ => h)).trans (kps_below ((Below.refl _ _).alloc (Nat.le_refl _) (.cells #[.func (.func 83) #[] #[.pointer (some ⟨W.heap.size, 0, none⟩), .pointer (some ⟨W.heap.size + 1, 0, none⟩)]] 103))) (fun _ h => h) (fun _ h _ => h))) (fun i e => .inl (by injection e with e; exact e.symm)) (fun _ h _ => h.elim)
  gi_wp2_with (fail)
  clear hw1 y3 yf yl hz z0 zf zl hb0
  generalize ((((W.setCell ⟨wb, 3, none⟩ (.int .i64 ((R : Int) + 1))).alloc (.cells #[.pointer (some ⟨wb, 0, none⟩)] 119)).alloc (.cells #[.slice none 0 0] 23)).alloc (.cells #[.func (.func 83) #[] #[.pointer (some ⟨W.heap.size, 0, none⟩), .pointer (some ⟨W.heap.size + 1, 0, none⟩)]] 103)) = W1 at hM1 hF1 hK1 ⊢
  have HM1 := Lib.hid hM1
  have HF1 := Lib.hid hF1
  have HK1 := Lib.hid hK1
  clear hM1 hF1 hK1
  have hnn := link_n hx
  have HX := Lib.hid hx
  obtain ⟨B, hB⟩ : ∃ B, Hid (W.heap.size = B) := ⟨_, Lib.hid rfl⟩
  rw [hB.out] at HM1 HF1 ⊢
  have HLM : Hid (∀ (W1 W2 : World) {bW : Nat} {Rx : Int} {mn : Nat} {m : Nat → Int} {oa : Option Addr} {oc : Nat} {out : List Nat}, Kps (fun k => k = wb ∨ k = L.mb) W W1 → MtAt w0 W1 wb bW (B + 1) B x p L Rx mn m oa oc out → Kps (mtBad L.mb (B + 1) oa) W1 W2 → Kps (fun k => k = wb ∨ k = L.mb) W W2) := Lib.hid (fun W1 W2 {bW Rx mn m oa oc out} h1 h2 h3 => meet_stay h1 (by rw [hB.out]; exact h2) (by rw [hB.out]; exact h3))
  gi_loopg [8, 21] S (fun g _ iv wr => ∃ (k mn' : Nat) (m' : Nat → Int) (oa : Option Addr) (oc : Nat) (out : List Nat), S - k = g ∧ k ≤ S ∧ iv = .int .i64 (k : Int) ∧ MtAt w0 wr wb B (B + 1) B x p L ((R + 1 : Nat) : Int) mn' m' oa oc out ∧ Blk wr (B + 1 + 1) 103 [.func (.func 83) #[] #[.pointer (some ⟨B, 0, none⟩), .pointer (some ⟨B + 1, 0, none⟩)]] ∧ Kps (fun k => k = wb ∨ k = L.mb) W wr ∧ Met1 x R mn mn' set out m' ∧ ∀ a ∈ set.take k, a ∈ out)
  case atStart => exact ⟨0, mn, m, none, 0, [], by omega, Nat.zero_le _, rfl, HM1.out, HF1.out, HK1.out, ⟨List.nodup_nil, by simp, by simp, fun a => by have := hm a; simp; omega, fun a => by have := hm a; omega, by simp⟩, by simp⟩
  case round =>
    obtain ⟨k, mn1, m1, oa, oc, out, rfl, hk, rfl, hM2, hF2, hK2, hT2, ht2⟩ := hrel
    have HM2 := Lib.hid hM2
    have HF2 := Lib.hid hF2
    have HK2 := Lib.hid hK2
    have HT2 := Lib.hid hT2
    have Ht2 := Lib.hid ht2
    have hol := (hT2.len hx).2
    have hmn1 := hT2.mn
    clear hM2 hF2 hK2 hT2 ht2
    by_cases hlt : k < S
    · have hkI : (k : Int) < (S : Int) := by omega
      have hkI0 : (0 : Int) ≤ (k : Int) := by omega
      have hkl : k < set.length := by rw [hSl.out]; exact hlt
      have hI := ints_stay HS.out HW.out hne HK2.out
      obtain ⟨b, off, rfl⟩ := hI.at_ k (by rw [List.length_map]; exact hkl)
      have c0 := hI.cell b off rfl k (by rw [List.length_map]; exact hkl)
      rw [List.getElem_map] at c0
      have hbl := World.block_lt_of_cell? _ _ c0
      have hmem : set[k] ∈ set := List.getElem_mem hkl
      have hst := hset _ hmem
      have htk : Hid (set.take (k + 1) = set.take k ++ [set[k]]) := Lib.hid (by rw [List.take_add_one, List.getElem?_eq_getElem hkl]; rfl)
      have HR := Lib.hid (Rn.base (x := x) (S := (· ∈ set)) hmem)
      obtain ⟨st, hst0⟩ : ∃ st, Hid (set[k] = st) := ⟨_, Lib.hid rfl⟩
      rw [hst0.out] at c0 hst htk HR
      have f0 := HF2.out.cell 0
      have fl := HF2.out.lt
      simp only [List.getElem?_cons_zero] at f0
      have Hc := Lib.hid (nmeet_any w0 wr wb B (B + 1) B x p L (R + 1) mn1 m1 oa oc out st HM2.out (by omega) (by omega) (by omega) (by omega))
      clear hI hmem
      gi_wp2_with (fail)
      refine ⟨trivial, rfl, ((callsIn_wide (n := 0)).2 Hc.out).mono ?_⟩
      rintro e w2 ⟨rfl, mn3, m3, oa3, oc3, out3, hM3, hkk, hnw, hq⟩
      have HM3 := Lib.hid hM3
      have HK3 := Lib.hid (HLM.out _ _ HK2.out HM2.out hkk)
      have HF3 : Hid (Blk w2 (B + 1 + 1) 103 [.func (.func 83) #[] #[.pointer (some ⟨B, 0, none⟩), .pointer (some ⟨B + 1, 0, none⟩)]]) := Lib.hid (hkk.blk HF2.out (fun e => by
        rcases e with e | e | e
        · exact HM2.out.wk.mp.ne_blk HF2.out e.symm
        · omega
        · exact HM2.out.row.obk_ne HF2.out (by decide) e))
      obtain ⟨hT3, hs3, r, hr⟩ := HT2.out.meet hst HR.out hq
      have HT3 := Lib.hid hT3
      have Ht3 : Hid (∀ a ∈ set.take (k + 1), a ∈ out3) := Lib.hid (fun a ha => by
        rw [htk.out] at ha
        rcases List.mem_append.1 ha with ha | ha
        · rw [hr]; exact List.mem_append_left _ (Ht2.out a ha)
        · rw [List.mem_singleton.1 ha]; exact hs3)
      clear hM3 hkk hnw hq hT3 hs3 hr c0 f0
      gi_wp2_with (fail)
      gi_roundg (S - (k + 1))
      case measure => omega
      case rel => exact ⟨k + 1, mn3, m3, oa3, oc3, out3, rfl, by omega, by simp, HM3.out, HF3.out, HK3.out, HT3.out, Ht3.out⟩
    · obtain rfl : k = S := by omega
      have hkI : ¬ (k : Int) < (k : Int) := by omega
      gi_wp2_with (fail)
      have HC0 : Hid (Cl2 w0 W wb B x p L R mn set (.func (.func 83) #[] #[.pointer (some ⟨B, 0, none⟩), .pointer (some ⟨B + 1, 0, none⟩)]) [] mn1 m1 oa oc out wr) := Lib.hid ⟨HM2.out, HF2.out, HK2.out, HT2.out, fun a ha => Ht2.out a (by rw [List.take_of_length_le (by rw [hSl.out]; exact Nat.le_refl _)]; exact ha), trivial, fun k h => by obtain ⟨d, hd, _⟩ := h; cases hd⟩
      clear HM2 HF2 HK2 HT2 Ht2
      refine wpIn_loop_ghost_k (fun g a' wr => ∃ (i mn' : Nat) (m' : Nat → Int) (oa : Option Addr) (oc : Nat) (out : List Nat) (ds : List Deferred), x.n.toNat - i = g ∧ i ≤ out.length ∧ FrC B i ds a' ∧ Cl2 w0 W wb B x p L R mn set (.func (.func 83) #[] #[.pointer (some ⟨B, 0, none⟩), .pointer (some ⟨B + 1, 0, none⟩)]) ds mn' m' oa oc out wr ∧ ∀ j (hj : j < out.length), j < i → ∀ b, nstep x out[j] b → b ∈ out) x.n.toNat ⟨0, mn1, m1, oa, oc, out, [], by omega, Nat.zero_le _, ⟨_, _, _, _, _, _, _, _, _, _, _, _, _, _, _, _, _, _, _, _, _, _, _, _, _, _, _, _, _, _, _, _, _, _, _, _, _, _, _, _, _, _, rfl⟩, HC0.out, fun j _ h => absurd h (Nat.not_lt_zero _)⟩ ?_
      intro g0 a' wr I J K2 hJ hK2
      obtain ⟨i, mn2, m2, oa2, oc2, out2, ds, rfl, hi, ⟨v0, v1, v3, v4, v7, v8, v10, v11, v12, v13, v14, v15, v16, v17, v18, v19, v20, v21, v22, v23, v24, v25, v26, v27, v28, v29, v30, v31, v32, v33, v34, v35, v36, v37, v38, v39, v40, v41, v42, v43, v44, v45, rfl⟩, hC, hall⟩ := I
      clear HC0 hmn1 hol
      have HC := Lib.hid hC
      have Hall := Lib.hid hall
      have hlen := (hC.me.len HX.out)
      have x0 := hC.mt.oblk.cell 0
      have xl := hC.mt.oblk.lt
      simp only [List.getElem?_cons_zero] at x0
      clear hC hall
      by_cases hlt : i < out2.length
      · have hiI : (i : Int) < (out2.length : Int) := by omega
        have hiI0 : (0 : Int) ≤ (i : Int) := by omega
        obtain ⟨g, rfl, cst, hle1, hle2⟩ := HC.out.mt.row.nth hlt
        obtain ⟨st, hst0⟩ : ∃ st, Hid (out2[i] = st) := ⟨_, Lib.hid rfl⟩
        rw [hst0.out] at cst
        have HCd := Lib.hid HC.out.drew
        have HS12 : Hid (∀ V, Cl2 w0 W wb B x p L R mn set (.func (.func 83) #[] #[.pointer (some ⟨B, 0, none⟩), .pointer (some ⟨B + 1, 0, none⟩)]) ds mn2 m2 (some ⟨g, 0, none⟩) oc2 out2 V → (V.cell? ⟨B, 0, none⟩ = some (.pointer (some ⟨wb, 0, none⟩)) ∧ V.cell? ⟨B + 1, 0, none⟩ = some (.slice (some ⟨g, 0, none⟩) out2.length oc2) ∧ V.cell? ⟨g, i, none⟩ = some (.int .i64 (st : Int)))) := Lib.hid (fun V h => ⟨by simpa using h.mt.bw.cell 0, by simpa using h.mt.oblk.cell 0, by
          obtain ⟨g', eg, cst', _⟩ := h.mt.row.nth hlt
          cases eg
          rw [hst0.out] at cst'
          exact cst'⟩)
        have hgl := World.block_lt_of_cell? _ _ cst
        gi_wp2_with (fail)
        clear cst x0 xl
        refine wpIn_mono (wpIn_region_held_drew (Q := NoPanic _) (S := fun w' => (w'.cell? ⟨B, 0, none⟩ = some (.pointer (some ⟨wb, 0, none⟩)) ∧ w'.cell? ⟨B + 1, 0, none⟩ = some (.slice (some ⟨g, 0, none⟩) out2.length oc2) ∧ w'.cell? ⟨g, i, none⟩ = some (.int .i64 (st : Int)))) (by kernel_rfl) ?_ (fun hHeld => ?_)) NoPanic.imp
        · exact HS12.out _ HCd.out
        refine wpAnyHI_take (i := 0) (v := ?_) rfl (gatL gatZ) (by kernel_rfl) (by kernel_rfl) (by kernel_rfl) (fun _ _ _ h => h) (Or.inl ⟨by rfl, ?_⟩) (fun _ => by rfl) (by assumption) ?_
        rotate_left
        · intro w hSw
          try dsimp only at hSw
          go_simp
          all_goals with_reducible rfl
        try simp only [Act.put, List.setIfInBounds_toArray, List.set_cons_zero, List.set_cons_succ]
        refine wpAnyHI_take (i := 1) (v := ?_) rfl (gatL (gatS gatZ)) (by kernel_rfl) (by kernel_rfl) (by kernel_rfl) (fun _ _ _ h => h) (Or.inl ⟨by rfl, ?_⟩) (fun _ => by rfl) (by assumption) ?_
        rotate_left
        · intro w hSw
          try dsimp only at hSw
          go_simp
          all_goals with_reducible rfl
        try simp only [Act.put, List.setIfInBounds_toArray, List.set_cons_zero, List.set_cons_succ]
        refine wpAnyHI_take (i := 2) (v := ?_) rfl (gatL (gatS (gatS gatZ))) (by kernel_rfl) (by kernel_rfl) (by kernel_rfl) (fun _ _ _ h => h) (Or.inl ⟨by rfl, ?_⟩) (fun _ => by rfl) (by assumption) ?_
        rotate_left
        · intro w hSw
          try dsimp only at hSw
          go_simp
          all_goals with_reducible rfl
        try simp only [Act.put, List.setIfInBounds_toArray, List.set_cons_zero, List.set_cons_succ]
        refine wpAnyHI_take (i := 3) (v := ?_) rfl (gatL (gatS (gatS (gatS gatZ)))) (by kernel_rfl) (by kernel_rfl) (by kernel_rfl) (fun _ _ _ h => h) (Or.inl ⟨by rfl, ?_⟩) (fun _ => by rfl) (by assumption) ?_
        rotate_left
        · intro w hSw
          try dsimp only at hSw
          go_simp
          all_goals with_reducible rfl
        try simp only [Act.put, List.setIfInBounds_toArray, List.set_cons_zero, List.set_cons_succ]
        refine wpAnyHI_take (i := 4) (v := ?_) rfl (gatL (gatS (gatS (gatS (gatS gatZ))))) (by kernel_rfl) (by kernel_rfl) (by kernel_rfl) (fun _ _ _ h => h) (Or.inl ⟨by rfl, ?_⟩) (fun _ => by rfl) (by assumption) ?_
        rotate_left
        · intro w hSw
          try dsimp only at hSw
          go_simp
          all_goals with_reducible rfl
        try simp only [Act.put, List.setIfInBounds_toArray, List.set_cons_zero, List.set_cons_succ]
        refine wpAnyHI_ready (rs := [5]) (by kernel_rfl) (by simp) ?_
        refine AllReadyHI.cons (gatL (gatS (gatS (gatS (gatS (gatS gatZ)))))) (fun K hK => ?_) AllReadyHI.nil
        go_simp
        refine ⟨trivial, rfl, ((callsIn_wide (n := 0)).2 (behind_any wb 73 #[] (st : Int) _)).mono ?_⟩
        rintro r w2 ⟨rfl, hw2⟩
        have HC2 := Lib.hid (HCd.out.more (behind_kps hw2))
        have Hw2 := Lib.hid hw2
        clear hw2
        dsimp only
        refine hK.out _ _ ?_ (fun hHeld => ?_)
        · exact HS12.out _ HC2.out
        clear hK K
        try simp only [Act.put, List.setIfInBounds_toArray, List.set_cons_zero, List.set_cons_succ]
        refine wpAnyHI_done (by kernel_rfl) ?_ _
        refine NoPanic.normal ?_
        gi_wp2_with (fail)
        gi_wp2_with (fail)
        have hsz2 : w2.heap.size = wr.drew.heap.size + 3 := by rw [Hw2.out]; simp
        have hFl := HC.out.fn.lt
        have hgl2 : g < wr.drew.heap.size := hgl
        have hFl2 : B + 1 + 1 < wr.drew.heap.size := hFl
        have e0 : w2.cell? ⟨wr.drew.heap.size, 0, none⟩ = some (.pointer (some ⟨wb, 0, none⟩)) := by
          have := (((Blk.new wr.drew 119 #[.pointer (some ⟨wb, 0, none⟩)]).alloc (.cells #[.int .i64 (st : Int)] 3)).alloc (.cells #[.func (.func 73) #[] #[]] 100)).cell 0
          rw [Hw2.out]; exact this
        have e1 : w2.cell? ⟨wr.drew.heap.size + 1, 0, none⟩ = some (.int .i64 (st : Int)) := by
          have := ((blkN (wr.drew.alloc (.cells #[.pointer (some ⟨wb, 0, none⟩)] 119)) (wr.drew.heap.size + 1) #[.int .i64 (st : Int)] 3 (by simp)).alloc (.cells #[.func (.func 73) #[] #[]] 100)).cell 0
          rw [Hw2.out]; exact this
        have e2 : w2.cell? ⟨wr.drew.heap.size + 2, 0, none⟩ = some (.func (.func 73) #[] #[]) := by
          have := (blkN ((wr.drew.alloc (.cells #[.pointer (some ⟨wb, 0, none⟩)] 119)).alloc (.cells #[.int .i64 (st : Int)] 3)) (wr.drew.heap.size + 2) #[.func (.func 73) #[] #[]] 100 (by simp)).cell 0
          rw [Hw2.out]; exact this
        clear Hw2 hHeld
        generalize wr.drew.heap.size = n0 at hsz2 e0 e1 e2 hgl2 hFl2 ⊢
        have hItK := HC2.out.mt.wk.itK (s := st) e0 e1 e2
        obtain ⟨q1, q2, q3, q4, q5, q6, q7, q8⟩ := HC2.out.mt.hb
        have hgB : B ≤ g := (HC2.out.mt.row.obk_typ rfl).1
        have hmk : ∀ k, isMark ds k → k < w2.heap.size := fun k e => (Array.getElem?_eq_some_iff.1 (HC2.out.mks.obj e)).1
        have hstm : st ∈ out2 := by rw [← hst0.out]; exact List.getElem_mem hlt
        have hstN := HC2.out.me.lt st hstm
        have HRst := Lib.hid (HC2.out.me.rn st hstm)
        refine range_lawF (T := fun _ => false) (F := FrF w2.heap.size (mtBad L.mb (B + 1) (some ⟨g, 0, none⟩))) (encs := encI) (Good := BGood x (fun e => e.q.isEmpty) st) (Full := BFull x (fun e => e.q.isEmpty) st) (gf := 90) (lb := #[.pointer (some ⟨n0, 0, none⟩), .pointer (some ⟨n0 + 1, 0, none⟩), .pointer (some ⟨n0 + 2, 0, none⟩)]) rfl (enters_of Try.func90 (by kernel_rfl) rfl) (frm_frf _ _)
          (behind1_N (ItK w0 x p L wb n0 st (.func (.func 73) #[] #[])) _ x p L wb n0 (n0 + 1) (n0 + 2) 0 st _ (fun V h => h.it HW.out.es) (fun V V' h hb => h.below hb) (fun V V' h hf => h.frf hf (by omega) (by omega) (by omega) (by omega)
            (fun k h1 h2 e => by
              rcases e with e | e | e
              · omega
              · omega
              · simp only [obk, Option.some.injEq] at e; omega)
            (fun e => by
              rcases e with e | e | e
              · exact HW.out.mp.ne_blk HW.out.box e.symm
              · omega
              · simp only [obk, Option.some.injEq] at e; omega)
            (fun e => by
              rcases e with e | e | e
              · exact HW.out.mp.ne_blk HW.out.first e.symm
              · omega
              · simp only [obk, Option.some.injEq] at e; omega)
            (fun e => by
              rcases e with e | e | e
              · exact HW.out.mp.ne_blk HW.out.next e.symm
              · omega
              · simp only [obk, Option.some.injEq] at e; omega) (by omega)
            (fun k e => by
              have := HW.out.own
              rcases e with e | e | e
              · omega
              · omega
              · simp only [obk, Option.some.injEq] at e; omega))
            (fun V e sa sc h hs => byNone_any e sa sc V) hstN hnn.2.1 hM _ w2 hItK) (fun _ => rfl)
          (ClI w0 W wb B x p L R mn set (.func (.func 83) #[] #[.pointer (some ⟨B, 0, none⟩), .pointer (some ⟨B + 1, 0, none⟩)]) ds out2 g w2.heap.size) ?bI ?h0 ?round ?done
        case bI =>
          rintro s V V' row ⟨mn3, m3, oa3, oc3, out3, h1, h2, h3, h4⟩ hg hr
          exact ⟨mn3, m3, oa3, oc3, out3, h1.books (kps_grown hg) (n := w2.heap.size) (by omega) hB.out hmk (fun k e => by
            obtain ⟨r1, o, r2, r3⟩ := hr k e
            refine ⟨r1, o, r2, ?_⟩
            rcases r3 with r3 | ⟨_, _, _, _, r3⟩
            · exact r3
            · cases r3), h2, h3, h4⟩
        case h0 => exact ⟨mn2, m2, _, oc2, out2, HC2.out, ⟨[], by simp⟩, fun t h => (by cases h), fun h e => .inl (by simp only [obk, Option.some.injEq] at e; exact e.symm)⟩
        case round =>
          rintro l pre t V hl ⟨r, hr⟩ ⟨mn3, m3, oa3, oc3, out3, hC3, ⟨rp, hpre⟩, hmem, hloc⟩ hgood
          have hin : t ∈ behE x.es (fun e => e.q.isEmpty) (st : Int) x.es.length := by
            obtain ⟨r0, hr0⟩ := hgood
            rw [← hr0]; simp
          obtain ⟨e, hee, hef, heq, het⟩ := (mem_behind _ st t).1 hin
          obtain ⟨_, b, hb1, hb2⟩ := link_ends HX.out hee
          obtain rfl : t = (b : Int) := het.symm.trans hb1
          have HRb := Lib.hid (Rn.step HRst.out ⟨e, hee, List.isEmpty_iff.1 heq, hef, hb1⟩)
          have HC3 := Lib.hid hC3
          have Hloc := Lib.hid hloc
          have Hmem := Lib.hid hmem
          have Hpre := Lib.hid hpre
          clear hin hgood hee hef heq het hb1 hC3 hloc hmem hpre e0 e1 e2 hItK
          dsimp only [encI]
          gi_wp2_with (fail)
          refine ⟨KeepsFrom.refl _ _, FrF.of_kps (Kps.refl (fun _ => False) V) (Nat.le_trans (by omega) (Nat.le_of_lt (Nat.lt_of_le_of_lt hl (Array.getElem?_eq_some_iff.1 hr).1))) (fun _ _ h => h.elim), fun V2 hg2 => ?_⟩
          have hC4 := HC3.out.books (kps_grown hg2) (n := w2.heap.size) (by omega) hB.out hmk (fun k e => by injection e with e; subst e; exact ⟨hl, _, hr, rfl⟩)
          have hV2 : w2.heap.size ≤ V2.heap.size := Nat.le_trans (Nat.le_of_lt (Nat.lt_of_le_of_lt hl (Array.getElem?_eq_some_iff.1 hr).1)) hg2.size
          have f0 := hC4.fn.cell 0
          have fl := hC4.fn.lt
          simp only [List.getElem?_cons_zero] at f0
          have hol := (hC4.me.len HX.out).2
          have hmn3 := hC4.me.mn
          have Hc := Lib.hid (nmeet_any w0 V2 wb B (B + 1) B x p L (R + 1) mn3 m3 oa3 oc3 out3 b hC4.mt (by omega) (by omega) (by omega) (by omega))
          have HC4 := Lib.hid hC4
          have HV2 := Lib.hid hV2
          clear hC4 hV2 hg2 hr
          gi_wp2_with (fail)
          refine ⟨trivial, rfl, (CallsIn.inRound l ((callsIn_wide (n := 0)).2 Hc.out)).mono ?_⟩
          rintro e V3 ⟨rfl, hq3⟩
          obtain ⟨mn5, m5, a5, c5, out5, hC5, hs5, ⟨r5, hr5⟩, hnew5, hk5⟩ := HC4.out.meet hB.out hb2 HRb.out hq3
          have HK5 := Lib.hid hk5
          have HE : Hid (KeepsFrom w2.heap.size V2 V3 ∧ FrF w2.heap.size (mtBad L.mb (B + 1) (some ⟨g, 0, none⟩)) V2 V3 ∧ ClI w0 W wb B x p L R mn set (.func (.func 83) #[] #[.pointer (some ⟨B, 0, none⟩), .pointer (some ⟨B + 1, 0, none⟩)]) ds out2 g w2.heap.size (pre ++ [(b : Int)]) V3) := Lib.hid ⟨keepsFrom_kps hk5 (fun k o hk ho hc hb => by
              rcases hb with hb | hb | hb
              · omega
              · omega
              · obtain ⟨_, cur, h1⟩ := HC4.out.mt.row.obk_typ hb
                rw [h1] at ho
                cases ho
                cases hc), FrF.of_kps hk5 HV2.out (fun k hk hb => by
              rcases hb with hb | hb | hb
              · exact .inl hb
              · exact .inr (.inl hb)
              · rcases Hloc.out k hb with h | h
                · subst h; exact .inr (.inr rfl)
                · omega), mn5, m5, a5, c5, out5, hC5, ⟨rp ++ r5, by rw [hr5, Hpre.out, List.append_assoc]⟩, (fun t ht => by
              rcases List.mem_append.1 ht with ht | ht
              · obtain ⟨b', h1, h2⟩ := Hmem.out t ht
                exact ⟨b', h1, by rw [hr5]; exact List.mem_append_left _ h2⟩
              · exact ⟨b, List.mem_singleton.1 ht, hs5⟩), (fun h e => by
              rcases hnew5 with rfl | ⟨g', rfl, hg'⟩
              · exact Hloc.out h e
              · simp only [obk, Option.some.injEq] at e
                have := HV2.out
                exact .inr (by omega))⟩
          clear hq3 hC5 hs5 hr5 hnew5 hk5 HK5
          gi_wp2_with (fail)
          exact HE.out
        case done =>
          rintro D xs V hD hfull ⟨mn3, m3, oa3, oc3, out3, hC3, ⟨rp, hpre⟩, hmem, hloc⟩ hK
          have hnm : ¬ isMark ds D := fun e => by have := hmk D e; omega
          have HC5 : Hid (Cl2 w0 W wb B x p L R mn set (.func (.func 83) #[] #[.pointer (some ⟨B, 0, none⟩), .pointer (some ⟨B + 1, 0, none⟩)]) ({ target := .collected D, args := #[] } :: ds) mn3 m3 oa3 oc3 out3 V) := Lib.hid ⟨hC3.mt, hC3.fn, hC3.kp, hC3.me, hC3.all, hC3.mks.push hK hnm, fun k ⟨d, h1, h2⟩ => by
            rcases List.mem_cons.1 h1 with rfl | h1
            · simp only [Target.collected.injEq] at h2; omega
            · exact hC3.ge k ⟨d, h1, h2⟩⟩
          have HA5 : Hid (∀ j (hj : j < out3.length), j < i + 1 → ∀ b, nstep x out3[j] b → b ∈ out3) := Lib.hid (fun j hj hji b hb => by
            subst hpre
            by_cases e : j < i
            · rw [List.getElem_append_left (by omega)] at hb
              exact List.mem_append_left _ (Hall.out j (by omega) e b hb)
            · obtain rfl : j = i := by omega
              rw [List.getElem_append_left hlt, hst0.out] at hb
              obtain ⟨ed, h1, h2, h3, h4⟩ := hb
              have : (b : Int) ∈ xs := by
                rw [show xs = _ from hfull]
                exact (mem_behind _ st _).2 ⟨ed, h1, h3, by rw [h2]; rfl, h4⟩
              obtain ⟨b', e1, e2⟩ := hmem _ this
              obtain rfl : b = b' := by omega
              exact e2)
          have hl3 : i + 1 ≤ out3.length := by rw [hpre, List.length_append]; omega
          have hl4 := (hC3.me.len HX.out)
          clear hC3 hpre hmem hloc hK hfull e0 e1 e2 hItK
          gi_wp2_with (fail)
          refine Handed.intro (x.n.toNat - (i + 1)) (by omega) (hJ _ _ _ ?_)
          exact ⟨i + 1, mn3, m3, oa3, oc3, out3, _, rfl, hl3, ⟨_, _, _, _, _, _, _, _, _, _, _, _, _, _, _, _, _, _, _, _, _, _, _, _, _, _, _, _, _, _, _, _, _, _, _, _, _, _, _, _, _, _, rfl⟩, HC5.out, HA5.out⟩
      · have hiI : ¬ (i : Int) < (out2.length : Int) := by omega
        have HQ : Hid (ClQ w0 W wb x p L R mn set oa2 oc2 out2 wr ∧ ∀ w', Kps (isMark ds) wr w' → ClQ w0 W wb x p L R mn set oa2 oc2 out2 w') := Lib.hid (cl2_end HC.out hB.out (fun j hj b hb => Hall.out j hj (by omega) b hb))
        gi_wp2_with (fail)
        refine leaves_marks _ _ HC.out.mks (fun w' hw' => ⟨.slice oa2 out2.length oc2, ?_, oa2, oc2, out2, rfl, HQ.out.2 w' hw'⟩)
        simp [results, Try.f77, go_sem]
end Go.Proofs.Ytngbfjimmdkfeaa

