/- Texts joined: Ey Ez. -/
import Derived.Test.YtngbfjimmdkfeaaPBDH
import Derived.Test.YtngbfjimmdkfeaaPBDF
set_option linter.unusedVariables false
set_option linter.unusedSimpArgs false
namespace Go.Proofs.Ytngbfjimmdkfeaa
open Go.RowKit Go.Shelf Go.Maps

/-- What it holds: the sets, the moves, what states come to, the moves that grow. -/
structure RbL where
  rs : List NlD
  aA : Option Addr
  cA : Nat
  ms : List MvD
  mA : Option Addr
  mC : Nat
  acs : List Int
  kA : Option Addr
  kC : Nat
  d : MvD
abbrev RbL.vA (L : RbL) : Value := .slice L.aA L.rs.length L.cA
abbrev RbL.vM (L : RbL) : Value := .slice L.mA L.ms.length L.mC
abbrev RbL.vK (L : RbL) : Value := .slice L.kA L.acs.length L.kC
/-- The blocks that may be written. -/
def RbL.W (db : Nat) (L : RbL) (g : Nat) : Prop := g = db ∨ L.vA.ownBlock = some g ∨ L.vM.ownBlock = some g ∨ L.vK.ownBlock = some g ∨ L.d.v.ownBlock = some g
/-- Sets lie in no block that may be written. -/
def StOk (V : World) (rs : List NlD) (W : Nat → Prop) : Prop := ∀ r ∈ rs, IntsN V r.a r.c r.l ∧ ∀ b off, r.a = some ⟨b, off, none⟩ → b < V.heap.size ∧ ¬ W b
theorem StOk.kp {V V' : World} {rs : List NlD} {W W' S : Nat → Prop} (h : StOk V rs W) (k : KpM S V V') (hS : ∀ g, S g → W g) (hW : ∀ g, W' g → W g ∨ V.heap.size ≤ g) : StOk V' rs W' := fun r hr => by
  obtain ⟨h1, h2⟩ := h r hr
  refine ⟨⟨h1.le, h1.max, h1.nil_, h1.at_, fun b off e i hi => k.cell (h1.cell b off e i hi) (fun hs => (h2 b off e).2 (hS b hs))⟩, fun b off e => ⟨Nat.lt_of_lt_of_le (h2 b off e).1 k.size, fun hw => ?_⟩⟩
  rcases hW b hw with h3 | h3
  · exact (h2 b off e).2 h3
  · have := (h2 b off e).1
    omega
structure Rb (X : Nat) (w : World) (nv : List Value) (tb db Lb : Nat) (T : Nat → Bool) (V : World) (L : RbL) : Prop where
  bel : Below X w V
  xs : X ≤ V.heap.size
  nf : Blk V X 32 nv
  res : Blk V (X + 1) 25 [.slice none 0 0, .slice none 0 0]
  dbx : X + 1 < db
  trn : BlkA V tb 4 257 (bG T)
  dv : Blk V db 25 [L.vM, L.vK]
  all : V.ownsRow X 23 1 (.slice L.aA L.rs.length L.cA) L.rs.length (L.rs.map NlD.v)
  mrs : V.ownsRow X 58 1 (.slice L.mA L.ms.length L.mC) L.ms.length (L.ms.map MvD.v)
  acc : V.ownsRow X 3 1 (.slice L.kA L.acs.length L.kC) L.acs.length (L.acs.map (fun v => Value.int .i64 v))
  row : OwnMv V Lb L.d
  lb : X ≤ Lb
  lbs : Lb ≤ V.heap.size
  mvs : ∀ r ∈ L.ms, OwnMv V X r ∧ ∀ g, r.v.ownBlock = some g → g < Lb
  sts : StOk V L.rs (L.W db)
theorem own_lower {w : World} {base base' size n : Nat} {e : TypeId} {v : Value} {xs : List Value} (h : w.ownsRow base e size v n xs) (hb : base' ≤ base) : w.ownsRow base' e size v n xs :=
  ⟨h.1, h.2.elim Or.inl (fun ⟨g, cap, cur, hv, hg, r⟩ => Or.inr ⟨g, cap, cur, hv, Nat.le_trans hb hg, r⟩)⟩
theorem own_BlkA {w : World} {base e size n cap k m : Nat} {t : TypeId} {a : Option Addr} {xs : List Value} {g : Nat → Value} (h : w.ownsRow base e size (.slice a n cap) n xs) (hb : BlkA w k t m g) (hne : e ≠ t) : (Value.slice a n cap).ownBlock ≠ some k := fun e0 => by
  obtain ⟨_, cur, h2⟩ := own_typD h k e0
  obtain ⟨c2, h3⟩ := hb.ty
  rw [h3] at h2
  cases h2
  exact hne rfl
section
variable {X : Nat} {w : World} {nv : List Value} {tb db Lb : Nat} {T : Nat → Bool} {V V' : World} {L : RbL}
theorem Rb.own_X (h : Rb X w nv tb db Lb T V L) {g : Nat} (hg : L.vA.ownBlock = some g ∨ L.vM.ownBlock = some g ∨ L.vK.ownBlock = some g ∨ L.d.v.ownBlock = some g) : X ≤ g ∧ g ≠ X ∧ g ≠ X + 1 ∧ g ≠ tb ∧ g ≠ db := by
  have hrow := h.row
  unfold OwnMv at hrow
  rcases hg with e | e | e | e
  · exact ⟨(own_typD h.all g e).1, fun e2 => own_Blk h.all h.nf (by decide) (by rw [← e2]; exact e.symm), fun e2 => own_Blk h.all h.res (by decide) (by rw [← e2]; exact e.symm), fun e2 => own_BlkA h.all h.trn (by decide) (by rw [← e2]; exact e), fun e2 => own_Blk h.all h.dv (by decide) (by rw [← e2]; exact e.symm)⟩
  · exact ⟨(own_typD h.mrs g e).1, fun e2 => own_Blk h.mrs h.nf (by decide) (by rw [← e2]; exact e.symm), fun e2 => own_Blk h.mrs h.res (by decide) (by rw [← e2]; exact e.symm), fun e2 => own_BlkA h.mrs h.trn (by decide) (by rw [← e2]; exact e), fun e2 => own_Blk h.mrs h.dv (by decide) (by rw [← e2]; exact e.symm)⟩
  · exact ⟨(own_typD h.acc g e).1, fun e2 => own_Blk h.acc h.nf (by decide) (by rw [← e2]; exact e.symm), fun e2 => own_Blk h.acc h.res (by decide) (by rw [← e2]; exact e.symm), fun e2 => own_BlkA h.acc h.trn (by decide) (by rw [← e2]; exact e), fun e2 => own_Blk h.acc h.dv (by decide) (by rw [← e2]; exact e.symm)⟩
  · exact ⟨Nat.le_trans h.lb (own_typD hrow g e).1, fun e2 => own_Blk hrow h.nf (by decide) (by rw [← e2]; exact e.symm), fun e2 => own_Blk hrow h.res (by decide) (by rw [← e2]; exact e.symm), fun e2 => own_BlkA hrow h.trn (by decide) (by rw [← e2]; exact e), fun e2 => own_Blk hrow h.dv (by decide) (by rw [← e2]; exact e.symm)⟩
/-- The moves that grow are others; all else stays. -/
theorem Rb.kp {S : Nat → Prop} (h : Rb X w nv tb db Lb T V L) (k : KpM S V V') (hS : ∀ g, S g → L.d.v.ownBlock = some g) {d' : MvD} (hd : OwnMv V' Lb d') (hn : ∀ g, d'.v.ownBlock = some g → L.d.v.ownBlock = some g ∨ V.heap.size ≤ g) : Rb X w nv tb db Lb T V' { L with d := d' } := by
  have hrow := h.row
  unfold OwnMv at hrow
  have hX : ∀ g, S g → X ≤ g ∧ g ≠ X ∧ g ≠ X + 1 ∧ g ≠ tb ∧ g ≠ db := fun g hs => h.own_X (.inr (.inr (.inr (hS g hs))))
  exact {
    bel := k.bel h.bel h.xs (fun g hs => (hX g hs).1)
    xs := Nat.le_trans h.xs k.size
    nf := k.bk h.nf (fun hs => (hX _ hs).2.1 rfl)
    res := k.bk h.res (fun hs => (hX _ hs).2.2.1 rfl)
    dbx := h.dbx
    trn := k.blk h.trn (fun hs => (hX _ hs).2.2.2.1 rfl)
    dv := k.bk h.dv (fun hs => (hX _ hs).2.2.2.2 rfl)
    all := k.own h.all (fun g e hs => own_ownT h.all hrow (by decide) g e (hS g hs))
    mrs := k.own h.mrs (fun g e hs => own_ownT h.mrs hrow (by decide) g e (hS g hs))
    acc := k.own h.acc (fun g e hs => own_ownT h.acc hrow (by decide) g e (hS g hs))
    row := hd
    lb := h.lb
    lbs := Nat.le_trans h.lbs k.size
    mvs := fun r hr => ⟨by
      have h1 := (h.mvs r hr).1
      unfold OwnMv at h1 ⊢
      exact k.own h1 (fun g e hs => by
        have h2 := (h.mvs r hr).2 g e
        have h3 := (own_typD hrow g (hS g hs)).1
        omega), (h.mvs r hr).2⟩
    sts := h.sts.kp k (fun g hs => .inr (.inr (.inr (.inr (hS g hs))))) (fun g hw => by
      rcases hw with e | e | e | e | e
      · exact .inl (.inl e)
      · exact .inl (.inr (.inl e))
      · exact .inl (.inr (.inr (.inl e)))
      · exact .inl (.inr (.inr (.inr (.inl e))))
      · exact (hn g e).imp (fun e => .inr (.inr (.inr (.inr e)))) id) }
theorem Rb.below (h : Rb X w nv tb db Lb T V L) (hb : Below V.heap.size V V') : Rb X w nv tb db Lb T V' L := by
  have hrow := h.row
  unfold OwnMv at hrow
  have := h.kp (S := fun _ => False) (KpM.ofB hb) (fun _ hs => hs.elim) (d' := L.d) (by unfold OwnMv; exact own_grow hrow hb) (fun g e => .inl e)
  exact this
theorem info_intl : (Try.prog.info? 23).map (fun i => (i.zero, i.size, i.bytes)) = some (some (.slice none 0 0), 1, 24) := by kernel_rfl
/-- A set more. -/
theorem Rb.pushAll (h : Rb X w nv tb db Lb T V L) (ty : TypeId) (r : NlD) (hr : IntsN V r.a r.c r.l) (hf : ∀ b off, r.a = some ⟨b, off, none⟩ → b < V.heap.size ∧ ¬ L.W db b) (hn : L.rs.length ≤ 100000) :
    ∃ g c' V', (Builtin.append_ #[83, 83] ty #[.slice L.aA L.rs.length L.cA, .slice (some ⟨V.heap.size, 0, none⟩) 1 1]).run Try.prog (V.alloc (.cells #[.slice r.a r.l.length r.c] 23)) = .ok (.slice (some ⟨g, 0, none⟩) (L.rs.length + 1) c') V' ∧ Rb X w nv tb db Lb T V' { L with rs := L.rs ++ [r], aA := some ⟨g, 0, none⟩, cA := c' } ∧ V.heap.size ≤ V'.heap.size := by
  have hrow := h.row
  unfold OwnMv at hrow
  obtain ⟨g, c', V', h1, h2, h3, h4, h5⟩ := run_pushL V 83 ty 23 (.slice none 0 0) 1 24 Try.underlying83 info_intl rfl (by decide) [.slice r.a r.l.length r.c] rfl (by intro u hu; rw [List.mem_singleton] at hu; subst hu; rfl) h.all (by omega) (by unfold maxLen; omega) h.xs
  have k : KpM (fun g => L.vA.ownBlock = some g) V V' := KpM.one h3 (fun g e => .inl e)
  have hX : ∀ g, L.vA.ownBlock = some g → X ≤ g ∧ g ≠ X ∧ g ≠ X + 1 ∧ g ≠ tb ∧ g ≠ db := fun g hs => h.own_X (.inl hs)
  have hW : ∀ g', (Value.slice (some ⟨g, 0, none⟩) (L.rs.length + 1) c').ownBlock = some g' → L.vA.ownBlock = some g' ∨ V.heap.size ≤ g' := fun g' e => by
    have : g = g' := by simpa [Value.ownBlock] using e
    subst this
    exact h4
  have hlen : (L.rs ++ [r]).length = L.rs.length + 1 := by rw [List.length_append]; rfl
  have hWW : ∀ g', ({ L with rs := L.rs ++ [r], aA := some ⟨g, 0, none⟩, cA := c' } : RbL).W db g' → L.W db g' ∨ V.heap.size ≤ g' := fun g' hw => by
    unfold RbL.W RbL.vA RbL.vM RbL.vK at hw
    dsimp only at hw
    rw [hlen] at hw
    rcases hw with e | e | e | e | e
    · exact .inl (.inl e)
    · exact (hW g' e).imp (fun e => .inr (.inl e)) id
    · exact .inl (.inr (.inr (.inl e)))
    · exact .inl (.inr (.inr (.inr (.inl e))))
    · exact .inl (.inr (.inr (.inr (.inr e))))
  refine ⟨g, c', V', h1, ?_, k.size⟩
  exact {
    bel := k.bel h.bel h.xs (fun g hs => (hX g hs).1)
    xs := Nat.le_trans h.xs k.size
    nf := k.bk h.nf (fun hs => (hX _ hs).2.1 rfl)
    res := k.bk h.res (fun hs => (hX _ hs).2.2.1 rfl)
    dbx := h.dbx
    trn := k.blk h.trn (fun hs => (hX _ hs).2.2.2.1 rfl)
    dv := k.bk h.dv (fun hs => (hX _ hs).2.2.2.2 rfl)
    all := by
      dsimp only
      rw [hlen, List.map_append]
      exact h2
    mrs := k.own h.mrs (fun g e hs => own_ownT h.mrs h.all (by decide) g e hs)
    acc := k.own h.acc (fun g e hs => own_ownT h.acc h.all (by decide) g e hs)
    row := by
      unfold OwnMv
      exact k.own hrow (fun g e hs => own_ownT hrow h.all (by decide) g e hs)
    lb := h.lb
    lbs := Nat.le_trans h.lbs k.size
    mvs := fun r hr => ⟨by
      have h1 := (h.mvs r hr).1
      unfold OwnMv at h1 ⊢
      exact k.own h1 (fun g e hs => own_ownT h1 h.all (by decide) g e hs), (h.mvs r hr).2⟩
    sts := by
      have hst : StOk V (L.rs ++ [r]) (L.W db) := fun q hq => by
        rcases List.mem_append.1 hq with h6 | h6
        · exact h.sts q h6
        · rw [List.mem_singleton] at h6
          subst h6
          exact ⟨hr, hf⟩
      exact hst.kp k (fun g hs => .inr (.inl hs)) hWW }
set_option maxRecDepth 100000 in
/-- A state's moves more. -/
theorem Rb.pushMs (h : Rb X w nv tb db Lb T V L) (ty : TypeId) (hn : L.ms.length ≤ 100000) :
    ∃ g c' V', (Builtin.append_ #[22, 22] ty #[.slice L.mA L.ms.length L.mC, .slice (some ⟨V.heap.size, 0, none⟩) 1 1]).run Try.prog (V.alloc (.cells #[.slice L.d.a L.d.l.length L.d.c] 58)) = .ok (.slice (some ⟨g, 0, none⟩) (L.ms.length + 1) c') V' ∧ Blk V' db 25 [L.vM, L.vK] ∧ V.heap.size ≤ V'.heap.size ∧
      Rb X w nv tb db (V'.setCell ⟨db, 0, none⟩ (.slice (some ⟨g, 0, none⟩) (L.ms.length + 1) c')).heap.size T (V'.setCell ⟨db, 0, none⟩ (.slice (some ⟨g, 0, none⟩) (L.ms.length + 1) c')) { L with ms := L.ms ++ [L.d], mA := some ⟨g, 0, none⟩, mC := c', d := ⟨[], none, 0⟩ } := by
  have hrow := h.row
  unfold OwnMv at hrow
  obtain ⟨g, c', V', h1, h2, h3, h4, h5⟩ := run_pushL V 22 ty 58 (.slice none 0 0) 1 24 Try.underlying22 info_moves rfl (by decide) [.slice L.d.a L.d.l.length L.d.c] rfl (by intro u hu; rw [List.mem_singleton] at hu; subst hu; rfl) h.mrs (by omega) (by unfold maxLen; omega) h.xs
  have k1 : KpM (fun g => L.vM.ownBlock = some g) V V' := KpM.one h3 (fun g e => .inl e)
  have hdb : db < V.heap.size := h.dv.lt
  have k : KpM (fun g => L.vM.ownBlock = some g ∨ g = db) V (V'.setCell ⟨db, 0, none⟩ (.slice (some ⟨g, 0, none⟩) (L.ms.length + 1) c')) := (k1.mono (fun g e => .inl e)).step (grownBy_set V' db 0 _) (fun g e => .inl (.inr (by injection e with e; exact e.symm)))
  have hX : ∀ g, (L.vM.ownBlock = some g ∨ g = db) → X ≤ g ∧ g ≠ X ∧ g ≠ X + 1 ∧ g ≠ tb := fun g hs => by
    rcases hs with hs | rfl
    · have := h.own_X (.inr (.inl hs))
      exact ⟨this.1, this.2.1, this.2.2.1, this.2.2.2.1⟩
    · have := h.dbx
      refine ⟨by omega, by omega, by omega, fun e => ?_⟩
      obtain ⟨c2, h6⟩ := h.trn.ty
      have h7 : V.heap[g]? = some (.cells #[L.vM, L.vK] 25 (0, 0)) := h.dv
      rw [← e, h7] at h6
      cases h6
  have hW : ∀ g', (Value.slice (some ⟨g, 0, none⟩) (L.ms.length + 1) c').ownBlock = some g' → L.vM.ownBlock = some g' ∨ V.heap.size ≤ g' := fun g' e => by
    have : g = g' := by simpa [Value.ownBlock] using e
    subst this
    exact h4
  have hlen : (L.ms ++ [L.d]).length = L.ms.length + 1 := by rw [List.length_append]; rfl
  have hWW : ∀ g', ({ L with ms := L.ms ++ [L.d], mA := some ⟨g, 0, none⟩, mC := c', d := ⟨[], none, 0⟩ } : RbL).W db g' → L.W db g' ∨ V.heap.size ≤ g' := fun g' hw => by
    unfold RbL.W RbL.vA RbL.vM RbL.vK at hw
    dsimp only at hw
    rw [hlen] at hw
    rcases hw with e | e | e | e | e
    · exact .inl (.inl e)
    · exact .inl (.inr (.inl e))
    · exact (hW g' e).imp (fun e => .inr (.inr (.inl e))) id
    · exact .inl (.inr (.inr (.inr (.inl e))))
    · cases e
  have hd1 : Blk V' db 25 [L.vM, L.vK] := k1.bk h.dv (fun hs => (h.own_X (.inr (.inl hs))).2.2.2.2 rfl)
  refine ⟨g, c', V', h1, hd1, k1.size, ?_⟩
  exact {
    bel := k.bel h.bel h.xs (fun g hs => (hX g hs).1)
    xs := Nat.le_trans h.xs k.size
    nf := k.bk h.nf (fun hs => (hX _ hs).2.1 rfl)
    res := k.bk h.res (fun hs => (hX _ hs).2.2.1 rfl)
    dbx := h.dbx
    trn := k.blk h.trn (fun hs => (hX _ hs).2.2.2 rfl)
    dv := by
      have := hd1.set 0 (.slice (some ⟨g, 0, none⟩) (L.ms.length + 1) c')
      unfold RbL.vM RbL.vK
      dsimp only
      rw [hlen]
      exact this
    all := k.own h.all (fun g e hs => hs.elim (fun hs => own_ownT h.all h.mrs (by decide) g e hs) (fun e2 => own_Blk h.all h.dv (by decide) (by rw [← e2]; exact e.symm)))
    mrs := by
      dsimp only
      rw [hlen, List.map_append]
      refine own_keptD h2 (grownBy_set V' db 0 _) (fun g e e2 => ?_)
      injection e with e
      exact own_Blk h2 hd1 (by decide) (by rw [e]; exact e2.symm)
    acc := k.own h.acc (fun g e hs => hs.elim (fun hs => own_ownT h.acc h.mrs (by decide) g e hs) (fun e2 => own_Blk h.acc h.dv (by decide) (by rw [← e2]; exact e.symm)))
    row := World.ownsRow_nil _ _ _ _
    lb := Nat.le_trans h.xs k.size
    lbs := Nat.le_refl _
    mvs := fun r hr => by
      have key : ∀ {Y : Nat} {q : MvD}, X ≤ Y → OwnMv V Y q → OwnMv (V'.setCell ⟨db, 0, none⟩ (.slice (some ⟨g, 0, none⟩) (L.ms.length + 1) c')) X q ∧ ∀ g', q.v.ownBlock = some g' → g' < (V'.setCell ⟨db, 0, none⟩ (.slice (some ⟨g, 0, none⟩) (L.ms.length + 1) c')).heap.size := fun {Y q} hY hq => by
        unfold OwnMv at hq ⊢
        refine ⟨own_lower (k.own hq (fun g e hs => hs.elim (fun hs => own_ownT hq h.mrs (by decide) g e hs) (fun e2 => own_Blk hq h.dv (by decide) (by rw [← e2]; exact e.symm)))) hY, fun g' e => ?_⟩
        obtain ⟨_, cur, h6⟩ := own_typD hq g' e
        exact Nat.lt_of_lt_of_le (Array.getElem?_eq_some_iff.1 h6).1 k.size
      rcases List.mem_append.1 hr with h6 | h6
      · exact key (Nat.le_refl _) (h.mvs r h6).1
      · rw [List.mem_singleton] at h6
        subst h6
        exact key h.lb h.row
    sts := h.sts.kp k (fun g hs => hs.elim (fun e => .inr (.inr (.inl e))) (fun e => .inl e)) hWW }
set_option maxRecDepth 100000 in
/-- What a state comes to more. -/
theorem Rb.pushAc (h : Rb X w nv tb db Lb T V L) (ty : TypeId) (A : Int) (hn : L.acs.length ≤ 100000) :
    ∃ g c' V', (Builtin.append_ #[23, 23] ty #[.slice L.kA L.acs.length L.kC, .slice (some ⟨V.heap.size, 0, none⟩) 1 1]).run Try.prog (V.alloc (.cells #[.int .i64 A] 3)) = .ok (.slice (some ⟨g, 0, none⟩) (L.acs.length + 1) c') V' ∧ Blk V' db 25 [L.vM, L.vK] ∧ (Blk V' X 32 nv ∧ V'.ownsRow X 23 1 (.slice L.aA L.rs.length L.cA) L.rs.length (L.rs.map NlD.v)) ∧ V.heap.size ≤ V'.heap.size ∧
      Rb X w nv tb db Lb T (V'.setCell ⟨db, 1, none⟩ (.slice (some ⟨g, 0, none⟩) (L.acs.length + 1) c')) { L with acs := L.acs ++ [A], kA := some ⟨g, 0, none⟩, kC := c' } := by
  have hrow := h.row
  unfold OwnMv at hrow
  obtain ⟨g, c', V', h1, h2, h3, h4, h5⟩ := run_pushL V 23 ty 3 (.int .i64 0) 1 8 Try.underlying23 info_intD rfl (by decide) [.int .i64 A] rfl (by intro u hu; rw [List.mem_singleton] at hu; subst hu; rfl) h.acc (by omega) (by unfold maxLen; omega) h.xs
  have k1 : KpM (fun g => L.vK.ownBlock = some g) V V' := KpM.one h3 (fun g e => .inl e)
  have k : KpM (fun g => L.vK.ownBlock = some g ∨ g = db) V (V'.setCell ⟨db, 1, none⟩ (.slice (some ⟨g, 0, none⟩) (L.acs.length + 1) c')) := (k1.mono (fun g e => .inl e)).step (grownBy_set V' db 1 _) (fun g e => .inl (.inr (by injection e with e; exact e.symm)))
  have hX : ∀ g, (L.vK.ownBlock = some g ∨ g = db) → X ≤ g ∧ g ≠ X ∧ g ≠ X + 1 ∧ g ≠ tb := fun g hs => by
    rcases hs with hs | rfl
    · have := h.own_X (.inr (.inr (.inl hs)))
      exact ⟨this.1, this.2.1, this.2.2.1, this.2.2.2.1⟩
    · have := h.dbx
      refine ⟨by omega, by omega, by omega, fun e => ?_⟩
      obtain ⟨c2, h6⟩ := h.trn.ty
      have h7 : V.heap[g]? = some (.cells #[L.vM, L.vK] 25 (0, 0)) := h.dv
      rw [← e, h7] at h6
      cases h6
  have hW : ∀ g', (Value.slice (some ⟨g, 0, none⟩) (L.acs.length + 1) c').ownBlock = some g' → L.vK.ownBlock = some g' ∨ V.heap.size ≤ g' := fun g' e => by
    have : g = g' := by simpa [Value.ownBlock] using e
    subst this
    exact h4
  have hlen : (L.acs ++ [A]).length = L.acs.length + 1 := by rw [List.length_append]; rfl
  have hWW : ∀ g', ({ L with acs := L.acs ++ [A], kA := some ⟨g, 0, none⟩, kC := c' } : RbL).W db g' → L.W db g' ∨ V.heap.size ≤ g' := fun g' hw => by
    unfold RbL.W RbL.vA RbL.vM RbL.vK at hw
    dsimp only at hw
    rw [hlen] at hw
    rcases hw with e | e | e | e | e
    · exact .inl (.inl e)
    · exact .inl (.inr (.inl e))
    · exact .inl (.inr (.inr (.inl e)))
    · exact (hW g' e).imp (fun e => .inr (.inr (.inr (.inl e)))) id
    · exact .inl (.inr (.inr (.inr (.inr e))))
  have hd1 : Blk V' db 25 [L.vM, L.vK] := k1.bk h.dv (fun hs => (h.own_X (.inr (.inr (.inl hs)))).2.2.2.2 rfl)
  refine ⟨g, c', V', h1, hd1, ⟨k1.bk h.nf (fun hs => (h.own_X (.inr (.inr (.inl hs)))).2.1 rfl), k1.own h.all (fun g e hs => own_ownT h.all h.acc (by decide) g e hs)⟩, k1.size, ?_⟩
  exact {
    bel := k.bel h.bel h.xs (fun g hs => (hX g hs).1)
    xs := Nat.le_trans h.xs k.size
    nf := k.bk h.nf (fun hs => (hX _ hs).2.1 rfl)
    res := k.bk h.res (fun hs => (hX _ hs).2.2.1 rfl)
    dbx := h.dbx
    trn := k.blk h.trn (fun hs => (hX _ hs).2.2.2 rfl)
    dv := by
      have := hd1.set 1 (.slice (some ⟨g, 0, none⟩) (L.acs.length + 1) c')
      unfold RbL.vM RbL.vK
      dsimp only
      rw [hlen]
      exact this
    all := k.own h.all (fun g e hs => hs.elim (fun hs => own_ownT h.all h.acc (by decide) g e hs) (fun e2 => own_Blk h.all h.dv (by decide) (by rw [← e2]; exact e.symm)))
    acc := by
      dsimp only
      rw [hlen, List.map_append]
      refine own_keptD h2 (grownBy_set V' db 1 _) (fun g e e2 => ?_)
      injection e with e
      exact own_Blk h2 hd1 (by decide) (by rw [e]; exact e2.symm)
    mrs := k.own h.mrs (fun g e hs => hs.elim (fun hs => own_ownT h.mrs h.acc (by decide) g e hs) (fun e2 => own_Blk h.mrs h.dv (by decide) (by rw [← e2]; exact e.symm)))
    row := by
      unfold OwnMv
      exact k.own hrow (fun g e hs => hs.elim (fun hs => own_ownT hrow h.acc (by decide) g e hs) (fun e2 => own_Blk hrow h.dv (by decide) (by rw [← e2]; exact e.symm)))
    lb := h.lb
    lbs := Nat.le_trans h.lbs k.size
    mvs := fun r hr => ⟨by
      have h1 := (h.mvs r hr).1
      unfold OwnMv at h1 ⊢
      exact k.own h1 (fun g e hs => hs.elim (fun hs => own_ownT h1 h.acc (by decide) g e hs) (fun e2 => own_Blk h1 h.dv (by decide) (by rw [← e2]; exact e.symm))), (h.mvs r hr).2⟩
    sts := h.sts.kp k (fun g hs => hs.elim (fun e => .inr (.inr (.inr (.inl e)))) (fun e => .inl e)) hWW }
/-- The moves that grow are begun anew. -/
theorem Rb.begin (h : Rb X w nv tb db Lb T V L) : Rb X w nv tb db V.heap.size T V { L with d := ⟨[], none, 0⟩ } :=
  { bel := h.bel, xs := h.xs, nf := h.nf, res := h.res, dbx := h.dbx, trn := h.trn, dv := h.dv, all := h.all, mrs := h.mrs, acc := h.acc
    row := World.ownsRow_nil _ _ _ _
    lb := h.xs
    lbs := Nat.le_refl _
    mvs := fun r hr => ⟨(h.mvs r hr).1, fun g e => Nat.lt_of_lt_of_le ((h.mvs r hr).2 g e) h.lbs⟩
    sts := h.sts.kp (S := fun _ => False) (KpM.refl V) (fun _ hs => hs.elim) (fun g hw => by
      rcases hw with e | e | e | e | e
      · exact .inl (.inl e)
      · exact .inl (.inr (.inl e))
      · exact .inl (.inr (.inr (.inl e)))
      · exact .inl (.inr (.inr (.inr (.inl e))))
      · cases e) }
end
end Go.Proofs.Ytngbfjimmdkfeaa

namespace Go.Proofs.Ytngbfjimmdkfeaa
open Go.RowKit Go.Shelf Go.Maps

/-- A set as Build has it: rising, of states, closed. -/
def SetP (x : Nf) (l : List Nat) : Prop := Rising l ∧ (∀ v ∈ l, v < x.n.toNat) ∧ ∀ a, Rn x (· ∈ l) a → a ∈ l
theorem setP_clo {x : Nf} (hl : linkB x = true) {S : Nat → Prop} (hS : ∀ a, S a → a < x.n.toNat) : SetP x (cloP x S) :=
  ⟨cloP_rising x S, fun v hv => rn_lt hl hS ((cloP_mem hl hS v).1 hv), fun a ha => (cloP_mem hl hS a).2 (Rn.closed (C := fun a => Rn x S a) (fun b hb => (cloP_mem hl hS b).1 hb) (fun b c hb hc => .step hb hc) ha)⟩
theorem setP_go {x : Nf} (hl : linkB x = true) (s : List Nat) (c : Nat) : SetP x (goA x s c) := setP_clo hl (fun b ⟨_, _, h⟩ => bstep_lt hl h)
theorem go_is {x : Nf} (hl : linkB x = true) {s out : List Nat} {c : Nat} (hs : SetP x s) (hr : Rising out) (hm : ∀ v, v ∈ out ↔ Rn x (fun b => ∃ a, Rn x (· ∈ s) a ∧ bstep x c a b) v) : out = goA x s c := by
  refine cloP_is hl (fun b ⟨_, _, h⟩ => bstep_lt hl h) hr (fun v => ?_)
  rw [hm v]
  exact Rn.congr (fun b => ⟨fun ⟨a, h1, h2⟩ => ⟨a, hs.2.2 a h1, h2⟩, fun ⟨a, h1, h2⟩ => ⟨a, .base h1, h2⟩⟩) v
theorem bstep_same {x : Nf} {T : Nat → Bool} (hT : TrnJ T x.es []) {c a b : Nat} (hc : c + 1 < 257) (ht : T (c + 1) = false) : bstep x (c + 1) a b ↔ bstep x c a b := by
  have key : ∀ e ∈ x.es, inSp e.q (c + 1) = true ↔ inSp e.q c = true := fun e he => by
    have hn : ∀ p ∈ e.q, ¬ (c + 1 = p.lo.toNat ∨ c + 1 = p.hi.toNat + 1) := fun p hp h => by
      have := (hT (c + 1) hc).2 (.inr (.inl ⟨e, he, p, hp, h⟩))
      rw [ht] at this
      cases this
    rw [inSp_iff, inSp_iff]
    constructor
    · rintro ⟨p, hp, h1, h2⟩
      have := hn p hp
      exact ⟨p, hp, by omega, by omega⟩
    · rintro ⟨p, hp, h1, h2⟩
      have := hn p hp
      exact ⟨p, hp, by omega, by omega⟩
  constructor
  · rintro ⟨e, he, h1, h2⟩
    exact ⟨e, he, (key e he).1 h1, h2⟩
  · rintro ⟨e, he, h1, h2⟩
    exact ⟨e, he, (key e he).2 h1, h2⟩
theorem go_same {x : Nf} {T : Nat → Bool} (hT : TrnJ T x.es []) (s : List Nat) {c : Nat} (hc : c + 1 < 257) (ht : T (c + 1) = false) : goA x s (c + 1) = goA x s c := by
  unfold goA
  congr 1
  funext b
  refine propext ⟨fun ⟨a, h1, h2⟩ => ⟨a, h1, (bstep_same hT hc ht).1 h2⟩, fun ⟨a, h1, h2⟩ => ⟨a, h1, (bstep_same hT hc ht).2 h2⟩⟩
theorem movA_step {go : Nat → List Nat} {all A : List (List Nat)} {m : List Mv} {t : Int} {c : Nat} (h : movA go all c = (A, m, t)) : movA go all (c + 1) = (addA A (go c), pushM m c (toA A (go c)), toA A (go c)) := by
  rw [movA, h]
/-- Where nothing turns, all stays. -/
theorem movA_stay {go : Nat → List Nat} {all A : List (List Nat)} {m : List Mv} {t : Int} {c : Nat} (h : movA go all (c + 1) = (A, m, t)) (hg : go (c + 1) = go c) : movA go all (c + 2) = (A, pushM m (c + 1) t, t) ∧ (t = -1 ∨ 0 ≤ t) := by
  have hF : Fnd A (go c) t := by
    have := h
    rw [movA] at this
    injection this with h1 h2
    injection h2 with h2 h3
    rw [← h1, ← h3]
    exact fnd_add _ _
  obtain ⟨g1, g2⟩ := fnd_same hF
  refine ⟨by rw [movA_step h, hg, g1, g2], ?_⟩
  rcases hF with ⟨_, h2⟩ | ⟨_, i, _, h2⟩
  · exact .inl h2
  · exact .inr (by omega)
theorem movA_nil {go : Nat → List Nat} {all A : List (List Nat)} {m : List Mv} {t : Int} {c : Nat} (h : movA go all c = (A, m, t)) (hg : go c = []) : movA go all (c + 1) = (A, m, -1) := by
  rw [movA_step h, hg]
  simp [addA, toA, push_none]
theorem movA_old {go : Nat → List Nat} {all A : List (List Nat)} {m : List Mv} {t : Int} {c : Nat} (h : movA go all c = (A, m, t)) (hg : go c ≠ []) {i : Nat} (hi : fdR (go c) A 0 = (i : Int)) : movA go all (c + 1) = (A, pushM m c (i : Int), (i : Int)) := by
  rw [fdR_is] at hi
  rw [movA_step h]
  unfold addA toA
  rw [if_neg hg, if_neg hg]
  rcases hx : idxA A (go c) with _ | j
  · rw [hx] at hi
    dsimp only at hi
    omega
  · rw [hx] at hi
    simp only [Nat.zero_add] at hi
    dsimp only
    have : j = i := by omega
    rw [this]
theorem movA_new {go : Nat → List Nat} {all A : List (List Nat)} {m : List Mv} {t : Int} {c : Nat} (h : movA go all c = (A, m, t)) (hg : go c ≠ []) (hi : fdR (go c) A 0 < 0) : movA go all (c + 1) = (A ++ [go c], pushM m c (A.length : Int), (A.length : Int)) := by
  rw [fdR_is] at hi
  rw [movA_step h]
  unfold addA toA
  rw [if_neg hg, if_neg hg]
  rcases hx : idxA A (go c) with _ | j
  · rfl
  · rw [hx] at hi
    simp only [Nat.zero_add] at hi
    omega
theorem push_len (l : List Mv) (c : Nat) (t : Int) : (pushM l c t).length ≤ l.length + 1 := by
  by_cases ht : t = -1
  · subst ht
    rw [push_none]
    omega
  · rcases List.eq_nil_or_concat l with rfl | ⟨l0, y, rfl⟩
    · rw [push_nil c ht]
      simp
    · rw [List.concat_eq_append]
      by_cases h2 : y.to = t ∧ y.hi + 1 = c
      · rw [push_more l0 y ht h2]
        simp
      · rw [push_new l0 y ht h2]
        simp
theorem fdR_lo (s : List Nat) (A : List (List Nat)) : fdR s A 0 = -1 ∨ ∃ i : Nat, fdR s A 0 = (i : Int) ∧ i < A.length := by
  rw [fdR_is]
  rcases hx : idxA A s with _ | j
  · exact .inl rfl
  · refine .inr ⟨j, by dsimp only; rw [Nat.zero_add], ?_⟩
    unfold idxA at hx
    exact (List.findIdx?_eq_some_iff_getElem.1 hx).1
section
variable {X : Nat} {w : World} {nv : List Value} {tb db Lb : Nat} {T : Nat → Bool} {V V' : World} {L : RbL}
theorem Rb.W_lt (h : Rb X w nv tb db Lb T V L) {g : Nat} (hg : L.W db g) : g < V.heap.size := by
  have hrow := h.row
  unfold OwnMv at hrow
  have key : ∀ {base e size n cap : Nat} {a : Option Addr} {xs : List Value}, V.ownsRow base e size (.slice a n cap) n xs → (Value.slice a n cap).ownBlock = some g → g < V.heap.size := fun ho e => by
    obtain ⟨_, cur, h6⟩ := own_typD ho g e
    exact (Array.getElem?_eq_some_iff.1 h6).1
  rcases hg with e | e | e | e | e
  · subst e
    exact h.dv.lt
  · exact key h.all e
  · exact key h.mrs e
  · exact key h.acc e
  · exact key hrow e
theorem row_slices {base g n cap k : Nat} {rs : List NlD} (h : V.ownsRow base 23 1 (.slice (some ⟨g, 0, none⟩) n cap) n (rs.map NlD.v)) (hk : k < rs.length) : V.cell? ⟨g, k, none⟩ = some (.slice rs[k].a rs[k].l.length rs[k].c) := by
  have hl := h.1
  rw [List.length_map] at hl
  have h1 := World.ownsRow.cellAt h k (by omega)
  rw [h1, List.getElem?_map, List.getElem?_eq_getElem hk]
  rfl
theorem Rb.sts_ (h : Rb X w nv tb db Lb T V L) : Sts V L.aA L.cA L.rs := by
  have hall := h.all
  have hle := ownW_le hall
  refine ⟨hle.1, hle.2, fun e => ?_, fun i hi => ?_, fun b off e i hi => ?_, fun r hr => (h.sts r hr).1⟩
  · rcases hall.2 with ⟨e1, e0⟩ | ⟨g, cp, cur, e1, _⟩
    · injection e1
    · rw [e] at e1
      injection e1 with e1 _ _
      cases e1
  · obtain ⟨g, hg, _⟩ := own_some hall (by omega)
    exact ⟨g, 0, hg⟩
  · obtain ⟨g, hg, _⟩ := own_some hall (by omega)
    rw [hg] at e hall
    cases e
    rw [Nat.zero_add]
    exact row_slices hall hi
end
end Go.Proofs.Ytngbfjimmdkfeaa

