/- Layer 7: the reader, where it lies: a rule more, an alternative more, a name more. -/
import Derived.Test.YtoaabfdilhbajaaXe
import Derived.Test.YtoaabfdilhbajaaRange
namespace Go.Proofs.Ytoaabfdilhbajaa
open Go.RowKit

def Lo (m : Nat) (a : Option Addr) (n c : Nat) : Prop := ∀ g, (Value.slice a n c).ownBlock = some g → g < m
abbrev OwnN (w : World) (base : Nat) (d : AltD) : Prop := w.ownsRow base 9 1 (.slice d.a d.l.length d.c) d.l.length (d.l.map Value.string)
abbrev OwnA (w : World) (base : Nat) (r : RlD) : Prop := w.ownsRow base 37 1 (.slice r.a r.ds.length r.c) r.ds.length (r.ds.map AltD.v)
abbrev OwnR (w : World) (base : Nat) (a : Option Addr) (c : Nat) (rs : List RlD) : Prop := w.ownsRow base 40 2 (.slice a rs.length c) rs.length (rs.flatMap RlD.cells)
structure DoneA (w : World) (B m : Nat) (d : AltD) : Prop where
  own : OwnN w B d
  lo : Lo m d.a d.l.length d.c
structure DoneR (w : World) (B m : Nat) (r : RlD) : Prop where
  own : OwnA w B r
  lo : Lo m r.a r.ds.length r.c
  alts : ∀ d ∈ r.ds, DoneA w B m d
structure LastR (w : World) (m1 m2 : Nat) (r : RlD) : Prop where
  own : OwnA w m1 r
  alts : r.ds = [] ∨ ∃ ds d, r.ds = ds ++ [d] ∧ (∀ e ∈ ds, DoneA w m1 m2 e) ∧ OwnN w m2 d
/-- What lay below B is as it was, but for the reader's own box. -/
structure Kb (B rb : Nat) (w w' : World) : Prop where
  os : w'.os = w.os
  tape : w'.tape = w.tape
  output : w'.output = w.output
  size : w.heap.size ≤ w'.heap.size
  block : ∀ k, k < B → k ≠ rb → w'.heap[k]? = w.heap[k]?
  ko : KeepsOthers w w'
theorem Kb.refl (B rb : Nat) (w : World) : Kb B rb w w := ⟨rfl, rfl, rfl, Nat.le_refl _, fun _ _ _ => rfl, KeepsOthers.refl w⟩
theorem Kb.trans {B rb : Nat} {a b c : World} (h : Kb B rb a b) (k : Kb B rb b c) : Kb B rb a c := ⟨k.os.trans h.os, k.tape.trans h.tape, k.output.trans h.output, Nat.le_trans h.size k.size, fun i h1 h2 => (k.block i h1 h2).trans (h.block i h1 h2), h.ko.trans k.ko⟩
theorem Kb.grown {B rb : Nat} {a w w' : World} {row : Option Nat} (h : Kb B rb a w) (hg : w.grownBy w' row) (hB : B ≤ w.heap.size) (hr : ∀ k, row = some k → B ≤ k ∨ k = rb) (hc : ∀ k, row = some k → ∃ cs t fr, w.heap[k]? = some (.cells cs t fr)) : Kb B rb a w' :=
  h.trans ⟨hg.os, hg.tape, hg.output, hg.size, fun i h1 h2 => hg.block i (by omega) (fun e => by rcases hr i e.symm with h | h <;> omega), KeepsOthers.of_grownBy hg (fun j o e ho => by obtain ⟨cs, t, fr, hk⟩ := hc j e; rw [hk] at ho; cases ho; rfl)⟩
theorem Kb.of_below {B rb : Nat} {a w : World} (h : Below a.heap.size a w) (hB : B ≤ a.heap.size) : Kb B rb a w := ⟨h.os, h.tape, h.output, h.size, fun k hk _ => h.block k (by omega), h.size, fun k o hk _ => (h.block k (Array.getElem?_eq_some_iff.1 hk).1).trans hk⟩
structure RdAt (w : World) (B rb : Nat) (rs : List RlD) (place : Nat) (ra : Option Addr) (rc : Nat) : Prop where
  box : Blk w rb 55 [.slice ra rs.length rc, .int .i64 (place : Int)]
  bl : B ≤ w.heap.size
  row : OwnR w B ra rc rs
  last : rs = [] ∨ ∃ m1 m2 qs r, B ≤ m1 ∧ m1 ≤ m2 ∧ m2 ≤ w.heap.size ∧ rs = qs ++ [r] ∧ (∀ q ∈ qs, DoneR w B m1 q) ∧ LastR w m1 m2 r
section
variable {w w' : World} {base size n cap : Nat} {e : TypeId} {a : Option Addr} {xs : List Value} {row : Option Nat}
theorem own_kept_ty (h : w.ownsRow base e size (.slice a n cap) n xs) (hg : w.grownBy w' row) (hrow : ∀ g, row = some g → ∃ cur t fr, w.heap[g]? = some (.cells cur t fr) ∧ e ≠ t) : w'.ownsRow base e size (.slice a n cap) n xs := by
  rcases h0 : (Value.slice a n cap).ownBlock with _ | k
  · exact h.kept hg (.inl h0)
  · refine h.kept hg (.inr (fun e0 => ?_))
    rw [h0] at e0
    obtain ⟨cur, t, fr, hk, ht⟩ := hrow k e0.symm
    exact own_ne_ty h hk ht h0
theorem own_kept_lo {m : Nat} (h : w.ownsRow base e size (.slice a n cap) n xs) (hg : w.grownBy w' row) (hlo : Lo m a n cap) (hrow : ∀ g, row = some g → m ≤ g) : w'.ownsRow base e size (.slice a n cap) n xs := by
  rcases h0 : (Value.slice a n cap).ownBlock with _ | k
  · exact h.kept hg (.inl h0)
  · refine h.kept hg (.inr (fun e0 => ?_))
    rw [h0] at e0
    have := hrow k e0.symm
    have := hlo k h0
    omega
end
/-- What is written is of another type than the names' and alternatives' rows. -/
def Oth (w : World) (row : Option Nat) : Prop := ∀ g, row = some g → ∃ cur t fr, w.heap[g]? = some (.cells cur t fr) ∧ 9 ≠ t ∧ 37 ≠ t
section
variable {w w' : World} {B m m1 m2 : Nat} {row : Option Nat}
theorem DoneA.oth {d : AltD} (h : DoneA w B m d) (hg : w.grownBy w' row) (ho : Oth w row) : DoneA w' B m d :=
  ⟨own_kept_ty h.own hg (fun g e => by obtain ⟨c, t, f, h1, h2, _⟩ := ho g e; exact ⟨c, t, f, h1, h2⟩), h.lo⟩
theorem DoneA.lo' {d : AltD} (h : DoneA w B m d) (hg : w.grownBy w' row) (hrow : ∀ g, row = some g → m ≤ g) : DoneA w' B m d := ⟨own_kept_lo h.own hg h.lo hrow, h.lo⟩
theorem DoneR.oth {r : RlD} (h : DoneR w B m r) (hg : w.grownBy w' row) (ho : Oth w row) : DoneR w' B m r :=
  ⟨own_kept_ty h.own hg (fun g e => by obtain ⟨c, t, f, h1, _, h2⟩ := ho g e; exact ⟨c, t, f, h1, h2⟩), h.lo, fun d hd => (h.alts d hd).oth hg ho⟩
theorem DoneR.lo' {r : RlD} (h : DoneR w B m r) (hg : w.grownBy w' row) (hrow : ∀ g, row = some g → m ≤ g) : DoneR w' B m r := ⟨own_kept_lo h.own hg h.lo hrow, h.lo, fun d hd => (h.alts d hd).lo' hg hrow⟩
theorem LastR.oth {r : RlD} (h : LastR w m1 m2 r) (hg : w.grownBy w' row) (ho : Oth w row) : LastR w' m1 m2 r :=
  ⟨own_kept_ty h.own hg (fun g e => by obtain ⟨c, t, f, h1, _, h2⟩ := ho g e; exact ⟨c, t, f, h1, h2⟩),
   h.alts.imp id (fun ⟨ds, d, e, h1, h2⟩ => ⟨ds, d, e, fun x hx => (h1 x hx).oth hg ho, own_kept_ty h2 hg (fun g e => by obtain ⟨c, t, f, h1, h2, _⟩ := ho g e; exact ⟨c, t, f, h1, h2⟩)⟩)⟩
theorem DoneA.up {m' B' : Nat} {d : AltD} (h : DoneA w B m d) (hm : m ≤ m') (hB : B' ≤ B) : DoneA w B' m' d := ⟨own_mono h.own hB, fun g e => Nat.lt_of_lt_of_le (h.lo g e) hm⟩
theorem DoneR.up {m' : Nat} {r : RlD} (h : DoneR w B m r) (hm : m ≤ m') : DoneR w B m' r := ⟨h.own, fun g e => Nat.lt_of_lt_of_le (h.lo g e) hm, fun d hd => (h.alts d hd).up hm (Nat.le_refl _)⟩
/-- The last rule is done. -/
theorem LastR.done {r : RlD} (h : LastR w m1 m2 r) (hB : B ≤ m1) (h12 : m1 ≤ m2) (hm : m2 ≤ w.heap.size) : DoneR w B w.heap.size r := by
  refine ⟨own_mono h.own hB, own_lt h.own, fun d hd => ?_⟩
  rcases h.alts with e | ⟨ds, d', e, h1, h2⟩
  · rw [e] at hd; cases hd
  · rw [e] at hd
    rcases List.mem_append.1 hd with hd | hd
    · exact (h1 d hd).up hm hB
    · rw [List.mem_singleton.1 hd]
      exact ⟨own_mono h2 (Nat.le_trans hB h12), own_lt h2⟩
end
theorem cells_len (rs : List RlD) : (rs.flatMap RlD.cells).length = rs.length * 2 := by
  induction rs with
  | nil => rfl
  | cons x l ih => simp only [List.flatMap_cons, List.length_append, List.length_cons] at ih ⊢; rw [ih]; simp [RlD.cells]; omega
section
variable {w : World} {B rb place rc : Nat} {rs : List RlD} {ra : Option Addr}
theorem RdAt.base_le (h : RdAt w B rb rs place ra rc) : B ≤ w.heap.size := h.bl
theorem RdAt.box_heap (h : RdAt w B rb rs place ra rc) : w.heap[rb]? = some (.cells [.slice ra rs.length rc, .int .i64 (place : Int)].toArray 55 (0, 0)) := h.box
/-- Another place. -/
theorem RdAt.put (h : RdAt w B rb rs place ra rc) (p : Nat) : RdAt (w.setCell ⟨rb, 1, none⟩ (.int .i64 (p : Int))) B rb rs p ra rc ∧ Kb B rb w (w.setCell ⟨rb, 1, none⟩ (.int .i64 (p : Int))) := by
  have hg := grownBy_set w rb 1 (.int .i64 (p : Int))
  have ho : Oth w (some rb) := fun g e => by cases e; exact ⟨_, _, _, h.box_heap, by decide, by decide⟩
  refine ⟨⟨h.box.set 1 _, Nat.le_trans h.bl hg.size, own_kept_ty h.row hg (fun g e => by cases e; exact ⟨_, _, _, h.box_heap, by decide⟩), h.last.imp id ?_⟩, (Kb.refl B rb w).grown hg h.base_le (fun k e => by cases e; exact .inr rfl) (fun k e => by cases e; exact ⟨_, _, _, h.box_heap⟩)⟩
  rintro ⟨m1, m2, qs, r, h1, h2, h3, h4, h5, h6⟩
  exact ⟨m1, m2, qs, r, h1, h2, Nat.le_trans h3 hg.size, h4, fun q hq => (h5 q hq).oth hg ho, h6.oth hg ho⟩
/-- A rule more. -/
theorem RdAt.rule (h : RdAt w B rb rs place ra rc) (name : ByteArray) (ty : TypeId) (hn : rs.length + 1 ≤ 1099511627780) :
    ∃ a' c' w', (Builtin.append_ #[22, 22] ty #[.slice ra rs.length rc, .slice (some ⟨w.heap.size, 0, none⟩) 1 1]).run Try.prog (w.alloc (.cells #[.string name, .slice none 0 0] 40)) = .ok (.slice a' (rs.length + 1) c') w' ∧
      Blk w' rb 55 [.slice ra rs.length rc, .int .i64 (place : Int)] ∧ RdAt (w'.setCell ⟨rb, 0, none⟩ (.slice a' (rs.length + 1) c')) B rb (rs ++ [⟨name, [], none, 0⟩]) place a' c' ∧ Kb B rb w (w'.setCell ⟨rb, 0, none⟩ (.slice a' (rs.length + 1) c')) := by
  obtain ⟨a', c', w', hrun, ho, hg⟩ := run_pushV w 22 ty 40 _ 2 40 Try.underlying22 info_rule rfl (by decide) (by decide) [.string name, .slice none 0 0] rfl (by simp [Value.oneCell']) h.row hn h.base_le
  have hrt := own_typ h.row
  have hO : Oth w (Value.slice ra rs.length rc).ownBlock := fun g e => by
    obtain ⟨_, cur, hk⟩ := hrt g e
    exact ⟨cur, _, _, hk, by decide, by decide⟩
  have hbx : Blk w' rb 55 [.slice ra rs.length rc, .int .i64 (place : Int)] := h.box.kept hg (fun e => by
    obtain ⟨_, cur, hk⟩ := hrt rb e.symm
    rw [h.box_heap] at hk
    cases hk)
  have hg2 := grownBy_set w' rb 0 (.slice a' (rs.length + 1) c')
  have hbh : w'.heap[rb]? = some (.cells [.slice ra rs.length rc, .int .i64 (place : Int)].toArray 55 (0, 0)) := hbx
  have hO2 : Oth w' (some rb) := fun g e => by cases e; exact ⟨_, _, _, hbh, by decide, by decide⟩
  have hlen : (rs ++ [(⟨name, [], none, 0⟩ : RlD)]).length = rs.length + 1 := by simp
  refine ⟨a', c', w', hrun, hbx, ⟨?_, Nat.le_trans h.base_le (Nat.le_trans hg.size hg2.size), ?_, .inr ⟨w.heap.size, w.heap.size, rs, ⟨name, [], none, 0⟩, h.base_le, Nat.le_refl _, Nat.le_trans hg.size hg2.size, rfl, fun q hq => ?_, ⟨World.ownsRow_nil _ _ _ _, .inl rfl⟩⟩⟩, ?_⟩
  · rw [hlen]; exact hbx.set 0 _
  · have := own_kept_ty ho hg2 (fun g e => by cases e; exact ⟨_, _, _, hbh, by decide⟩)
    unfold OwnR
    rw [hlen]
    simpa [RlD.cells] using this
  · have hd : DoneR w B w.heap.size q := by
      rcases h.last with e | ⟨m1, m2, qs, r, h1, h2, h3, h4, h5, h6⟩
      · rw [e] at hq; cases hq
      · rw [h4] at hq
        rcases List.mem_append.1 hq with hq | hq
        · exact (h5 q hq).up (Nat.le_trans h2 h3)
        · rw [List.mem_singleton.1 hq]
          exact h6.done h1 h2 h3
    exact (hd.oth hg hO).oth hg2 hO2
  · exact ((Kb.refl B rb w).grown hg h.base_le (fun k e => .inl (hrt k e).1) (fun k e => by obtain ⟨_, cur, hk⟩ := hrt k e; exact ⟨_, _, _, hk⟩)).grown hg2 (Nat.le_trans h.base_le hg.size) (fun k e => by cases e; exact .inr rfl) (fun k e => by cases e; exact ⟨_, _, _, hbh⟩)

theorem flat_set (qs : List RlD) (r r' : RlD) (hn : r'.n = r.n) : ((qs ++ [r]).flatMap RlD.cells).set (qs.length * 2 + 1) (.slice r'.a r'.ds.length r'.c) = (qs ++ [r']).flatMap RlD.cells := by
  simp only [List.flatMap_append, List.flatMap_cons, List.flatMap_nil, List.append_nil]
  rw [List.set_append_right _ _ (by rw [cells_len]; omega), cells_len, show qs.length * 2 + 1 - qs.length * 2 = 1 by omega]
  simp [RlD.cells, hn]
/-- Where the last rule lies. -/
theorem RdAt.where_ {qs : List RlD} {r : RlD} (h : RdAt w B rb (qs ++ [r]) place ra rc) : ∃ g, ra = some ⟨g, 0, none⟩ ∧ B ≤ g ∧ (∃ cur, w.heap[g]? = some (.cells cur 40 (0, 0))) ∧ w.cell? ⟨g, qs.length * 2 + 1, none⟩ = some (.slice r.a r.ds.length r.c) ∧ qs.length + 1 ≤ rc ∧ rc ≤ 9223372036854775807 := by
  have hr := h.row
  rcases hr.2 with ⟨e1, e0⟩ | ⟨g, cp, cur, e1, hb, hk, hnc, hcm, _⟩
  · simp at e0
  · injection e1 with e1 e2 e3
    subst e1 e3
    refine ⟨g, rfl, hb, ⟨cur, hk⟩, ?_, by simpa using hnc, by unfold maxLen at hcm; omega⟩
    have := World.ownsRow.cellAt hr (qs.length * 2 + 1) (by simp; omega)
    rw [this]
    simp only [List.flatMap_append, List.flatMap_cons, List.flatMap_nil, List.append_nil]
    rw [List.getElem?_append_right (by rw [cells_len]; omega), cells_len, show qs.length * 2 + 1 - qs.length * 2 = 1 by omega]
    rfl
/-- The last rule is another one, and its alternatives' slice is stored. -/
theorem RdAt.store {qs : List RlD} {r r' : RlD} {w' : World} {g m1 m2 : Nat} (hbx : Blk w' rb 55 [.slice (some ⟨g, 0, none⟩) (qs ++ [r]).length rc, .int .i64 (place : Int)]) (hrow : OwnR w' B (some ⟨g, 0, none⟩) rc (qs ++ [r])) (hn : r'.n = r.n) (h1 : B ≤ m1) (h2 : m1 ≤ m2) (h3 : m2 ≤ w'.heap.size) (hq : ∀ q ∈ qs, DoneR w' B m1 q) (hl : LastR w' m1 m2 r') (hsz : B ≤ w'.heap.size) :
    RdAt (w'.setCell ⟨g, qs.length * 2 + 1, none⟩ (.slice r'.a r'.ds.length r'.c)) B rb (qs ++ [r']) place (some ⟨g, 0, none⟩) rc ∧ Kb B rb w' (w'.setCell ⟨g, qs.length * 2 + 1, none⟩ (.slice r'.a r'.ds.length r'.c)) := by
  obtain ⟨hrow2, hg⟩ := hrow.stored (qs.length * 2 + 1) (.slice r'.a r'.ds.length r'.c)
  obtain ⟨hBg, cur, hk⟩ := own_typ hrow g rfl
  have hbh : w'.heap[rb]? = some (.cells [.slice (some ⟨g, 0, none⟩) (qs ++ [r]).length rc, .int .i64 (place : Int)].toArray 55 (0, 0)) := hbx
  have hO : Oth w' (some g) := fun g' e => by cases e; exact ⟨_, _, _, hk, by decide, by decide⟩
  have hlen : (qs ++ [r']).length = (qs ++ [r]).length := by simp
  refine ⟨⟨?_, Nat.le_trans hsz hg.size, ?_, .inr ⟨m1, m2, qs, r', h1, h2, Nat.le_trans h3 hg.size, rfl, fun q hq' => (hq q hq').oth hg hO, hl.oth hg hO⟩⟩, (Kb.refl B rb w').grown hg hsz (fun k e => by cases e; exact .inl hBg) (fun k e => by cases e; exact ⟨_, _, _, hk⟩)⟩
  · rw [hlen]
    exact hbx.kept hg (fun e => by cases e; rw [hbh] at hk; cases hk)
  · rw [flat_set qs r r' hn] at hrow2
    unfold OwnR
    rw [hlen]
    exact hrow2
/-- An alternative more. -/
theorem RdAt.alt {qs : List RlD} {r : RlD} (h : RdAt w B rb (qs ++ [r]) place ra rc) (ty : TypeId) (hn : r.ds.length + 1 ≤ 1099511627780) :
    ∃ g a' c' w', ra = some ⟨g, 0, none⟩ ∧ (Builtin.append_ #[38, 38] ty #[.slice r.a r.ds.length r.c, .slice (some ⟨w.heap.size, 0, none⟩) 1 1]).run Try.prog (w.alloc (.cells #[.slice none 0 0] 37)) = .ok (.slice a' (r.ds.length + 1) c') w' ∧
      (w'.cell? ⟨g, qs.length * 2 + 1, none⟩ = some (.slice r.a r.ds.length r.c) ∧ (∃ cur, w'.heap[g]? = some (.cells cur 40 (0, 0)))) ∧
      RdAt (w'.setCell ⟨g, qs.length * 2 + 1, none⟩ (.slice a' (r.ds.length + 1) c')) B rb (qs ++ [⟨r.n, r.ds ++ [⟨[], none, 0⟩], a', c'⟩]) place ra rc ∧ Kb B rb w (w'.setCell ⟨g, qs.length * 2 + 1, none⟩ (.slice a' (r.ds.length + 1) c')) := by
  obtain ⟨g, rfl, hBg, ⟨cur, hk⟩, hc, _⟩ := h.where_
  rcases h.last with e | ⟨m1, m2, qs', r', h1, h2, h3, h4, h5, h6⟩
  · simp at e
  obtain ⟨rfl, e2⟩ := List.append_inj' h4 rfl
  simp only [List.cons.injEq, and_true] at e2
  subst e2
  obtain ⟨a', c', w', hrun, ho, hg⟩ := run_pushV w 38 ty 37 _ 1 24 Try.underlying38 info_strs rfl (by decide) (by decide) [.slice none 0 0] rfl (by simp [Value.oneCell']) h6.own hn (Nat.le_trans h2 h3)
  have hrt := own_typ h6.own
  have hne : ∀ {e : TypeId} {size n cap b : Nat} {a : Option Addr} {xs : List Value}, w.ownsRow b e size (.slice a n cap) n xs → e ≠ 37 → w'.ownsRow b e size (.slice a n cap) n xs := fun ho ht => own_kept_ty ho hg (fun g' e => by
    obtain ⟨_, cur, hk⟩ := hrt g' e
    exact ⟨cur, _, _, hk, ht⟩)
  have hrow' := hne h.row (by decide)
  have hbx : Blk w' rb 55 [.slice (some ⟨g, 0, none⟩) (qs ++ [r]).length rc, .int .i64 (place : Int)] := h.box.kept hg (fun e => by
    obtain ⟨_, cur, hk⟩ := hrt rb e.symm
    rw [h.box_heap] at hk
    cases hk)
  obtain ⟨_, hk'⟩ := own_typ hrow' g rfl
  have hc' : w'.cell? ⟨g, qs.length * 2 + 1, none⟩ = some (.slice r.a r.ds.length r.c) := by
    have hb := hg.block g (Array.getElem?_eq_some_iff.1 hk).1 (fun e => by
      obtain ⟨_, cur', hk2⟩ := hrt g e.symm
      rw [hk] at hk2
      cases hk2)
    exact (World.cell?_of_block (a := ⟨g, qs.length * 2 + 1, none⟩) hb).trans hc
  have hdone : ∀ q ∈ qs, DoneR w' B m1 q := fun q hq => by
    have hd := h5 q hq
    exact ⟨own_kept_lo hd.own hg hd.lo (fun g' e => (hrt g' e).1), hd.lo, fun d hd' => ⟨hne (hd.alts d hd').own (by decide), (hd.alts d hd').lo⟩⟩
  have hs := RdAt.store (r' := ⟨r.n, r.ds ++ [⟨[], none, 0⟩], a', c'⟩) (place := place) (rc := rc) (m1 := m1) (m2 := w.heap.size) hbx hrow' rfl h1 (Nat.le_trans h2 h3) hg.size hdone ⟨?_, .inr ⟨r.ds, ⟨[], none, 0⟩, rfl, fun d hd => ?_, World.ownsRow_nil _ _ _ _⟩⟩ (Nat.le_trans h.base_le hg.size)
  · have hl : (r.ds ++ [(⟨[], none, 0⟩ : AltD)]).length = r.ds.length + 1 := by simp
    simp only [hl] at hs
    exact ⟨g, a', c', w', rfl, hrun, ⟨hc', hk'⟩, hs.1, ((Kb.refl B rb w).grown hg h.base_le (fun k e => .inl (Nat.le_trans h1 (hrt k e).1)) (fun k e => by obtain ⟨_, cur, hk⟩ := hrt k e; exact ⟨_, _, _, hk⟩)).trans hs.2⟩
  · show w'.ownsRow m1 37 1 (.slice a' (r.ds ++ [(⟨[], none, 0⟩ : AltD)]).length c') (r.ds ++ [(⟨[], none, 0⟩ : AltD)]).length ((r.ds ++ [(⟨[], none, 0⟩ : AltD)]).map AltD.v)
    rw [List.length_append, List.map_append]
    exact ho
  · have hd' : DoneA w m1 w.heap.size d := by
      rcases h6.alts with e | ⟨ds, d0, e, k1, k2⟩
      · rw [e] at hd; cases hd
      · rw [e] at hd
        rcases List.mem_append.1 hd with hd | hd
        · exact (k1 d hd).up h3 (Nat.le_refl _)
        · rw [List.mem_singleton.1 hd]
          exact ⟨own_mono k2 h2, own_lt k2⟩
    exact ⟨hne hd'.own (by decide), hd'.lo⟩

/-- Where the last alternative lies. -/
theorem RdAt.whereA {qs : List RlD} {r : RlD} {ds : List AltD} {d : AltD} (h : RdAt w B rb (qs ++ [r]) place ra rc) (hr : r.ds = ds ++ [d]) : ∃ g, r.a = some ⟨g, 0, none⟩ ∧ (∃ cur, w.heap[g]? = some (.cells cur 37 (0, 0))) ∧ w.cell? ⟨g, ds.length, none⟩ = some (.slice d.a d.l.length d.c) ∧ ds.length + 1 ≤ r.c ∧ r.c ≤ 9223372036854775807 := by
  rcases h.last with e | ⟨m1, m2, qs', r', h1, h2, h3, h4, h5, h6⟩
  · simp at e
  obtain ⟨rfl, e2⟩ := List.append_inj' h4 rfl
  simp only [List.cons.injEq, and_true] at e2
  subst e2
  have ho := h6.own
  rcases ho.2 with ⟨e1, e0⟩ | ⟨g, cp, cur, e1, hb, hk, hnc, hcm, _⟩
  · rw [hr] at e0; simp at e0
  · injection e1 with e1 e2 e3
    have ho2 : w.ownsRow m1 37 1 (.slice (some ⟨g, 0, none⟩) r.ds.length r.c) r.ds.length (r.ds.map AltD.v) := by rw [← e1]; exact ho
    refine ⟨g, e1, ⟨cur, hk⟩, ?_, by rw [e3]; rw [hr] at hnc; simpa using hnc, by rw [e3]; unfold maxLen at hcm; omega⟩
    have := World.ownsRow.cellAt ho2 ds.length (by rw [hr]; simp)
    rw [this, hr]
    simp
/-- A name more. -/
theorem RdAt.name {qs : List RlD} {r : RlD} {ds : List AltD} {d : AltD} (h : RdAt w B rb (qs ++ [r]) place ra rc) (hr : r.ds = ds ++ [d]) (nm : ByteArray) (ty : TypeId) (hn : d.l.length + 1 ≤ 1099511627780) :
    ∃ ag a' c' w', r.a = some ⟨ag, 0, none⟩ ∧ (Builtin.append_ #[37, 37] ty #[.slice d.a d.l.length d.c, .slice (some ⟨w.heap.size, 0, none⟩) 1 1]).run Try.prog (w.alloc (.cells #[.string nm] 9)) = .ok (.slice a' (d.l.length + 1) c') w' ∧
      (w'.cell? ⟨ag, ds.length, none⟩ = some (.slice d.a d.l.length d.c) ∧ (∃ cur, w'.heap[ag]? = some (.cells cur 37 (0, 0)))) ∧
      RdAt (w'.setCell ⟨ag, ds.length, none⟩ (.slice a' (d.l.length + 1) c')) B rb (qs ++ [⟨r.n, ds ++ [⟨d.l ++ [nm], a', c'⟩], r.a, r.c⟩]) place ra rc ∧ Kb B rb w (w'.setCell ⟨ag, ds.length, none⟩ (.slice a' (d.l.length + 1) c')) := by
  obtain ⟨ag, hra, ⟨cur0, hk0⟩, hc0, _⟩ := h.whereA hr
  rcases h.last with e | ⟨m1, m2, qs', r', h1, h2, h3, h4, h5, h6⟩
  · simp at e
  obtain ⟨rfl, e2⟩ := List.append_inj' h4 rfl
  simp only [List.cons.injEq, and_true] at e2
  subst e2
  rcases h6.alts with e | ⟨ds', d', e, k1, k2⟩
  · rw [e] at hr; simp at hr
  rw [hr] at e
  obtain ⟨rfl, e2⟩ := List.append_inj' e rfl
  simp only [List.cons.injEq, and_true] at e2
  subst e2
  obtain ⟨a', c', w', hrun, ho, hg⟩ := run_pushV w 37 ty 9 _ 1 16 Try.underlying37 info_str rfl (by decide) (by decide) [.string nm] rfl (by simp [Value.oneCell']) k2 hn h3
  have hrt := own_typ k2
  have hne : ∀ {e : TypeId} {size n cap b : Nat} {a : Option Addr} {xs : List Value}, w.ownsRow b e size (.slice a n cap) n xs → e ≠ 9 → w'.ownsRow b e size (.slice a n cap) n xs := fun ho ht => own_kept_ty ho hg (fun g' e => by
    obtain ⟨_, cur, hk⟩ := hrt g' e
    exact ⟨cur, _, _, hk, ht⟩)
  have hown : w'.ownsRow m1 37 1 (.slice (some ⟨ag, 0, none⟩) r.ds.length r.c) r.ds.length (r.ds.map AltD.v) := by
    have := hne h6.own (by decide)
    rw [← hra]; exact this
  have hc' : w'.cell? ⟨ag, ds.length, none⟩ = some (.slice d.a d.l.length d.c) := by
    have hb := hg.block ag (Array.getElem?_eq_some_iff.1 hk0).1 (fun e => by
      obtain ⟨_, cur', hk2⟩ := hrt ag e.symm
      rw [hk0] at hk2
      cases hk2)
    exact (World.cell?_of_block (a := ⟨ag, ds.length, none⟩) hb).trans hc0
  obtain ⟨hst, hg2⟩ := hown.stored ds.length (.slice a' (d.l.length + 1) c')
  obtain ⟨hmg, cur1, hk1⟩ := own_typ hown ag rfl
  have hne2 : ∀ {e : TypeId} {size n cap b : Nat} {a : Option Addr} {xs : List Value}, w'.ownsRow b e size (.slice a n cap) n xs → e ≠ 37 → (w'.setCell ⟨ag, ds.length, none⟩ (.slice a' (d.l.length + 1) c')).ownsRow b e size (.slice a n cap) n xs := fun ho ht => own_kept_ty ho hg2 (fun g' e => by cases e; exact ⟨_, _, _, hk1, ht⟩)
  have hlen : (qs ++ [(⟨r.n, ds ++ [⟨d.l ++ [nm], a', c'⟩], r.a, r.c⟩ : RlD)]).length = (qs ++ [r]).length := by simp
  have hl2 : (ds ++ [(⟨d.l ++ [nm], a', c'⟩ : AltD)]).length = r.ds.length := by rw [hr]; simp
  have hbx : Blk (w'.setCell ⟨ag, ds.length, none⟩ (.slice a' (d.l.length + 1) c')) rb 55 [.slice ra (qs ++ [r]).length rc, .int .i64 (place : Int)] := by
    have hb1 : Blk w' rb 55 [.slice ra (qs ++ [r]).length rc, .int .i64 (place : Int)] := h.box.kept hg (fun e => by
      obtain ⟨_, cur, hk⟩ := hrt rb e.symm
      rw [h.box_heap] at hk
      cases hk)
    refine hb1.kept hg2 (fun e => ?_)
    cases e
    unfold Blk at hb1
    rw [hb1] at hk1
    cases hk1
  refine ⟨ag, a', c', w', hra, hrun, ⟨hc', cur1, hk1⟩, ⟨by rw [hlen]; exact hbx, Nat.le_trans h.base_le (Nat.le_trans hg.size hg2.size), ?_, .inr ⟨m1, m2, qs, _, h1, h2, Nat.le_trans h3 (Nat.le_trans hg.size hg2.size), rfl, fun q hq => ?_, ⟨?_, .inr ⟨ds, _, rfl, fun x hx => ?_, ?_⟩⟩⟩⟩, ((Kb.refl B rb w).grown hg h.base_le (fun k e => .inl (Nat.le_trans h1 (Nat.le_trans h2 (hrt k e).1))) (fun k e => by obtain ⟨_, cur, hk⟩ := hrt k e; exact ⟨_, _, _, hk⟩)).grown hg2 (Nat.le_trans h.base_le hg.size) (fun k e => by cases e; exact .inl (Nat.le_trans h1 hmg)) (fun k e => by cases e; exact ⟨_, _, _, hk1⟩)⟩
  · have := hne2 (hne h.row (by decide)) (by decide)
    unfold OwnR
    rw [hlen]
    simpa [RlD.cells, hl2] using this
  · have hd := h5 q hq
    exact ⟨own_kept_lo (hne hd.own (by decide)) hg2 hd.lo (fun g' e => by cases e; exact hmg), hd.lo, fun d hd' => ⟨hne2 (own_kept_lo (hd.alts d hd').own hg (hd.alts d hd').lo (fun g' e => Nat.le_trans h2 (hrt g' e).1)) (by decide), (hd.alts d hd').lo⟩⟩
  · show (w'.setCell ⟨ag, ds.length, none⟩ (.slice a' (d.l.length + 1) c')).ownsRow m1 37 1 (.slice r.a (ds ++ [(⟨d.l ++ [nm], a', c'⟩ : AltD)]).length r.c) (ds ++ [(⟨d.l ++ [nm], a', c'⟩ : AltD)]).length ((ds ++ [(⟨d.l ++ [nm], a', c'⟩ : AltD)]).map AltD.v)
    rw [hl2, hra]
    have e3 : (ds ++ [(⟨d.l ++ [nm], a', c'⟩ : AltD)]).map AltD.v = (r.ds.map AltD.v).set ds.length (.slice a' (d.l.length + 1) c') := by
      rw [hr]
      simp [AltD.v]
    rw [e3]
    exact hst
  · have hd := k1 x hx
    exact ⟨hne2 (own_kept_lo hd.own hg hd.lo (fun g' e => (hrt g' e).1)) (by decide), hd.lo⟩
  · show (w'.setCell ⟨ag, ds.length, none⟩ (.slice a' (d.l.length + 1) c')).ownsRow m2 9 1 (.slice a' (d.l ++ [nm]).length c') (d.l ++ [nm]).length ((d.l ++ [nm]).map Value.string)
    rw [List.length_append, List.map_append]
    exact hne2 ho (by decide)
end
end Go.Proofs.Ytoaabfdilhbajaa
