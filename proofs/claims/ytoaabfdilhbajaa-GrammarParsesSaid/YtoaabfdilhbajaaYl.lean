/- Layer 7: where the reference's reader keeps a rule as it grows. -/
import Derived.Test.YtoaabfdilhbajaaYk
namespace Go.Proofs.Ytoaabfdilhbajaa
open Go.RowKit Go.Shelf

/-- A rule that was read whole: its rows are one's own. -/
structure RdyR (w : World) (r : RlD) : Prop where
  own : OwnA w 0 r
  alts : ∀ d ∈ r.ds, OwnN w 0 d
/-- Blocks of names and of alternatives stay. -/
def TyK (w w' : World) : Prop := ∀ (g : Nat) (cs : Array Value) (t : TypeId) (fr : Nat × Nat), w.heap[g]? = some (.cells cs t fr) → (t = 9 ∨ t = 37) → w'.heap[g]? = some (.cells cs t fr)
theorem TyK.trans {a b c : World} (h : TyK a b) (k : TyK b c) : TyK a c := fun g cs t fr hg ht => k g cs t fr (h g cs t fr hg ht) ht
theorem own_tyk {w w' : World} {base e size n cap : Nat} {a : Option Addr} {xs : List Value} (h : w.ownsRow base e size (.slice a n cap) n xs) (hk : TyK w w') (he : e = 9 ∨ e = 37) : w'.ownsRow base e size (.slice a n cap) n xs :=
  ⟨h.1, h.2.imp id (fun ⟨g, cp, cur, e1, e2, e3, e4⟩ => ⟨g, cp, cur, e1, e2, hk g cur e (0, 0) e3 he, e4⟩)⟩
theorem RdyR.ty {w w' : World} {r : RlD} (h : RdyR w r) (hk : TyK w w') : RdyR w' r := ⟨own_tyk h.own hk (.inr rfl), fun d hd => own_tyk (h.alts d hd) hk (.inl rfl)⟩
theorem RdyR.a {w : World} {r : RlD} (h : RdyR w r) : Alts w r.a r.c r.ds := ⟨own_vs h.own, fun d hd => own_vs (h.alts d hd)⟩
/-- What is written is no row of names or alternatives: those stay. -/
theorem tyk_of {w w' : World} {row : Option Nat} (hg : w.grownBy w' row) (hr : ∀ g, row = some g → ∃ cs t fr, w.heap[g]? = some (.cells cs t fr) ∧ 9 ≠ t ∧ 37 ≠ t) : TyK w w' := by
  intro g cs t fr h ht
  refine (hg.block g (Array.getElem?_eq_some_iff.1 h).1 (fun e => ?_)).trans h
  obtain ⟨c2, t2, f2, h2, n1, n2⟩ := hr g e.symm
  rw [h] at h2
  cases h2
  rcases ht with e | e
  · exact n1 e.symm
  · exact n2 e.symm

structure RuSt (w0 : World) (rb tR tb : Nat) (s : ByteArray) (w : World) (k : Nat) (bad : Bool) (r : RlD) (d : AltD) : Prop where
  gr : w0.grownBy w (some rb)
  box : RBx w rb s k bad
  res : Blk w tR 40 [.string ⟨#[]⟩, .slice none 0 0]
  tbox : Blk w tb 40 [.string r.n, .slice r.a r.ds.length r.c]
  lR : w0.heap.size ≤ tR
  lb : w0.heap.size ≤ tb
  ne : tR ≠ tb
  rows : ∃ m, w0.heap.size ≤ m ∧ m ≤ w.heap.size ∧ OwnA w w0.heap.size r ∧ (∀ e ∈ r.ds, DoneA w w0.heap.size m e) ∧ OwnN w m d
section
variable {w0 w w' : World} {rb tR tb k k' : Nat} {s : ByteArray} {bad bad' : Bool} {r : RlD} {d : AltD}
theorem blk_ty {b g e : Nat} {cs : List Value} {row : Option Nat} (h : Blk w b e cs) (hg : w.grownBy w' row) (hr : ∀ g, row = some g → ∃ c t f, w.heap[g]? = some (.cells c t f) ∧ e ≠ t) : Blk w' b e cs :=
  h.kept hg (fun e0 => by
    obtain ⟨c, t, f, h1, h2⟩ := hr b e0.symm
    unfold Blk at h
    rw [h1] at h
    cases h
    exact h2 rfl)
theorem RuSt.rd (h : RuSt w0 rb tR tb s w k bad r d) (hg : w.grownBy w' (some rb)) (hb : RBx w' rb s k' bad') : RuSt w0 rb tR tb s w' k' bad' r d := by
  have hx : w.heap[rb]? = _ := h.box
  have ht : ∀ {e : Nat}, e ≠ 61 → ∀ g, some rb = some g → ∃ c t f, w.heap[g]? = some (.cells c t f) ∧ e ≠ t := fun hne g e0 => by cases e0; exact ⟨_, _, _, hx, hne⟩
  obtain ⟨m, h1, h2, h3, h4, h5⟩ := h.rows
  exact ⟨grown_self h.gr hg, hb, blk_ty (g := 0) h.res hg (ht (by decide)), blk_ty (g := 0) h.tbox hg (ht (by decide)), h.lR, h.lb, h.ne, m, h1, Nat.le_trans h2 hg.size, own_kept_ty h3 hg (ht (by decide)),
    fun e he => ⟨own_kept_ty (h4 e he).own hg (ht (by decide)), (h4 e he).lo⟩, own_kept_ty h5 hg (ht (by decide))⟩
theorem RuSt.name (h : RuSt w0 rb tR tb s w k bad r d) (nm : ByteArray) (ty : TypeId) (hn : d.l.length + 1 ≤ 1099511627780) :
    ∃ a' c' w', (Builtin.append_ #[37, 37] ty #[.slice d.a d.l.length d.c, .slice (some ⟨w.heap.size, 0, none⟩) 1 1]).run Try.prog (w.alloc (.cells #[.string nm] 9)) = .ok (.slice a' (d.l.length + 1) c') w' ∧
      RuSt w0 rb tR tb s w' k bad r ⟨d.l ++ [nm], a', c'⟩ := by
  obtain ⟨m, h1, h2, h3, h4, h5⟩ := h.rows
  obtain ⟨a', c', w', hrun, ho, hg⟩ := run_pushV w 37 ty 9 _ 1 16 Try.underlying37 info_str rfl (by decide) (by decide) [.string nm] rfl (by simp [Value.oneCell']) h5 hn h2
  have hrt := own_typ h5
  have hty : ∀ {e : Nat}, e ≠ 9 → ∀ g, (Value.slice d.a d.l.length d.c).ownBlock = some g → ∃ c t f, w.heap[g]? = some (.cells c t f) ∧ e ≠ t := fun hne g e0 => by
    obtain ⟨_, cur, hk⟩ := hrt g e0
    exact ⟨_, _, _, hk, hne⟩
  refine ⟨a', c', w', hrun, grownBy_trans h.gr hg (fun i e => .inr (Nat.le_trans h1 (hrt i e).1)), blk_ty (g := 0) h.box hg (hty (by decide)), blk_ty (g := 0) h.res hg (hty (by decide)), blk_ty (g := 0) h.tbox hg (hty (by decide)), h.lR, h.lb, h.ne, m, h1, Nat.le_trans h2 hg.size, own_kept_ty h3 hg (hty (by decide)),
    fun e he => ⟨own_kept_lo (h4 e he).own hg (h4 e he).lo (fun g e0 => (hrt g e0).1), (h4 e he).lo⟩, ?_⟩
  show w'.ownsRow m 9 1 (.slice a' (d.l ++ [nm]).length c') (d.l ++ [nm]).length ((d.l ++ [nm]).map Value.string)
  rw [List.length_append, List.map_append]
  exact ho
theorem RuSt.alt (h : RuSt w0 rb tR tb s w k bad r d) (ty : TypeId) (hn : r.ds.length + 1 ≤ 1099511627780) :
    ∃ a' c' w', (Builtin.append_ #[38, 38] ty #[.slice r.a r.ds.length r.c, .slice (some ⟨w.heap.size, 0, none⟩) 1 1]).run Try.prog (w.alloc (.cells #[.slice d.a d.l.length d.c] 37)) = .ok (.slice a' (r.ds.length + 1) c') w' ∧
      Blk w' tb 40 [.string r.n, .slice r.a r.ds.length r.c] ∧ RBx w' rb s k bad ∧
      RuSt w0 rb tR tb s (w'.setCell ⟨tb, 1, none⟩ (.slice a' (r.ds.length + 1) c')) k bad ⟨r.n, r.ds ++ [d], a', c'⟩ ⟨[], none, 0⟩ := by
  obtain ⟨m, h1, h2, h3, h4, h5⟩ := h.rows
  obtain ⟨a', c', w', hrun, ho, hg⟩ := run_pushV w 38 ty 37 _ 1 24 Try.underlying38 info_strs rfl (by decide) (by decide) [.slice d.a d.l.length d.c] rfl (by simp [Value.oneCell']) h3 hn (Nat.le_trans h1 h2)
  have hrt := own_typ h3
  have hty : ∀ {e : Nat}, e ≠ 37 → ∀ g, (Value.slice r.a r.ds.length r.c).ownBlock = some g → ∃ c t f, w.heap[g]? = some (.cells c t f) ∧ e ≠ t := fun hne g e0 => by
    obtain ⟨_, cur, hk⟩ := hrt g e0
    exact ⟨_, _, _, hk, hne⟩
  have htb := blk_ty (g := 0) h.tbox hg (hty (by decide))
  have hx : w'.heap[tb]? = _ := htb
  have hg2 := grownBy_set w' tb 1 (.slice a' (r.ds.length + 1) c')
  have ht2 : ∀ {e : Nat}, e ≠ 40 → ∀ g, some tb = some g → ∃ c t f, w'.heap[g]? = some (.cells c t f) ∧ e ≠ t := fun hne g e0 => by cases e0; exact ⟨_, _, _, hx, hne⟩
  have hlen : (r.ds ++ [d]).length = r.ds.length + 1 := by simp
  have hd5 : DoneA w w0.heap.size w.heap.size d := ⟨own_mono h5 h1, own_lt h5⟩
  have hall : ∀ e ∈ r.ds ++ [d], DoneA w w0.heap.size w.heap.size e := fun e he => by
    rcases List.mem_append.1 he with he | he
    · exact (h4 e he).up h2 (Nat.le_refl _)
    · rw [List.mem_singleton.1 he]; exact hd5
  refine ⟨a', c', w', hrun, htb, blk_ty (g := 0) h.box hg (hty (by decide)), grownBy_trans (grownBy_trans h.gr hg (fun i e => .inr (hrt i e).1)) hg2 (fun i e => by cases e; exact .inr h.lb), blk_ty (g := 0) (blk_ty (g := 0) h.box hg (hty (by decide))) hg2 (ht2 (by decide)),
    (blk_ty (g := 0) h.res hg (hty (by decide))).setOther h.ne _, ?_, h.lR, h.lb, h.ne, w.heap.size, Nat.le_trans h1 h2, Nat.le_trans hg.size hg2.size, ?_, fun e he => ⟨own_kept_ty (own_kept_ty (hall e he).own hg (hty (by decide))) hg2 (ht2 (by decide)), (hall e he).lo⟩, World.ownsRow_nil _ _ _ _⟩
  · have := htb.set 1 (.slice a' (r.ds.length + 1) c')
    rw [← hlen] at this ⊢
    exact this
  · show World.ownsRow _ _ _ _ (.slice a' (r.ds ++ [d]).length c') (r.ds ++ [d]).length ((r.ds ++ [d]).map AltD.v)
    rw [hlen, List.map_append]
    exact own_kept_ty ho hg2 (ht2 (by decide))
/-- What is handed back. -/
theorem RuSt.out (h : RuSt w0 rb tR tb s w k bad r d) (x y : Value) : Blk ((w.setCell ⟨tR, 0, none⟩ x).setCell ⟨tR, 1, none⟩ y) tR 40 [x, y] ∧ RdyR ((w.setCell ⟨tR, 0, none⟩ x).setCell ⟨tR, 1, none⟩ y) r ∧ w0.grownBy ((w.setCell ⟨tR, 0, none⟩ x).setCell ⟨tR, 1, none⟩ y) (some rb) ∧ RBx ((w.setCell ⟨tR, 0, none⟩ x).setCell ⟨tR, 1, none⟩ y) rb s k bad := by
  have hx : w.heap[tR]? = _ := h.res
  have hg1 := grownBy_set w tR 0 x
  have hg2 := grownBy_set (w.setCell ⟨tR, 0, none⟩ x) tR 1 y
  have hb1 : Blk (w.setCell ⟨tR, 0, none⟩ x) tR 40 [x, .slice none 0 0] := h.res.set 0 x
  have hx1 : (w.setCell ⟨tR, 0, none⟩ x).heap[tR]? = _ := hb1
  have ht1 : ∀ {e : Nat}, e ≠ 40 → ∀ g, some tR = some g → ∃ c t f, w.heap[g]? = some (.cells c t f) ∧ e ≠ t := fun hne g e0 => by cases e0; exact ⟨_, _, _, hx, hne⟩
  have ht2 : ∀ {e : Nat}, e ≠ 40 → ∀ g, some tR = some g → ∃ c t f, (w.setCell ⟨tR, 0, none⟩ x).heap[g]? = some (.cells c t f) ∧ e ≠ t := fun hne g e0 => by cases e0; exact ⟨_, _, _, hx1, hne⟩
  obtain ⟨m, h1, h2, h3, h4, h5⟩ := h.rows
  exact ⟨hb1.set 1 y, ⟨own_mono (own_kept_ty (own_kept_ty h3 hg1 (ht1 (by decide))) hg2 (ht2 (by decide))) (Nat.zero_le _), fun e he => own_mono (own_kept_ty (own_kept_ty (h4 e he).own hg1 (ht1 (by decide))) hg2 (ht2 (by decide))) (Nat.zero_le _)⟩,
    grownBy_trans (grownBy_trans h.gr hg1 (fun i e => by cases e; exact .inr h.lR)) hg2 (fun i e => by cases e; exact .inr h.lR), blk_ty (g := 0) (blk_ty (g := 0) h.box hg1 (ht1 (by decide))) hg2 (ht2 (by decide))⟩
end
end Go.Proofs.Ytoaabfdilhbajaa
