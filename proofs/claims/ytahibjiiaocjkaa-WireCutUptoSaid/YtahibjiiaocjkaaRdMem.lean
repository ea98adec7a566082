/- Items that were read, where they lie; a row of items of the call's own grows by one. -/
import Derived.Test.YtahibjiiaocjkaaRdText
namespace Go.Proofs.Ytahibjiiaocjkaa
open Go.RowKit

/-- The cells from an address on read as these items, all in blocks of which p holds. -/
def ElemsP (p : Nat → Prop) (w : World) : Fo → Nat → Nat → Prop
  | .nil, _, _ => True
  | .cons h kids rest, b, off =>
    p b ∧ w.cell? ⟨b, off, none⟩ = some (.int .i64 h.k) ∧ w.cell? ⟨b, off + 1, none⟩ = some (.int .i64 h.n) ∧ w.cell? ⟨b, off + 2, none⟩ = some (.string h.s) ∧
    (∃ a cap, w.cell? ⟨b, off + 3, none⟩ = some (.slice a kids.len cap) ∧ kids.len ≤ cap ∧ cap ≤ 9223372036854775807 ∧ (a = none → cap = 0) ∧ (0 < kids.len → ∃ b' off', a = some ⟨b', off', none⟩ ∧ ElemsP p w kids b' off')) ∧
    ElemsP p w rest b (off + 4)

structure ItemsP (p : Nat → Prop) (w : World) (a : Option Addr) (cap : Nat) (f : Fo) : Prop where
  le : f.len ≤ cap
  max : cap ≤ 9223372036854775807
  nil_ : a = none → cap = 0
  at_ : 0 < f.len → ∃ b off, a = some ⟨b, off, none⟩ ∧ ElemsP p w f b off

theorem ElemsP.elems {p : Nat → Prop} {w : World} : ∀ (f : Fo) (b off : Nat), ElemsP p w f b off → Elems w f b off := by
  intro f
  induction f with
  | nil => intro b off _; trivial
  | cons h kids rest ihk ihr =>
    rintro b off ⟨_, h1, h2, h3, ⟨a, cap, h4, h5, h6, h7, h8⟩, h9⟩
    exact ⟨h1, h2, h3, ⟨a, cap, h4, h5, h6, h7, fun hn => by obtain ⟨b', o', e, hk⟩ := h8 hn; exact ⟨b', o', e, ihk _ _ hk⟩⟩, ihr _ _ h9⟩
theorem ItemsP.items {p : Nat → Prop} {w : World} {a : Option Addr} {cap : Nat} {f : Fo} (h : ItemsP p w a cap f) : Items w a cap f :=
  ⟨h.le, h.max, h.nil_, fun hn => by obtain ⟨b, o, e, hk⟩ := h.at_ hn; exact ⟨b, o, e, hk.elems f b o⟩⟩
theorem ElemsP.move {p q : Nat → Prop} {w w' : World} (hm : ∀ b, p b → b < w.heap.size → q b ∧ w'.heap[b]? = w.heap[b]?) : ∀ (f : Fo) (b off : Nat), ElemsP p w f b off → ElemsP q w' f b off := by
  intro f
  induction f with
  | nil => intro b off _; trivial
  | cons h kids rest ihk ihr =>
    rintro b off ⟨hp, h1, h2, h3, ⟨a, cap, h4, h5, h6, h7, h8⟩, h9⟩
    obtain ⟨hq, hb⟩ := hm b hp (World.block_lt_of_cell? w _ h1)
    have hc : ∀ o v, w.cell? ⟨b, o, none⟩ = some v → w'.cell? ⟨b, o, none⟩ = some v := fun o v hv => by
      simp only [World.cell?] at hv ⊢
      rw [hb]; exact hv
    exact ⟨hq, hc _ _ h1, hc _ _ h2, hc _ _ h3, ⟨a, cap, hc _ _ h4, h5, h6, h7, fun hn => by obtain ⟨b', o', e, hk⟩ := h8 hn; exact ⟨b', o', e, ihk _ _ hk⟩⟩, ihr _ _ h9⟩
theorem ItemsP.move {p q : Nat → Prop} {w w' : World} {a : Option Addr} {cap : Nat} {f : Fo} (h : ItemsP p w a cap f) (hm : ∀ b, p b → b < w.heap.size → q b ∧ w'.heap[b]? = w.heap[b]?) : ItemsP q w' a cap f :=
  ⟨h.le, h.max, h.nil_, fun hn => by obtain ⟨b, o, e, hk⟩ := h.at_ hn; exact ⟨b, o, e, ElemsP.move hm f b o hk⟩⟩
theorem ItemsP.nil (p : Nat → Prop) (w : World) : ItemsP p w none 0 .nil := ⟨by simp [Fo.len], by omega, fun _ => rfl, fun h => by simp [Fo.len] at h⟩

/-- An item that was read: what it holds, its list, and where that lies. -/
structure Ea where
  h : Hd
  k : Fo
  a : Option Addr
  c : Nat
def Ea.row (e : Ea) : List Value := [.int .i64 e.h.k, .int .i64 e.h.n, .string e.h.s, .slice e.a e.k.len e.c]
def rowE : List Ea → List Value
  | [] => []
  | e :: r => e.row ++ rowE r
def foE : List Ea → Fo
  | [] => .nil
  | e :: r => .cons e.h e.k (foE r)
theorem rowE_length (es : List Ea) : (rowE es).length = es.length * 4 := by
  induction es with
  | nil => rfl
  | cons e r ih => simp [rowE, Ea.row, ih]; omega
theorem rowE_snoc (es : List Ea) (e : Ea) : rowE (es ++ [e]) = rowE es ++ e.row := by
  induction es with
  | nil => simp [rowE]
  | cons x r ih => simp [rowE, ih]
theorem foE_len (es : List Ea) : (foE es).len = es.length := by
  induction es with
  | nil => rfl
  | cons e r ih => simp [foE, Fo.len, ih]

theorem elems_row {p : Nat → Prop} {w : World} {g : Nat} (hg : p g) : ∀ (es : List Ea) (off : Nat), (∀ j u, (rowE es)[j]? = some u → w.cell? ⟨g, off + j, none⟩ = some u) → (∀ e ∈ es, ItemsP p w e.a e.c e.k) → ElemsP p w (foE es) g off := by
  intro es
  induction es with
  | nil => intro off _ _; trivial
  | cons e r ih =>
    intro off hc hi
    have he := hi e (List.mem_cons_self ..)
    refine ⟨hg, by have := hc 0 _ rfl; simpa using this, hc 1 _ rfl, hc 2 _ rfl, ⟨e.a, e.c, hc 3 _ rfl, he.le, he.max, he.nil_, he.at_⟩, ?_⟩
    refine ih (off + 4) (fun j u hj => ?_) (fun x hx => hi x (List.mem_cons_of_mem _ hx))
    have := hc (j + 4) u (by simpa [rowE, Ea.row] using hj)
    rw [show off + 4 + j = off + (j + 4) from by omega]
    exact this

/-- The row of what was read, as a list of items. -/
theorem items_row {p : Nat → Prop} {w : World} {base : Nat} {a : Option Addr} {cap : Nat} {es : List Ea} (ho : w.ownsRow base 24 4 (.slice a es.length cap) es.length (rowE es)) (hg : ∀ g, (Value.slice a es.length cap).ownBlock = some g → p g) (hi : ∀ e ∈ es, ItemsP p w e.a e.c e.k) : ItemsP p w a cap (foE es) := by
  rcases ho.2 with ⟨e, e0⟩ | ⟨g, cap', cur, e, _, _, h1, h2, _⟩
  · have hes : es = [] := List.eq_nil_of_length_eq_zero e0
    subst hes
    simp only [List.length_nil, Value.slice.injEq] at e
    obtain ⟨rfl, -, rfl⟩ := e
    exact ItemsP.nil p w
  · simp only [Value.slice.injEq, true_and] at e
    obtain ⟨rfl, rfl⟩ := e
    refine ⟨by rw [foE_len]; exact h1, by unfold maxLen at h2; omega, fun e => (by cases e), fun _ => ⟨g, 0, rfl, ?_⟩⟩
    refine elems_row (hg g rfl) es 0 (fun j u hj => ?_) hi
    rw [Nat.zero_add, ho.cellAt j (by rw [← ho.1]; exact (List.getElem?_eq_some_iff.1 hj).1)]
    exact hj

theorem info_item : (Try.prog.info? 24).map (fun i => (i.zero, i.size, i.bytes)) = some (some (.agg #[.int .i64 0, .int .i64 0, .string ⟨#[]⟩, .slice none 0 0]), 4, 56) := by kernel_rfl

theorem new_cells4 (W : World) (v1 v2 v3 v4 : Value) (t : TypeId) : ∀ j u, [v1, v2, v3, v4][j]? = some u → (W.alloc (.cells #[v1, v2, v3, v4] t)).cell? ((⟨W.heap.size, 0, none⟩ : Addr).add j) = some u := by
  intro j u h
  have hb := Blk.new W t #[v1, v2, v3, v4]
  rw [show (⟨W.heap.size, 0, none⟩ : Addr).add j = ⟨W.heap.size, 0 + j, none⟩ from by unfold Addr.add; split <;> simp_all, Nat.zero_add, hb.cell j]
  exact h

/-- append of one item onto an own row; the row stays where it is, or goes into a new block. -/
theorem run_item (w : World) (ty : TypeId) {base n cap : Nat} {a : Option Addr} {row : List Value} (e : Ea) (hown : w.ownsRow base 24 4 (.slice a n cap) n row) (hn : n + 1 ≤ 2147483648) (hbase : base ≤ w.heap.size) :
    ∃ a' cap' w', (Builtin.append_ #[22, 22] ty #[.slice a n cap, .slice (some ⟨w.heap.size, 0, none⟩) 1 1]).run Try.prog (w.alloc (.cells #[.int .i64 e.h.k, .int .i64 e.h.n, .string e.h.s, .slice e.a e.k.len e.c] 24)) = .ok (.slice a' (n + 1) cap') w' ∧
      w'.ownsRow base 24 4 (.slice a' (n + 1) cap') (n + 1) (row ++ e.row) ∧ w.grownBy w' (Value.slice a n cap).ownBlock ∧ (a' = a ∨ ∃ g, a' = some ⟨g, 0, none⟩ ∧ w.heap.size ≤ g) := by
  obtain ⟨i0, hi, hz0, hz1, hz2⟩ := info_parts info_item
  have hc := new_cells4 w (.int .i64 e.h.k) (.int .i64 e.h.n) (.string e.h.s) (.slice e.a e.k.len e.c) 24
  have h1 : ∀ u ∈ [Value.int .i64 e.h.k, .int .i64 e.h.n, .string e.h.s, .slice e.a e.k.len e.c], u.oneCell' = true := by simp [Value.oneCell']
  have hown2 : (w.alloc (.cells #[.int .i64 e.h.k, .int .i64 e.h.n, .string e.h.s, .slice e.a e.k.len e.c] 24)).ownsRow base 24 4 (.slice a n cap) n row := hown.alloc _
  obtain ⟨v', w', hrun, ho, hg, _⟩ := run_append_own (P := Try.prog) (w.alloc (.cells #[.int .i64 e.h.k, .int .i64 e.h.n, .string e.h.s, .slice e.a e.k.len e.c] 24)) base 22 ty 24 i0 _ 4 56 Try.underlying22 hi hz0 hz1 hz2 rfl (by decide) _ n _ hown2 ⟨w.heap.size, 0, none⟩ 1 1 [.int .i64 e.h.k, .int .i64 e.h.n, .string e.h.s, .slice e.a e.k.len e.c] rfl hc h1 (by unfold maxLen; omega) (by omega) (by simp; omega)
  obtain ⟨a', cap', rfl⟩ := slice_of_own ho
  refine ⟨a', cap', w', hrun, ho, grownBy_trans (World.grownBy_alloc w _ _) hg (fun i e => .inl e), ?_⟩
  rcases hown2.2 with ⟨e1, e0⟩ | ⟨g, cap2, cur, e1, hbg, hg2, hnc, hcm, hcs, htake⟩
  · cases e1
    have hr := run_append_nil (P := Try.prog) (w.alloc (.cells #[.int .i64 e.h.k, .int .i64 e.h.n, .string e.h.s, .slice e.a e.k.len e.c] 24)) 22 ty 24 i0 _ Try.underlying22 hi hz0 ⟨w.heap.size, 0, none⟩ 1 1 [.int .i64 e.h.k, .int .i64 e.h.n, .string e.h.s, .slice e.a e.k.len e.c] (by rw [hz1]; rfl) hc (by omega) (by omega) (by rw [hz2]; omega)
    rw [hr] at hrun
    simp only [Result.ok.injEq, Value.slice.injEq] at hrun
    exact .inr ⟨_, hrun.1.1.symm, by simp⟩
  · simp only [Value.slice.injEq, true_and] at e1
    obtain ⟨rfl, rfl⟩ := e1
    by_cases hroom : n + 1 ≤ cap
    · obtain ⟨w2, hr, _, _⟩ := run_append_fits (P := Try.prog) (w.alloc (.cells #[.int .i64 e.h.k, .int .i64 e.h.n, .string e.h.s, .slice e.a e.k.len e.c] 24)) base 22 ty 24 i0 4 Try.underlying22 hi hz1 g n cap _ hown2 ⟨w.heap.size, 0, none⟩ 1 1 [.int .i64 e.h.k, .int .i64 e.h.n, .string e.h.s, .slice e.a e.k.len e.c] rfl hc h1 hroom
      rw [hr] at hrun
      simp only [Result.ok.injEq, Value.slice.injEq] at hrun
      exact .inl hrun.1.1.symm
    · have holds : ∀ j u, row[j]? = some u → (w.alloc (.cells #[.int .i64 e.h.k, .int .i64 e.h.n, .string e.h.s, .slice e.a e.k.len e.c] 24)).cell? ((⟨g, 0, none⟩ : Addr).add j) = some u := hown2.cells (g := g) rfl
      have hr := run_append_grow (P := Try.prog) (w.alloc (.cells #[.int .i64 e.h.k, .int .i64 e.h.n, .string e.h.s, .slice e.a e.k.len e.c] 24)) 22 ty 24 i0 _ Try.underlying22 hi hz0 ⟨g, 0, none⟩ n cap row (by rw [hown2.1, hz1]) holds ⟨w.heap.size, 0, none⟩ 1 1 [.int .i64 e.h.k, .int .i64 e.h.n, .string e.h.s, .slice e.a e.k.len e.c] (by rw [hz1]; rfl) hc (by omega) (by omega) (growslice_fits (by omega) (by rw [hz2]; omega))
      rw [hr] at hrun
      simp only [Result.ok.injEq, Value.slice.injEq] at hrun
      exact .inr ⟨_, hrun.1.1.symm, by simp⟩
end Go.Proofs.Ytahibjiiaocjkaa
