/- append onto a slice of bytes of the call's own: of bytes whoever owns them; of a string; and what a text out of bytes is. -/
import Derived.Test.YtoaabfdilhbajaaMem
import Derived.Test.YtoaabfdilhbajaaRows
import Derived.OwnWalk
import Derived.Laws.CopyOwn
import Derived.Deep.QuietTactic
import Derived.BigQuiet
import Derived.StillTailTactics
import Derived.Deep.RegionWith
import Derived.Lib.AppendStr
namespace Go.Proofs.Ytoaabfdilhbajaa
open Go.RowKit

theorem info_u8 : (Try.prog.info? 5).map (fun i => (i.zero, i.size, i.bytes)) = some (some (.int .u8 0), 1, 1) := by kernel_rfl
theorem size_u8 : (Try.prog.info? 5).map (·.size) = some 1 := by kernel_rfl

/-- The slice owns a row of bytes at or beyond base. -/
def OwnB (w : World) (base : Nat) (a : Option Addr) (n cap : Nat) (xs : List UInt8) : Prop := w.ownsRow base 5 1 (.slice a n cap) n (xs.map bv)

theorem OwnB.len {w : World} {base n cap : Nat} {a : Option Addr} {xs : List UInt8} (h : OwnB w base a n cap xs) : n = xs.length := (Bytes.own h).2
theorem OwnB.bytes {w : World} {base n cap : Nat} {a : Option Addr} {xs : List UInt8} (h : OwnB w base a n cap xs) : Bytes w a cap xs := (Bytes.own h).1
theorem OwnB.nil (w : World) (base : Nat) : OwnB w base none 0 0 [] := World.ownsRow_nil w base _ 1
theorem OwnB.kept {w w' : World} {base n cap : Nat} {a : Option Addr} {xs : List UInt8} {row : Option Nat} (h : OwnB w base a n cap xs) (hg : w.grownBy w' row) (hne : (Value.slice a n cap).ownBlock = none ∨ (Value.slice a n cap).ownBlock ≠ row) : OwnB w' base a n cap xs := World.ownsRow.kept h hg hne
theorem OwnB.mono {w : World} {base base' n cap : Nat} {a : Option Addr} {xs : List UInt8} (h : OwnB w base a n cap xs) (hb : base' ≤ base) : OwnB w base' a n cap xs := by
  refine ⟨h.1, ?_⟩
  rcases h.2 with h2 | ⟨g, c, cur, e, hg, r⟩
  · exact .inl h2
  · exact .inr ⟨g, c, cur, e, Nat.le_trans hb hg, r⟩
/-- A new block of bytes that the walk has written out. -/
theorem OwnB.lit (w : World) (base : Nat) (cs : Array Value) (xs : List UInt8) (hb : base ≤ w.heap.size) (hm : xs.length ≤ 9223372036854775807) (hcs : cs.toList = xs.map bv) : OwnB (w.alloc (.cells cs 5)) base (some ⟨w.heap.size, 0, none⟩) xs.length xs.length xs := by
  have hsz : cs.size = xs.length * 1 := by rw [← Array.length_toList, hcs]; simp
  have := World.ownsRow_lit (base := base) (e := 5) (size := 1) w cs xs.length hb (by unfold maxLen; omega) hsz
  rw [hcs] at this
  exact this

theorem slice_of_own {w : World} {base e size n : Nat} {v : Value} {xs : List Value} (h : w.ownsRow base e size v n xs) : ∃ a cap, v = .slice a n cap := by
  rcases h.2 with ⟨rfl, rfl⟩ | ⟨g, cap, _, rfl, _⟩
  · exact ⟨_, _, rfl⟩
  · exact ⟨_, _, rfl⟩

/-- The value lies where it lay, or in a new block. -/
def New (n : Nat) (a a' : Option Addr) : Prop := a' = a ∨ ∃ g, a' = some ⟨g, 0, none⟩ ∧ n ≤ g
theorem New.trans {n m : Nat} {a b c : Option Addr} (h : New n a b) (k : New m b c) (hm : n ≤ m) : New n a c := by
  rcases k with rfl | ⟨g, rfl, hg⟩
  · exact h
  · exact .inr ⟨g, rfl, by omega⟩
theorem New.le {n m : Nat} {a b : Option Addr} (h : New m a b) (hm : n ≤ m) : New n a b := h.imp id fun ⟨g, e, hg⟩ => ⟨g, e, by omega⟩
theorem New.block {n l c l' c' : Nat} {a a' : Option Addr} (h : New n a a') : ∀ i, (Value.slice a' l' c').ownBlock = some i → (Value.slice a l c).ownBlock = some i ∨ n ≤ i := by
  intro i e
  rcases h with rfl | ⟨g, rfl, hg⟩
  · cases a' with
    | none => cases e
    | some p => exact .inl e
  · cases e; exact .inr hg

theorem where_bytes (w : World) (ty : TypeId) {base n cap : Nat} {a : Option Addr} {ys : List UInt8} (hown : OwnB w base a n cap ys)
    (a2 : Addr) (m c : Nat) (xs : List Value) (hx : xs.length = m * 1) (hcells : ∀ j u, xs[j]? = some u → w.cell? (a2.add j) = some u) (h1 : ∀ u ∈ xs, u.oneCell' = true) (hbound : n + m ≤ 140737488355328) {a' : Option Addr} {l' c' : Nat} {w' : World}
    (hrun : (Builtin.append_ #[42, 42] ty #[.slice a n cap, .slice (some a2) m c]).run Try.prog w = .ok (.slice a' l' c') w') (h0 : m ≠ 0 ∨ a ≠ none) : New w.heap.size a a' := by
  obtain ⟨i0, hi, hz0, hz1, hz2⟩ := info_parts info_u8
  rcases hown.2 with ⟨e1, e0⟩ | ⟨g, cap2, cur, e1, hbg, hg2, hnc, hcm, hcs, htake⟩
  · cases e1
    have hr := run_append_nil (P := Try.prog) w 42 ty 5 i0 _ Try.underlying42 hi hz0 a2 m c xs (by rw [hz1]; exact hx) hcells (by rcases h0 with h | h; omega; exact absurd rfl h) (by omega) (by rw [hz2]; omega)
    rw [hr] at hrun
    simp only [Result.ok.injEq, Value.slice.injEq] at hrun
    exact .inr ⟨_, hrun.1.1.symm, Nat.le_refl _⟩
  · simp only [Value.slice.injEq, true_and] at e1
    obtain ⟨rfl, rfl⟩ := e1
    by_cases hroom : n + m ≤ cap
    · obtain ⟨w2, hr, _, _⟩ := run_append_fits (P := Try.prog) w base 42 ty 5 i0 1 Try.underlying42 hi hz1 g n cap _ hown a2 m c xs hx hcells h1 hroom
      rw [hr] at hrun
      simp only [Result.ok.injEq, Value.slice.injEq] at hrun
      exact .inl hrun.1.1.symm
    · have holds : ∀ j u, (ys.map bv)[j]? = some u → w.cell? ((⟨g, 0, none⟩ : Addr).add j) = some u := World.ownsRow.cells (g := g) hown rfl
      have hr := run_append_grow (P := Try.prog) w 42 ty 5 i0 _ Try.underlying42 hi hz0 ⟨g, 0, none⟩ n cap (ys.map bv) (by rw [hown.1, hz1]) holds a2 m c xs (by rw [hz1]; exact hx) hcells (by omega) (by omega) (growslice_fits (by omega) (by rw [hz2]; omega))
      rw [hr] at hrun
      simp only [Result.ok.injEq, Value.slice.injEq] at hrun
      exact .inr ⟨_, hrun.1.1.symm, Nat.le_refl _⟩

theorem where_str (w : World) (ty : TypeId) {base n cap : Nat} {a : Option Addr} {ys : List UInt8} (hown : OwnB w base a n cap ys)
    (s : ByteArray) (hbound : n + s.size ≤ 140737488355328) {a' : Option Addr} {l' c' : Nat} {w' : World}
    (hrun : (Builtin.append_ #[42, 9] ty #[.slice a n cap, .string s]).run Try.prog w = .ok (.slice a' l' c') w') (h0 : s.size ≠ 0) : New w.heap.size a a' := by
  obtain ⟨i0, hi, hz0, hz1, hz2⟩ := info_parts info_u8
  rcases hown.2 with ⟨e1, e0⟩ | ⟨g, cap2, cur, e1, hbg, hg2, hnc, hcm, hcs, htake⟩
  · cases e1
    have hr := run_append_nil_string (P := Try.prog) w 42 9 ty 5 i0 (.int .u8 0) Try.underlying42 Try.underlying9 hi hz0 s (by omega) (by omega) (by rw [hz2]; omega)
    rw [hr] at hrun
    simp only [Result.ok.injEq, Value.slice.injEq] at hrun
    exact .inr ⟨_, hrun.1.1.symm, Nat.le_refl _⟩
  · simp only [Value.slice.injEq, true_and] at e1
    obtain ⟨rfl, rfl⟩ := e1
    by_cases hroom : n + s.size ≤ cap
    · have hr := Lib.run_append_room_string (P := Try.prog) w 42 9 ty 5 i0 Try.underlying42 Try.underlying9 hi hz1 g n cap cur hg2 s hroom (by omega)
      rw [hr] at hrun
      simp only [Result.ok.injEq, Value.slice.injEq] at hrun
      exact .inl hrun.1.1.symm
    · have holds : ∀ j u, (ys.map bv)[j]? = some u → w.cell? ((⟨g, 0, none⟩ : Addr).add j) = some u := World.ownsRow.cells (g := g) hown rfl
      have hr := Lib.run_append_grow_string (P := Try.prog) w 42 9 ty 5 i0 (.int .u8 0) Try.underlying42 Try.underlying9 hi hz0 ⟨g, 0, none⟩ n cap (ys.map bv) (by rw [hown.1, hz1]) holds s (by omega) (by omega) (by rw [hz2]; exact growslice_fits (by omega) (by omega))
      rw [hr] at hrun
      simp only [Result.ok.injEq, Value.slice.injEq] at hrun
      exact .inr ⟨_, hrun.1.1.symm, Nat.le_refl _⟩

/-- append(x, y...): y a slice of bytes, whoever owns it, nil too. -/
theorem run_append_bytes (w : World) (ty : TypeId) {base n cap : Nat} {a : Option Addr} {ys : List UInt8} (hown : OwnB w base a n cap ys)
    (a2 : Option Addr) (m c : Nat) (xs : List UInt8) (hb : Bytes w a2 c xs) (hm : m = xs.length) (hbound : n + m ≤ 140737488355328) (hbase : base ≤ w.heap.size) :
    ∃ a' cap' w', (Builtin.append_ #[42, 42] ty #[.slice a n cap, .slice a2 m c]).run Try.prog w = .ok (.slice a' (n + m) cap') w' ∧ OwnB w' base a' (n + m) cap' (ys ++ xs) ∧ w.grownBy w' (Value.slice a n cap).ownBlock ∧ New w.heap.size a a' := by
  obtain ⟨i0, hi, hz0, hz1, hz2⟩ := info_parts info_u8
  subst hm
  cases a2 with
  | none =>
    obtain rfl : c = 0 := hb.nil_ rfl
    have hx : xs = [] := List.length_eq_zero_iff.1 (Nat.le_zero.1 hb.le)
    subst hx
    refine ⟨a, cap, w, run_append_owned_none (P := Try.prog) w base _ ty _ i0 1 Try.underlying42 hi _ _ _ hown, by simpa using hown, ⟨rfl, rfl, rfl, Nat.le_refl _, fun _ _ _ => rfl⟩, .inl rfl⟩
  | some ad =>
    have hcells : ∀ j u, (xs.map bv)[j]? = some u → w.cell? (ad.add j) = some u := by
      intro j u hj
      rw [List.getElem?_map] at hj
      obtain ⟨x, hx, rfl⟩ := Option.map_eq_some_iff.1 hj
      obtain ⟨hlt, rfl⟩ := List.getElem?_eq_some_iff.1 hx
      obtain ⟨b, o, e⟩ := hb.at_ j hlt
      cases e
      rw [show (⟨b, o, none⟩ : Addr).add j = ⟨b, o + j, none⟩ from by unfold Addr.add; split <;> simp_all]
      exact hb.cell b o rfl j hlt
    obtain ⟨v', w', hrun, ho, hg, _⟩ := run_append_own (P := Try.prog) w base 42 ty 5 i0 (.int .u8 0) 1 1 Try.underlying42 hi hz0 hz1 hz2 rfl (by decide) _ n _ hown ad xs.length c (xs.map bv) (by simp) hcells (by simp [bv, Value.oneCell']) (by unfold maxLen; omega) (by omega) hbase
    obtain ⟨a', cap', rfl⟩ := slice_of_own ho
    refine ⟨a', cap', w', hrun, by simpa [OwnB] using ho, hg, ?_⟩
    by_cases h0 : xs.length ≠ 0 ∨ a ≠ none
    · exact where_bytes w ty hown ad xs.length c (xs.map bv) (by simp) hcells (by simp [bv, Value.oneCell']) hbound hrun h0
    · simp only [not_or, Classical.not_not] at h0
      obtain ⟨h1, rfl⟩ := h0
      have hx : xs = [] := List.length_eq_zero_iff.1 h1
      subst hx
      rename_i hiff
      have he : n = 0 ∧ cap = 0 := by
        rcases hown.2 with ⟨e1, e0⟩ | ⟨g, _, _, e1, _⟩
        · cases e1; exact ⟨rfl, rfl⟩
        · cases e1
      obtain ⟨rfl, rfl⟩ := he
      have := hiff.2 ⟨rfl, rfl⟩
      cases this
      exact .inl rfl

theorem strCells_eq (s : ByteArray) : Lib.strCells s = s.data.toList.map bv := rfl

/-- append(x, s...): a string's bytes. -/
theorem run_append_str (w : World) (ty : TypeId) {base n cap : Nat} {a : Option Addr} {ys : List UInt8} (hown : OwnB w base a n cap ys)
    (s : ByteArray) (hbound : n + s.size ≤ 140737488355328) (hbase : base ≤ w.heap.size) (h0 : s.size ≠ 0) :
    ∃ a' cap' w', (Builtin.append_ #[42, 9] ty #[.slice a n cap, .string s]).run Try.prog w = .ok (.slice a' (n + s.size) cap') w' ∧ OwnB w' base a' (n + s.size) cap' (ys ++ s.data.toList) ∧ w.grownBy w' (Value.slice a n cap).ownBlock ∧ New w.heap.size a a' := by
  obtain ⟨i0, hi, hz0, hz1, hz2⟩ := info_parts info_u8
  obtain ⟨v', w', hrun, ho, hg, _⟩ := Lib.run_append_own_string (P := Try.prog) w base 42 9 ty 5 i0 Try.underlying42 Try.underlying9 hi hz0 hz1 hz2 _ n _ hown s (by unfold maxLen; omega) hbound hbase
  obtain ⟨a', cap', rfl⟩ := slice_of_own ho
  rw [strCells_eq] at ho
  exact ⟨a', cap', w', hrun, by simpa [OwnB] using ho, hg, where_str w ty hown s hbound hrun h0⟩

/-- append(x, c): the byte lies in a new block. -/
theorem run_append_one (w : World) (ty : TypeId) {base n cap : Nat} {a : Option Addr} {ys : List UInt8} (hown : OwnB w base a n cap ys)
    (c : UInt8) (v : Value) (hv : v = bv c) (hbound : n + 1 ≤ 140737488355328) (hbase : base ≤ w.heap.size) :
    ∃ a' cap' w', (Builtin.append_ #[42, 42] ty #[.slice a n cap, .slice (some ⟨w.heap.size, 0, none⟩) 1 1]).run Try.prog (w.alloc (.cells #[v] 5)) = .ok (.slice a' (n + 1) cap') w' ∧ OwnB w' base a' (n + 1) cap' (ys ++ [c]) ∧ w.grownBy w' (Value.slice a n cap).ownBlock ∧ New w.heap.size a a' := by
  subst hv
  obtain ⟨a', cap', w', hrun, ho, hg, hnw⟩ := run_append_bytes (w.alloc (.cells #[bv c] 5)) ty (World.ownsRow.alloc hown _ : OwnB _ base a n cap ys) (some ⟨w.heap.size, 0, none⟩) 1 1 [c] (OwnB.lit w w.heap.size #[bv c] [c] (Nat.le_refl _) (by simp) rfl).bytes rfl hbound (by simp; omega)
  refine ⟨a', cap', w', hrun, ho, grownBy_trans (World.grownBy_alloc w _ (Value.slice a n cap).ownBlock) hg (fun i e => .inl e), hnw.le (by simp)⟩

/-- An append whose run is known. -/
theorem wpList_append_run {P : Program} {w : World} {ops : Array Oper} {rest : List Oper} {o : Oper} {a : Act} {Q : Exit → Act → World → Prop} (hg : o.guard = none) (s x : Operand) (t t2 : TypeId)
    (hop : o.op = Op.call { callee := Callee.builtin Builtin.append, args := #[s, x], argTypes := #[t, t2] }) (vs vx v' : Value) (w' : World) (hs : a.eval s = vs) (hx : a.eval x = vx)
    (hrun : (Builtin.append_ #[t, t2] o.type #[vs, vx]).run P w = .ok v' w') (h : wpList P ops Q rest (a.put o.dst v') w') : wpList P ops Q (o :: rest) a w := by
  refine wpList_plain hg fun K hK' => ?_
  unfold Oper.wp
  simp [execOp, hop, resolve, invoke, builtin, hs, hx, hrun, Result.andThen]
  exact hK' _ _ h

theorem run_conv (w : World) {a : Option Addr} {n cap : Nat} {xs : List UInt8} (h : Bytes w a cap xs) (hn : n = xs.length) : (convert 42 9 (.slice a n cap)).run Try.prog w = .ok (.string ⟨xs.toArray⟩) w := by
  subst hn
  rw [run_convert_bytes_string (P := Try.prog) w _ _ 5 a xs.length cap Try.underlying42 Try.underlying5 Try.underlying9]
  cases a with
  | none =>
    have := h.nil_ rfl
    have hx : xs = [] := List.length_eq_zero_iff.1 (by have := h.le; omega)
    subst hx
    rfl
  | some ad =>
    have hl := run_loadCells_list (P := Try.prog) w ad (xs.map bv) (by
      intro j u hj
      rw [List.getElem?_map] at hj
      obtain ⟨x, hx, rfl⟩ := Option.map_eq_some_iff.1 hj
      obtain ⟨hlt, rfl⟩ := List.getElem?_eq_some_iff.1 hx
      obtain ⟨b, o, e⟩ := h.at_ j hlt
      cases e
      rw [show (⟨b, o, none⟩ : Addr).add j = ⟨b, o + j, none⟩ from by unfold Addr.add; split <;> simp_all]
      exact h.cell b o rfl j hlt)
    rw [List.length_map] at hl
    rw [run_bytesToString w ad xs.length cap (xs.map fun c => (c.toNat : Int)) (by rw [hl]; simp [bv, Function.comp_def])]
    congr 2
    have : ∀ (l : List UInt8) (b : ByteArray), ((l.map fun c => (c.toNat : Int)).foldl (fun r n => r.push (UInt8.ofNat n.toNat)) b).data.toList = b.data.toList ++ l := by
      intro l
      induction l with
      | nil => intro b; simp
      | cons c l ih => intro b; rw [List.map_cons, List.foldl_cons, ih]; simp [ByteArray.push]
    have h2 := this xs ByteArray.empty
    generalize List.foldl _ _ _ = z at h2 ⊢
    obtain ⟨⟨l⟩⟩ := z
    simp at h2
    rw [h2]

end Go.Proofs.Ytoaabfdilhbajaa
