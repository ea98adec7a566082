/- Texts joined: Va Vb. -/
import Derived.Test.YtngbfjimmdkfeaaPXN
import Derived.Deep.RegionHeld3
set_option linter.unusedVariables false
set_option linter.unusedSimpArgs false
namespace Go.Proofs.Ytngbfjimmdkfeaa
open Go.RowKit Go.Shelf

attribute [local go_sem] Oper.semAt_some

def tabO (g n : Nat) (i : Nat) : Value := .slice (some ⟨g + 1 + i, 0, none⟩) (n + 1) (n + 1)
/-- A table of n + 1 rows: the block of its rows, and the rows behind it. -/
structure Tab (w : World) (n g : Nat) (f : Nat → Nat → Bool) : Prop where
  out : Blk w g 80 ((List.range (n + 1)).map (tabO g n))
  row : ∀ i, i ≤ n → Blk w (g + 1 + i) 4 ((List.range (n + 1)).map fun j => .bool (f i j))
abbrev tabV (n g : Nat) : Value := .slice (some ⟨g, 0, none⟩) (n + 1) (n + 1)
theorem range_get {α : Type} (f : Nat → α) (n i : Nat) (h : i < n) : ((List.range n).map f)[i]? = some (f i) := by
  rw [List.getElem?_map, List.getElem?_range h]; rfl
theorem range_set {α : Type} (f : Nat → α) (n i : Nat) (v : α) : ((List.range n).map f).set i v = (List.range n).map (fun k => if k = i then v else f k) := by
  apply List.ext_getElem?
  intro k
  rw [List.getElem?_set]
  by_cases hk : k < n
  · rw [range_get _ _ _ hk]
    by_cases he : i = k
    · subst he; simp [hk]
    · rw [if_neg he, range_get _ _ _ hk, if_neg (fun e => he e.symm)]
  · rw [List.getElem?_eq_none (by simpa using hk), List.getElem?_eq_none (by simpa using hk)]
    by_cases he : i = k
    · subst he; simp [hk]
    · rw [if_neg he]
theorem Tab.below {w w' : World} {n g B : Nat} {f : Nat → Nat → Bool} (h : Tab w n g f) (hb : Below B w w') (hB : g + 1 + n < B) : Tab w' n g f :=
  ⟨h.out.below hb (by omega), fun i hi => (h.row i hi).below hb (by omega)⟩
theorem Tab.grown {w w' : World} {n g : Nat} {f : Nat → Nat → Bool} (h : Tab w n g f) (hb : Below w.heap.size w w') : Tab w' n g f :=
  ⟨h.out.below hb h.out.lt, fun i hi => (h.row i hi).below hb (h.row i hi).lt⟩
theorem Tab.lt {w : World} {n g : Nat} {f : Nat → Nat → Bool} (h : Tab w n g f) : g + 1 + n < w.heap.size := (h.row n (Nat.le_refl _)).lt
theorem Tab.outAt {w : World} {n g : Nat} {f : Nat → Nat → Bool} (h : Tab w n g f) {i : Nat} (hi : i ≤ n) : w.cell? ⟨g, i, none⟩ = some (.slice (some ⟨g + 1 + i, 0, none⟩) (n + 1) (n + 1)) := by
  rw [h.out.cell, range_get _ _ _ (by omega)]; rfl
theorem Tab.rowAt {w : World} {n g : Nat} {f : Nat → Nat → Bool} (h : Tab w n g f) {i j : Nat} (hi : i ≤ n) (hj : j ≤ n) : w.cell? ⟨g + 1 + i, j, none⟩ = some (.bool (f i j)) := by
  rw [(h.row i hi).cell, range_get _ _ _ (by omega)]
/-- One place is told. -/
def upd (f : Nat → Nat → Bool) (i j : Nat) (v : Bool) : Nat → Nat → Bool := fun a b => if a = i ∧ b = j then v else f a b
theorem Tab.set {w : World} {n g : Nat} {f : Nat → Nat → Bool} (h : Tab w n g f) {i j : Nat} (hi : i ≤ n) (v : Bool) : Tab (w.setCell ⟨g + 1 + i, j, none⟩ (.bool v)) n g (upd f i j v) := by
  refine ⟨h.out.setOther (by omega) _, fun k hk => ?_⟩
  by_cases he : k = i
  · subst he
    have := (h.row k hk).set j (.bool v)
    rw [range_set] at this
    rw [show ((List.range (n + 1)).map fun b => Value.bool (upd f k j v k b)) = (List.range (n + 1)).map (fun b => if b = j then Value.bool v else .bool (f k b)) from List.map_congr_left (fun b _ => by unfold upd; by_cases hb : b = j <;> simp [hb])]
    exact this
  · have := (h.row k hk).setOther (b' := g + 1 + i) (j := j) (by omega) (.bool v)
    rw [show ((List.range (n + 1)).map fun b => Value.bool (upd f i j v k b)) = (List.range (n + 1)).map (fun b => Value.bool (f k b)) from List.map_congr_left (fun b _ => by unfold upd; rw [if_neg (fun e => he e.1)])]
    exact this
theorem Tab.congr {w : World} {n g : Nat} {f f' : Nat → Nat → Bool} (h : Tab w n g f) (he : ∀ i j, i ≤ n → j ≤ n → f' i j = f i j) : Tab w n g f' :=
  ⟨h.out, fun i hi => by
    rw [show ((List.range (n + 1)).map fun j => Value.bool (f' i j)) = (List.range (n + 1)).map (fun j => Value.bool (f i j)) from List.map_congr_left (fun j hj => by rw [he i j hi (by have := List.mem_range.1 hj; omega)])]
    exact h.row i hi⟩

theorem info_bool : (Try.prog.info? 4).map (fun i => (i.zero, i.size, i.bytes)) = some (some (.bool false), 1, 1) := by kernel_rfl
theorem info_brow : (Try.prog.info? 80).map (fun i => (i.zero, i.size, i.bytes)) = some (some (.slice none 0 0), 1, 24) := by kernel_rfl
theorem wpList_make_B (w : World) {ops : Array Oper} {rest : List Oper} {o : Oper} {a : Act} {Q : Exit → Act → World → Prop}
    (hg : o.guard = none) (l c : Operand) (hop : o.op = Op.makeSlice 80 l c) (V : Int) (n : Nat) (hl : a.eval l = .int .i64 V) (hc : a.eval c = .int .i64 V) (hV : V = (n : Int)) (hn : n ≤ 1000)
    (hK : ∀ w', Blk w' w.heap.size 4 (List.replicate n (.bool false)) → w.grownBy w' none → w'.heap.size = w.heap.size + 1 → wpList Try.prog ops Q rest (a.put o.dst (.slice (some ⟨w.heap.size, 0, none⟩) n n)) w') : wpList Try.prog ops Q (o :: rest) a w := by
  subst hV
  obtain ⟨i0, hi, hz0, hz1, hz2⟩ := info_parts info_bool
  refine wpList_make_row w hg l c 80 hop 4 i0 (.bool false) Try.underlying80 hi hz0 hz1 rfl .i64 .i64 n hl hc (by rw [hz2]; omega) (by omega) ?_
  refine hK _ ?_ (World.grownBy_alloc w _ none) (by simp)
  have := Blk.new w 4 (madeCells #[.bool false] n)
  rwa [toList_madeCells_one] at this
theorem wpList_make_R (w : World) {ops : Array Oper} {rest : List Oper} {o : Oper} {a : Act} {Q : Exit → Act → World → Prop}
    (hg : o.guard = none) (l c : Operand) (hop : o.op = Op.makeSlice 96 l c) (V : Int) (n : Nat) (hl : a.eval l = .int .i64 V) (hc : a.eval c = .int .i64 V) (hV : V = (n : Int)) (hn : n ≤ 1000)
    (hK : ∀ w', Blk w' w.heap.size 80 (List.replicate n (.slice none 0 0)) → w.grownBy w' none → w'.heap.size = w.heap.size + 1 → wpList Try.prog ops Q rest (a.put o.dst (.slice (some ⟨w.heap.size, 0, none⟩) n n)) w') : wpList Try.prog ops Q (o :: rest) a w := by
  subst hV
  obtain ⟨i0, hi, hz0, hz1, hz2⟩ := info_parts info_brow
  refine wpList_make_row w hg l c 96 hop 80 i0 (.slice none 0 0) Try.underlying96 hi hz0 hz1 rfl .i64 .i64 n hl hc (by rw [hz2]; omega) (by omega) ?_
  refine hK _ ?_ (World.grownBy_alloc w _ none) (by simp)
  have := Blk.new w 80 (madeCells #[.slice none 0 0] n)
  rwa [toList_madeCells_one] at this

set_option maxRecDepth 100000 in
set_option maxHeartbeats 1000000 in
theorem table_any (n : Nat) (hn : n ≤ 100) (w : World) :
    Calls Try.prog 65 #[.int .i64 (n : Int)] w fun e w' => e = .returned (tabV n w.heap.size) ∧ Tab w' n w.heap.size (fun _ _ => false) ∧ Below w.heap.size w w' := by
  have hnI : (n : Int) ≤ 100 := by omega
  have hnI0 : (0 : Int) ≤ (n : Int) := by omega
  go_enter Try.func65, Try.ntmps65
  go_wp2_with (at_make; refine wpList_make_R _ rfl _ _ rfl _ (n + 1) rfl rfl (by push_cast; rfl) (by omega) ?_; intro w2 hout hg2 hz2)
  have hI : ∃ k : Nat, k ≤ n + 1 ∧ Value.int .i64 0 = .int .i64 (k : Int) ∧ Blk w2 w.heap.size 80 ((List.range (n + 1)).map fun i => if i < k then tabO w.heap.size n i else .slice none 0 0) ∧ (∀ i, i < k → Blk w2 (w.heap.size + 1 + i) 4 ((List.range (n + 1)).map fun _ => .bool false)) ∧ w2.heap.size = w.heap.size + 1 + k ∧ Below w.heap.size w w2 := by
    refine ⟨0, by omega, rfl, ?_, fun i h => by omega, hz2, (Below.refl _ w).grown hg2 (Nat.le_refl _) (fun i e => by cases e)⟩
    rw [show ((List.range (n + 1)).map fun i => if i < 0 then tabO w.heap.size n i else Value.slice none 0 0) = List.replicate (n + 1) (.slice none 0 0) from by simp [List.map_const']]
    exact hout
  clear hout hg2 hz2
  go_loopw [10] (fun iv wr => ∃ k : Nat, k ≤ n + 1 ∧ iv = .int .i64 (k : Int) ∧ Blk wr w.heap.size 80 ((List.range (n + 1)).map fun i => if i < k then tabO w.heap.size n i else .slice none 0 0) ∧ (∀ i, i < k → Blk wr (w.heap.size + 1 + i) 4 ((List.range (n + 1)).map fun _ => .bool false)) ∧ wr.heap.size = w.heap.size + 1 + k ∧ Below w.heap.size w wr) (fun iv _ => n + 1 - (intOf iv).toNat)
  case atStart => exact hI
  case round =>
    obtain ⟨k, hk, rfl, hout, hrows, hsz, hbr⟩ := hrel
    clear hI
    have HR := Lib.hid hrows
    clear hrows
    by_cases hlt : k < n + 1
    · have hkI : (k : Int) < (n : Int) + 1 := by omega
      have hkI0 : (0 : Int) ≤ (k : Int) := by omega
      go_wp2_with (at_make; refine wpList_make_B _ rfl _ _ rfl _ (n + 1) rfl rfl (by push_cast; rfl) (by omega) ?_; intro w3 hrow hg3 hz3; have hout3 := hout.kept hg3 (by simp); have c3 := hout3.cell k; have f3 := hout3.frozen k; have l3 := hout3.lt; rw [range_get _ _ _ hlt, if_neg (Nat.lt_irrefl k)] at c3)
      have hrow2 := hrow.setOther (b' := w.heap.size) (j := k) (by omega) (.slice (some ⟨w.heap.size + 1 + k, 0, none⟩) (n + 1) (n + 1))
      have hout4 := hout3.set k (.slice (some ⟨w.heap.size + 1 + k, 0, none⟩) (n + 1) (n + 1))
      have hrs : ∀ i, i < k + 1 → Blk (w3.setCell ⟨w.heap.size, k, none⟩ (.slice (some ⟨w.heap.size + 1 + k, 0, none⟩) (n + 1) (n + 1))) (w.heap.size + 1 + i) 4 ((List.range (n + 1)).map fun _ => .bool false) := fun i hi => by
        by_cases he : i = k
        · subst he
          rw [hsz] at hrow2
          rw [show ((List.range (n + 1)).map fun _ => Value.bool false) = List.replicate (n + 1) (.bool false) from by simp [List.map_const']]
          exact hrow2
        · exact ((HR.out i (by omega)).kept hg3 (by simp)).setOther (by omega) _
      refine ⟨⟨k + 1, by omega, by simp, ?_, hrs, by simp [hz3, hsz]; omega, (hbr.grown hg3 hbr.size (fun i e => by cases e)).setCell (p := ⟨w.heap.size, k, none⟩) (Nat.le_refl _) _⟩, by simp [intOf]; omega⟩
      rw [range_set] at hout4
      rw [show ((List.range (n + 1)).map fun i => if i < k + 1 then tabO w.heap.size n i else Value.slice none 0 0) = (List.range (n + 1)).map (fun i => if i = k then Value.slice (some ⟨w.heap.size + 1 + k, 0, none⟩) (n + 1) (n + 1) else if i < k then tabO w.heap.size n i else .slice none 0 0) from List.map_congr_left (fun i _ => by
        by_cases he : i = k
        · subst he; rw [if_pos (by omega), if_pos rfl]; rfl
        · rw [if_neg he]
          by_cases h2 : i < k
          · rw [if_pos h2, if_pos (by omega)]
          · rw [if_neg h2, if_neg (by omega)])]
      exact hout4
    · obtain rfl : k = n + 1 := by omega
      have hkI : ¬ ((n + 1 : Nat) : Int) < (n : Int) + 1 := by omega
      have hT : Tab wr n w.heap.size (fun _ _ => false) := ⟨by
        rw [show ((List.range (n + 1)).map (tabO w.heap.size n)) = (List.range (n + 1)).map (fun i => if i < n + 1 then tabO w.heap.size n i else .slice none 0 0) from List.map_congr_left (fun i hi => by rw [if_pos (List.mem_range.1 hi)])]
        exact hout, fun i hi => HR.out i (by omega)⟩
      clear hout
      go_wp2_with (fail)
      exact bodyPost_ret (v := tabV n w.heap.size) (by simp [results, Try.results65, go_sem]; try rfl) rfl ⟨rfl, hT, hbr⟩

set_option maxRecDepth 100000 in
set_option maxHeartbeats 1000000 in
theorem none_any (n : Nat) (hn : n ≤ 100) (w : World) :
    Calls Try.prog 66 #[.int .i64 (n : Int)] w fun e w' => e = .returned (tabV n w.heap.size) ∧ Tab w' n w.heap.size (fun i j => decide (i = j)) ∧ Below w.heap.size w w' := by
  have hnI : (n : Int) ≤ 100 := by omega
  have hnI0 : (0 : Int) ≤ (n : Int) := by omega
  go_enter Try.func66, Try.ntmps66
  go_wp2_with (fail)
  refine (table_any n hn w).mono ?_
  rintro e w2 ⟨rfl, hT2, hb2⟩
  have hI : ∃ k : Nat, k ≤ n + 1 ∧ Value.int .i64 0 = .int .i64 (k : Int) ∧ Tab w2 n w.heap.size (fun i j => decide (i = j ∧ i < k)) ∧ Below w.heap.size w w2 := ⟨0, by omega, rfl, hT2.congr (fun i j _ _ => by simp), hb2⟩
  clear hT2 hb2
  go_wp2_with (fail)
  go_loopw [9] (fun iv wr => ∃ k : Nat, k ≤ n + 1 ∧ iv = .int .i64 (k : Int) ∧ Tab wr n w.heap.size (fun i j => decide (i = j ∧ i < k)) ∧ Below w.heap.size w wr) (fun iv _ => n + 1 - (intOf iv).toNat)
  case atStart => exact hI
  case round =>
    obtain ⟨k, hk, rfl, hT, hbr⟩ := hrel
    clear hI
    by_cases hlt : k < n + 1
    · have hkI : (k : Int) < (n : Int) + 1 := by omega
      have hkI0 : (0 : Int) ≤ (k : Int) := by omega
      have hkn : k ≤ n := by omega
      have c1 := hT.outAt hkn
      have c2 := hT.rowAt hkn hkn
      have f2 := (hT.row k hkn).frozen k
      have l2 := (hT.row k hkn).lt
      go_wp2_with (fail)
      refine ⟨⟨k + 1, by omega, by simp, (hT.set hkn true).congr (fun i j hi hj => ?_), hbr.setCell (p := ⟨w.heap.size + 1 + k, k, none⟩) (by show w.heap.size ≤ w.heap.size + 1 + k; omega) _⟩, by simp [intOf]; omega⟩
      unfold upd
      by_cases h1 : i = k ∧ j = k
      · rw [if_pos h1]; simp [h1.1, h1.2]
      · rw [if_neg h1, decide_eq_decide]
        omega
    · obtain rfl : k = n + 1 := by omega
      have hkI : ¬ ((n + 1 : Nat) : Int) < (n : Int) + 1 := by omega
      go_wp2_with (fail)
      exact bodyPost_ret (v := tabV n w.heap.size) (by simp [results, Try.results66, go_sem]; try rfl) rfl ⟨rfl, hT.congr (fun i j hi hj => by rw [decide_eq_decide]; omega), hbr⟩
end Go.Proofs.Ytngbfjimmdkfeaa

namespace Go.Proofs.Ytngbfjimmdkfeaa
open Go.RowKit Go.Shelf

attribute [local go_sem] Oper.semAt_some

theorem Tab.drew {w : World} {n g : Nat} {f : Nat → Nat → Bool} (h : Tab w n g f) : Tab w.drew n g f := ⟨h.out, h.row⟩
theorem Tab.other {w : World} {n g b j : Nat} {f : Nat → Nat → Bool} (h : Tab w n g f) (hb : g + 1 + n < b) (v : Value) : Tab (w.setCell ⟨b, j, none⟩ v) n g f :=
  ⟨h.out.setOther (by omega) v, fun i hi => (h.row i hi).setOther (by omega) v⟩
def orT (a b : Nat → Nat → Bool) : Nat → Nat → Bool := fun i j => a i j || b i j

theorem vatL {α : Type} {l : List α} {i : Nat} {x : α} (h : l[i]? = some x) : l.toArray[i]? = some x := by simpa using h
theorem vatZ {α : Type} {a : α} {l : List α} : (a :: l)[0]? = some a := rfl
theorem vatS {α : Type} {a : α} {l : List α} {i : Nat} {x : α} (h : l[i]? = some x) : (a :: l)[i + 1]? = some x := by simpa using h

set_option maxRecDepth 100000 in
set_option maxHeartbeats 1000000 in
theorem or_any (n ga gb : Nat) (fa fb : Nat → Nat → Bool) (hn : n ≤ 100) (w : World) (hA : Tab w n ga fa) (hB : Tab w n gb fb) :
    Calls Try.prog 68 #[tabV n ga, tabV n gb] w fun e w' => e = .returned (tabV n w.heap.size) ∧ Tab w' n w.heap.size (orT fa fb) ∧ Below w.heap.size w w' := by
  have hnI : (n : Int) ≤ 100 := by omega
  have hnI0 : (0 : Int) ≤ (n : Int) := by omega
  have hla := hA.lt
  have hlb := hB.lt
  go_enter Try.func68, Try.ntmps68
  go_wp2_with (fail)
  refine (table_any n hn w).mono ?_
  rintro e w2 ⟨rfl, hT2, hb2⟩
  have hI : ∃ k : Nat, k ≤ n + 1 ∧ Value.int .i64 0 = .int .i64 (k : Int) ∧ Tab w2 n w.heap.size (fun i j => decide (i < k) && orT fa fb i j) ∧ Below w.heap.size w w2 := ⟨0, by omega, rfl, hT2.congr (fun i j _ _ => by simp), hb2⟩
  clear hT2 hb2
  go_wp2_with (fail)
  go_loopw [14] (fun iv wr => ∃ k : Nat, k ≤ n + 1 ∧ iv = .int .i64 (k : Int) ∧ Tab wr n w.heap.size (fun i j => decide (i < k) && orT fa fb i j) ∧ Below w.heap.size w wr) (fun iv _ => n + 1 - (intOf iv).toNat)
  case atStart => exact hI
  case round =>
    obtain ⟨k, hk, rfl, hT, hbr⟩ := hrel
    clear hI
    by_cases hlt : k < n + 1
    · have hkI : (k : Int) < (n : Int) + 1 := by omega
      have hkI0 : (0 : Int) ≤ (k : Int) := by omega
      have hkn : k ≤ n := by omega
      have c1 := (hA.grown hbr).outAt hkn
      have hJ : ∃ m : Nat, m ≤ n + 1 ∧ Value.int .i64 0 = .int .i64 (m : Int) ∧ Tab wr n w.heap.size (fun i j => (decide (i < k) || decide (i = k ∧ j < m)) && orT fa fb i j) ∧ Below w.heap.size w wr := ⟨0, by omega, rfl, hT.congr (fun i j _ _ => by simp), hbr⟩
      clear hT hbr
      go_wp2_with (fail)
      go_loopw [22] (fun jv wx => ∃ m : Nat, m ≤ n + 1 ∧ jv = .int .i64 (m : Int) ∧ Tab wx n w.heap.size (fun i j => (decide (i < k) || decide (i = k ∧ j < m)) && orT fa fb i j) ∧ Below w.heap.size w wx) (fun jv _ => n + 1 - (intOf jv).toNat)
      case atStart => exact hJ
      case round =>
        obtain ⟨m, hm, rfl, hT, hbr⟩ := hrel
        clear hJ
        by_cases hmt : m < n + 1
        · have hmI : (m : Int) < (n : Int) + 1 := by omega
          have hmI0 : (0 : Int) ≤ (m : Int) := by omega
          have hmn : m ≤ n := by omega
          have hA4 := hA.grown hbr
          have hB4 := hB.grown hbr
          have f5 := (hT.drew.row k hkn).frozen m
          have l5 := (hT.drew.row k hkn).lt
          have c5 := hT.drew.rowAt hkn hmn
          obtain ⟨A, HAv⟩ : ∃ b, Hid (fa k m = b) := ⟨_, Lib.hid rfl⟩
          obtain ⟨B, HBv⟩ : ∃ b, Hid (fb k m = b) := ⟨_, Lib.hid rfl⟩
          cases A
          case true =>
            go_wp2_with (fail)
            have hT5 := (hT.set (j := m) hkn true).drew
            have hA5 := (hA4.other (b := w.heap.size + 1 + k) (j := m) (by omega) (.bool true)).drew
            have hB5 := (hB4.other (b := w.heap.size + 1 + k) (j := m) (by omega) (.bool true)).drew
            refine wp_region_held_drew (S := fun w' => (w'.cell? ⟨w.heap.size, k, none⟩ = some (.slice (some ⟨w.heap.size + 1 + k, 0, none⟩) (n + 1) (n + 1)) ∧ w'.cell? ⟨ga, k, none⟩ = some (.slice (some ⟨ga + 1 + k, 0, none⟩) (n + 1) (n + 1)) ∧ w'.cell? ⟨ga + 1 + k, m, none⟩ = some (.bool true) ∧ w'.cell? ⟨gb, k, none⟩ = some (.slice (some ⟨gb + 1 + k, 0, none⟩) (n + 1) (n + 1)) ∧ w'.cell? ⟨gb + 1 + k, m, none⟩ = some (.bool B))) (by kernel_rfl) ?_ (fun hHeld => ?_)
            · exact ⟨hT.outAt hkn, hA4.outAt hkn, by rw [(hA4.drew).rowAt hkn hmn, HAv.out], hB4.outAt hkn, by rw [(hB4.drew).rowAt hkn hmn, HBv.out]⟩
            refine wpAnyH_take (i := 0) (v := ?_) (vatL vatZ) (by kernel_rfl) (by kernel_rfl) (by kernel_rfl) (fun _ _ _ h => h) (Or.inl ⟨by rfl, ?_⟩) (by assumption) ?_
            rotate_left
            · intro w hSw
              try dsimp only at hSw
              go_simp
              all_goals with_reducible rfl
            try simp only [Act.put, List.setIfInBounds_toArray, List.set_cons_zero, List.set_cons_succ]
            refine wpAnyH_take (i := 1) (v := ?_) (vatL (vatS vatZ)) (by kernel_rfl) (by kernel_rfl) (by kernel_rfl) (fun _ _ _ h => h) (Or.inl ⟨by rfl, ?_⟩) (by assumption) ?_
            rotate_left
            · intro w hSw
              try dsimp only at hSw
              go_simp
              all_goals with_reducible rfl
            try simp only [Act.put, List.setIfInBounds_toArray, List.set_cons_zero, List.set_cons_succ]
            refine wpAnyH_take (i := 2) (v := ?_) (vatL (vatS (vatS vatZ))) (by kernel_rfl) (by kernel_rfl) (by kernel_rfl) (fun _ _ _ h => h) (Or.inl ⟨by rfl, ?_⟩) (by assumption) ?_
            rotate_left
            · intro w hSw
              try dsimp only at hSw
              go_simp
              all_goals with_reducible rfl
            try simp only [Act.put, List.setIfInBounds_toArray, List.set_cons_zero, List.set_cons_succ]
            refine wpAnyH_take (i := 3) (v := ?_) (vatL (vatS (vatS (vatS vatZ)))) (by kernel_rfl) (by kernel_rfl) (by kernel_rfl) (fun _ _ _ h => h) (Or.inl ⟨by rfl, ?_⟩) (by assumption) ?_
            rotate_left
            · intro w hSw
              try dsimp only at hSw
              go_simp
              all_goals with_reducible rfl
            try simp only [Act.put, List.setIfInBounds_toArray, List.set_cons_zero, List.set_cons_succ]
            refine wpAnyH_take (i := 4) (v := ?_) (vatL (vatS (vatS (vatS (vatS vatZ))))) (by kernel_rfl) (by kernel_rfl) (by kernel_rfl) (fun _ _ _ h => h) (Or.inl ⟨by rfl, ?_⟩) (by assumption) ?_
            rotate_left
            · intro w hSw
              try dsimp only at hSw
              go_simp
              all_goals with_reducible rfl
            try simp only [Act.put, List.setIfInBounds_toArray, List.set_cons_zero, List.set_cons_succ]
            refine wpAnyH_take (i := 5) (v := ?_) (vatL (vatS (vatS (vatS (vatS (vatS vatZ)))))) (by kernel_rfl) (by kernel_rfl) (by kernel_rfl) (fun _ _ _ h => h) (Or.inl ⟨by rfl, ?_⟩) (by assumption) ?_
            rotate_left
            · intro w hSw
              try dsimp only at hSw
              go_simp
              all_goals with_reducible rfl
            try simp only [Act.put, List.setIfInBounds_toArray, List.set_cons_zero, List.set_cons_succ]
            refine wpAnyH_take (i := 6) (v := ?_) (vatL (vatS (vatS (vatS (vatS (vatS (vatS vatZ))))))) (by kernel_rfl) (by kernel_rfl) (by kernel_rfl) (fun _ _ _ h => h) (Or.inl ⟨by rfl, ?_⟩) (by assumption) ?_
            rotate_left
            · intro w hSw
              try dsimp only at hSw
              go_simp
              all_goals with_reducible rfl
            try simp only [Act.put, List.setIfInBounds_toArray, List.set_cons_zero, List.set_cons_succ]
            refine wpAnyH_take (i := 7) (v := ?_) (vatL (vatS (vatS (vatS (vatS (vatS (vatS (vatS vatZ)))))))) (by kernel_rfl) (by kernel_rfl) (by kernel_rfl) (fun _ _ _ h => h) (Or.inl ⟨by rfl, ?_⟩) (by assumption) ?_
            rotate_left
            · intro w hSw
              try dsimp only at hSw
              go_simp
              all_goals with_reducible rfl
            try simp only [Act.put, List.setIfInBounds_toArray, List.set_cons_zero, List.set_cons_succ]
            refine wpAnyH_take (i := 8) (v := ?_) (vatL (vatS (vatS (vatS (vatS (vatS (vatS (vatS (vatS vatZ))))))))) (by kernel_rfl) (by kernel_rfl) (by kernel_rfl) (fun _ _ _ h => h) (Or.inl ⟨by rfl, ?_⟩) (by assumption) ?_
            rotate_left
            · intro w hSw
              try dsimp only at hSw
              go_simp
              all_goals with_reducible rfl
            try simp only [Act.put, List.setIfInBounds_toArray, List.set_cons_zero, List.set_cons_succ]
            refine wpAnyH_take (i := 9) (v := ?_) (vatL (vatS (vatS (vatS (vatS (vatS (vatS (vatS (vatS (vatS vatZ)))))))))) (by kernel_rfl) (by kernel_rfl) (by kernel_rfl) (fun _ _ _ h => h) (Or.inl ⟨by rfl, ?_⟩) (by assumption) ?_
            rotate_left
            · intro w hSw
              try dsimp only at hSw
              go_simp
              all_goals with_reducible rfl
            try simp only [Act.put, List.setIfInBounds_toArray, List.set_cons_zero, List.set_cons_succ]
            refine wpAnyH_take (i := 10) (v := ?_) (vatL (vatS (vatS (vatS (vatS (vatS (vatS (vatS (vatS (vatS (vatS vatZ))))))))))) (by kernel_rfl) (by kernel_rfl) (by kernel_rfl) (fun _ _ _ h => h) (Or.inl ⟨by rfl, ?_⟩) (by assumption) ?_
            rotate_left
            · intro w hSw
              try dsimp only at hSw
              go_simp
              all_goals with_reducible rfl
            try simp only [Act.put, List.setIfInBounds_toArray, List.set_cons_zero, List.set_cons_succ]
            refine wpAnyH_take (i := 11) (v := ?_) (vatL (vatS (vatS (vatS (vatS (vatS (vatS (vatS (vatS (vatS (vatS (vatS vatZ)))))))))))) (by kernel_rfl) (by kernel_rfl) (by kernel_rfl) (fun _ _ _ h => h) (Or.inl ⟨by rfl, ?_⟩) (by assumption) ?_
            rotate_left
            · intro w hSw
              try dsimp only at hSw
              go_simp
              all_goals with_reducible rfl
            try simp only [Act.put, List.setIfInBounds_toArray, List.set_cons_zero, List.set_cons_succ]
            refine wpAnyH_take (i := 12) (v := ?_) (vatL (vatS (vatS (vatS (vatS (vatS (vatS (vatS (vatS (vatS (vatS (vatS (vatS vatZ))))))))))))) (by kernel_rfl) (by kernel_rfl) (by kernel_rfl) (fun _ _ _ h => h) (Or.inl ⟨by rfl, ?_⟩) (by assumption) ?_
            rotate_left
            · intro w hSw
              try dsimp only at hSw
              go_simp
              all_goals with_reducible rfl
            try simp only [Act.put, List.setIfInBounds_toArray, List.set_cons_zero, List.set_cons_succ]
            refine wpAnyH_take (i := 13) (v := undef) (vatL (vatS (vatS (vatS (vatS (vatS (vatS (vatS (vatS (vatS (vatS (vatS (vatS (vatS vatZ)))))))))))))) (by kernel_rfl) (by kernel_rfl) (by kernel_rfl) (fun _ _ _ h => h) (Or.inr ⟨by rfl, rfl⟩) (by assumption) ?_
            try simp only [Act.put, List.setIfInBounds_toArray, List.set_cons_zero, List.set_cons_succ]
            refine wpAnyH_take (i := 14) (v := undef) (vatL (vatS (vatS (vatS (vatS (vatS (vatS (vatS (vatS (vatS (vatS (vatS (vatS (vatS (vatS vatZ))))))))))))))) (by kernel_rfl) (by kernel_rfl) (by kernel_rfl) (fun _ _ _ h => h) (Or.inr ⟨by rfl, rfl⟩) (by assumption) ?_
            try simp only [Act.put, List.setIfInBounds_toArray, List.set_cons_zero, List.set_cons_succ]
            refine wpAnyH_take (i := 15) (v := undef) (vatL (vatS (vatS (vatS (vatS (vatS (vatS (vatS (vatS (vatS (vatS (vatS (vatS (vatS (vatS (vatS vatZ)))))))))))))))) (by kernel_rfl) (by kernel_rfl) (by kernel_rfl) (fun _ _ _ h => h) (Or.inr ⟨by rfl, rfl⟩) (by assumption) ?_
            try simp only [Act.put, List.setIfInBounds_toArray, List.set_cons_zero, List.set_cons_succ]
            refine wpAnyH_take (i := 16) (v := undef) (vatL (vatS (vatS (vatS (vatS (vatS (vatS (vatS (vatS (vatS (vatS (vatS (vatS (vatS (vatS (vatS (vatS vatZ))))))))))))))))) (by kernel_rfl) (by kernel_rfl) (by kernel_rfl) (fun _ _ _ h => h) (Or.inr ⟨by rfl, rfl⟩) (by assumption) ?_
            try simp only [Act.put, List.setIfInBounds_toArray, List.set_cons_zero, List.set_cons_succ]
            refine wpAnyH_take (i := 17) (v := undef) (vatL (vatS (vatS (vatS (vatS (vatS (vatS (vatS (vatS (vatS (vatS (vatS (vatS (vatS (vatS (vatS (vatS (vatS vatZ)))))))))))))))))) (by kernel_rfl) (by kernel_rfl) (by kernel_rfl) (fun _ _ _ h => h) (Or.inr ⟨by rfl, rfl⟩) (by assumption) ?_
            try simp only [Act.put, List.setIfInBounds_toArray, List.set_cons_zero, List.set_cons_succ]
            refine wpAnyH_take (i := 18) (v := undef) (vatL (vatS (vatS (vatS (vatS (vatS (vatS (vatS (vatS (vatS (vatS (vatS (vatS (vatS (vatS (vatS (vatS (vatS (vatS vatZ))))))))))))))))))) (by kernel_rfl) (by kernel_rfl) (by kernel_rfl) (fun _ _ _ h => h) (Or.inr ⟨by rfl, rfl⟩) (by assumption) ?_
            try simp only [Act.put, List.setIfInBounds_toArray, List.set_cons_zero, List.set_cons_succ]
            refine wpAnyH_take (i := 19) (v := undef) (vatL (vatS (vatS (vatS (vatS (vatS (vatS (vatS (vatS (vatS (vatS (vatS (vatS (vatS (vatS (vatS (vatS (vatS (vatS (vatS vatZ)))))))))))))))))))) (by kernel_rfl) (by kernel_rfl) (by kernel_rfl) (fun _ _ _ h => h) (Or.inr ⟨by rfl, rfl⟩) (by assumption) ?_
            try simp only [Act.put, List.setIfInBounds_toArray, List.set_cons_zero, List.set_cons_succ]
            refine wpAnyH_take (i := 20) (v := ?_) (vatL (vatS (vatS (vatS (vatS (vatS (vatS (vatS (vatS (vatS (vatS (vatS (vatS (vatS (vatS (vatS (vatS (vatS (vatS (vatS (vatS vatZ))))))))))))))))))))) (by kernel_rfl) (by kernel_rfl) (by kernel_rfl) (fun _ _ _ h => h) (Or.inl ⟨by rfl, ?_⟩) (by assumption) ?_
            rotate_left
            · intro w hSw
              try dsimp only at hSw
              go_simp
              all_goals with_reducible rfl
            try simp only [Act.put, List.setIfInBounds_toArray, List.set_cons_zero, List.set_cons_succ]
            refine wpAnyH_take (i := 21) (v := ?_) (vatL (vatS (vatS (vatS (vatS (vatS (vatS (vatS (vatS (vatS (vatS (vatS (vatS (vatS (vatS (vatS (vatS (vatS (vatS (vatS (vatS (vatS vatZ)))))))))))))))))))))) (by kernel_rfl) (by kernel_rfl) (by kernel_rfl) (fun _ _ _ h => h) (Or.inl ⟨by rfl, ?_⟩) (by assumption) ?_
            rotate_left
            · intro w hSw
              try dsimp only at hSw
              go_simp
              all_goals with_reducible rfl
            try simp only [Act.put, List.setIfInBounds_toArray, List.set_cons_zero, List.set_cons_succ]
            refine wpAnyH_ready (rs := [22]) (by kernel_rfl) (by simp) ?_
            refine AllReadyH.cons (vatL (vatS (vatS (vatS (vatS (vatS (vatS (vatS (vatS (vatS (vatS (vatS (vatS (vatS (vatS (vatS (vatS (vatS (vatS (vatS (vatS (vatS (vatS vatZ))))))))))))))))))))))) (fun K hK => ?_) AllReadyH.nil
            go_simp
            refine hK.out _ _ ?_ (fun hHeld => ?_)
            · exact ⟨hT5.outAt hkn, hA5.outAt hkn, by rw [hA5.rowAt hkn hmn, HAv.out], hB5.outAt hkn, by rw [hB5.rowAt hkn hmn, HBv.out]⟩
            clear hK K
            try simp only [Act.put, List.setIfInBounds_toArray, List.set_cons_zero, List.set_cons_succ]
            refine wpAnyH_done (by kernel_rfl) ?_ _
            go_wp2_with (fail)
            refine ⟨⟨m + 1, by omega, by simp, hT5.congr (fun i j hi hj => ?_), (hbr.setCell (p := ⟨w.heap.size + 1 + k, m, none⟩) (by show w.heap.size ≤ w.heap.size + 1 + k; omega) _).drew⟩, by simp [intOf]; omega⟩
            unfold upd orT
            by_cases h1 : i = k ∧ j = m
            · rw [if_pos h1, h1.1, h1.2, HAv.out, HBv.out]; simp
            · rw [if_neg h1]
              congr 1
              rw [Bool.eq_iff_iff]; simp; omega
          case false =>
            go_wp2_with (fail)
            have hT5 := (hT.set (j := m) hkn B).drew
            have hA5 := (hA4.other (b := w.heap.size + 1 + k) (j := m) (by omega) (.bool B)).drew
            have hB5 := (hB4.other (b := w.heap.size + 1 + k) (j := m) (by omega) (.bool B)).drew
            refine wp_region_held_drew (S := fun w' => (w'.cell? ⟨w.heap.size, k, none⟩ = some (.slice (some ⟨w.heap.size + 1 + k, 0, none⟩) (n + 1) (n + 1)) ∧ w'.cell? ⟨ga, k, none⟩ = some (.slice (some ⟨ga + 1 + k, 0, none⟩) (n + 1) (n + 1)) ∧ w'.cell? ⟨ga + 1 + k, m, none⟩ = some (.bool false) ∧ w'.cell? ⟨gb, k, none⟩ = some (.slice (some ⟨gb + 1 + k, 0, none⟩) (n + 1) (n + 1)) ∧ w'.cell? ⟨gb + 1 + k, m, none⟩ = some (.bool B))) (by kernel_rfl) ?_ (fun hHeld => ?_)
            · exact ⟨hT.outAt hkn, hA4.outAt hkn, by rw [(hA4.drew).rowAt hkn hmn, HAv.out], hB4.outAt hkn, by rw [(hB4.drew).rowAt hkn hmn, HBv.out]⟩
            refine wpAnyH_take (i := 0) (v := ?_) (vatL vatZ) (by kernel_rfl) (by kernel_rfl) (by kernel_rfl) (fun _ _ _ h => h) (Or.inl ⟨by rfl, ?_⟩) (by assumption) ?_
            rotate_left
            · intro w hSw
              try dsimp only at hSw
              go_simp
              all_goals with_reducible rfl
            try simp only [Act.put, List.setIfInBounds_toArray, List.set_cons_zero, List.set_cons_succ]
            refine wpAnyH_take (i := 1) (v := ?_) (vatL (vatS vatZ)) (by kernel_rfl) (by kernel_rfl) (by kernel_rfl) (fun _ _ _ h => h) (Or.inl ⟨by rfl, ?_⟩) (by assumption) ?_
            rotate_left
            · intro w hSw
              try dsimp only at hSw
              go_simp
              all_goals with_reducible rfl
            try simp only [Act.put, List.setIfInBounds_toArray, List.set_cons_zero, List.set_cons_succ]
            refine wpAnyH_take (i := 2) (v := ?_) (vatL (vatS (vatS vatZ))) (by kernel_rfl) (by kernel_rfl) (by kernel_rfl) (fun _ _ _ h => h) (Or.inl ⟨by rfl, ?_⟩) (by assumption) ?_
            rotate_left
            · intro w hSw
              try dsimp only at hSw
              go_simp
              all_goals with_reducible rfl
            try simp only [Act.put, List.setIfInBounds_toArray, List.set_cons_zero, List.set_cons_succ]
            refine wpAnyH_take (i := 3) (v := ?_) (vatL (vatS (vatS (vatS vatZ)))) (by kernel_rfl) (by kernel_rfl) (by kernel_rfl) (fun _ _ _ h => h) (Or.inl ⟨by rfl, ?_⟩) (by assumption) ?_
            rotate_left
            · intro w hSw
              try dsimp only at hSw
              go_simp
              all_goals with_reducible rfl
            try simp only [Act.put, List.setIfInBounds_toArray, List.set_cons_zero, List.set_cons_succ]
            refine wpAnyH_take (i := 4) (v := ?_) (vatL (vatS (vatS (vatS (vatS vatZ))))) (by kernel_rfl) (by kernel_rfl) (by kernel_rfl) (fun _ _ _ h => h) (Or.inl ⟨by rfl, ?_⟩) (by assumption) ?_
            rotate_left
            · intro w hSw
              try dsimp only at hSw
              go_simp
              all_goals with_reducible rfl
            try simp only [Act.put, List.setIfInBounds_toArray, List.set_cons_zero, List.set_cons_succ]
            refine wpAnyH_take (i := 5) (v := ?_) (vatL (vatS (vatS (vatS (vatS (vatS vatZ)))))) (by kernel_rfl) (by kernel_rfl) (by kernel_rfl) (fun _ _ _ h => h) (Or.inl ⟨by rfl, ?_⟩) (by assumption) ?_
            rotate_left
            · intro w hSw
              try dsimp only at hSw
              go_simp
              all_goals with_reducible rfl
            try simp only [Act.put, List.setIfInBounds_toArray, List.set_cons_zero, List.set_cons_succ]
            refine wpAnyH_take (i := 6) (v := ?_) (vatL (vatS (vatS (vatS (vatS (vatS (vatS vatZ))))))) (by kernel_rfl) (by kernel_rfl) (by kernel_rfl) (fun _ _ _ h => h) (Or.inl ⟨by rfl, ?_⟩) (by assumption) ?_
            rotate_left
            · intro w hSw
              try dsimp only at hSw
              go_simp
              all_goals with_reducible rfl
            try simp only [Act.put, List.setIfInBounds_toArray, List.set_cons_zero, List.set_cons_succ]
            refine wpAnyH_take (i := 7) (v := ?_) (vatL (vatS (vatS (vatS (vatS (vatS (vatS (vatS vatZ)))))))) (by kernel_rfl) (by kernel_rfl) (by kernel_rfl) (fun _ _ _ h => h) (Or.inl ⟨by rfl, ?_⟩) (by assumption) ?_
            rotate_left
            · intro w hSw
              try dsimp only at hSw
              go_simp
              all_goals with_reducible rfl
            try simp only [Act.put, List.setIfInBounds_toArray, List.set_cons_zero, List.set_cons_succ]
            refine wpAnyH_take (i := 8) (v := ?_) (vatL (vatS (vatS (vatS (vatS (vatS (vatS (vatS (vatS vatZ))))))))) (by kernel_rfl) (by kernel_rfl) (by kernel_rfl) (fun _ _ _ h => h) (Or.inl ⟨by rfl, ?_⟩) (by assumption) ?_
            rotate_left
            · intro w hSw
              try dsimp only at hSw
              go_simp
              all_goals with_reducible rfl
            try simp only [Act.put, List.setIfInBounds_toArray, List.set_cons_zero, List.set_cons_succ]
            refine wpAnyH_take (i := 9) (v := ?_) (vatL (vatS (vatS (vatS (vatS (vatS (vatS (vatS (vatS (vatS vatZ)))))))))) (by kernel_rfl) (by kernel_rfl) (by kernel_rfl) (fun _ _ _ h => h) (Or.inl ⟨by rfl, ?_⟩) (by assumption) ?_
            rotate_left
            · intro w hSw
              try dsimp only at hSw
              go_simp
              all_goals with_reducible rfl
            try simp only [Act.put, List.setIfInBounds_toArray, List.set_cons_zero, List.set_cons_succ]
            refine wpAnyH_take (i := 10) (v := ?_) (vatL (vatS (vatS (vatS (vatS (vatS (vatS (vatS (vatS (vatS (vatS vatZ))))))))))) (by kernel_rfl) (by kernel_rfl) (by kernel_rfl) (fun _ _ _ h => h) (Or.inl ⟨by rfl, ?_⟩) (by assumption) ?_
            rotate_left
            · intro w hSw
              try dsimp only at hSw
              go_simp
              all_goals with_reducible rfl
            try simp only [Act.put, List.setIfInBounds_toArray, List.set_cons_zero, List.set_cons_succ]
            refine wpAnyH_take (i := 11) (v := ?_) (vatL (vatS (vatS (vatS (vatS (vatS (vatS (vatS (vatS (vatS (vatS (vatS vatZ)))))))))))) (by kernel_rfl) (by kernel_rfl) (by kernel_rfl) (fun _ _ _ h => h) (Or.inl ⟨by rfl, ?_⟩) (by assumption) ?_
            rotate_left
            · intro w hSw
              try dsimp only at hSw
              go_simp
              all_goals with_reducible rfl
            try simp only [Act.put, List.setIfInBounds_toArray, List.set_cons_zero, List.set_cons_succ]
            refine wpAnyH_take (i := 12) (v := ?_) (vatL (vatS (vatS (vatS (vatS (vatS (vatS (vatS (vatS (vatS (vatS (vatS (vatS vatZ))))))))))))) (by kernel_rfl) (by kernel_rfl) (by kernel_rfl) (fun _ _ _ h => h) (Or.inl ⟨by rfl, ?_⟩) (by assumption) ?_
            rotate_left
            · intro w hSw
              try dsimp only at hSw
              go_simp
              all_goals with_reducible rfl
            try simp only [Act.put, List.setIfInBounds_toArray, List.set_cons_zero, List.set_cons_succ]
            refine wpAnyH_take (i := 13) (v := ?_) (vatL (vatS (vatS (vatS (vatS (vatS (vatS (vatS (vatS (vatS (vatS (vatS (vatS (vatS vatZ)))))))))))))) (by kernel_rfl) (by kernel_rfl) (by kernel_rfl) (fun _ _ _ h => h) (Or.inl ⟨by rfl, ?_⟩) (by assumption) ?_
            rotate_left
            · intro w hSw
              try dsimp only at hSw
              go_simp
              all_goals with_reducible rfl
            try simp only [Act.put, List.setIfInBounds_toArray, List.set_cons_zero, List.set_cons_succ]
            refine wpAnyH_take (i := 14) (v := ?_) (vatL (vatS (vatS (vatS (vatS (vatS (vatS (vatS (vatS (vatS (vatS (vatS (vatS (vatS (vatS vatZ))))))))))))))) (by kernel_rfl) (by kernel_rfl) (by kernel_rfl) (fun _ _ _ h => h) (Or.inl ⟨by rfl, ?_⟩) (by assumption) ?_
            rotate_left
            · intro w hSw
              try dsimp only at hSw
              go_simp
              all_goals with_reducible rfl
            try simp only [Act.put, List.setIfInBounds_toArray, List.set_cons_zero, List.set_cons_succ]
            refine wpAnyH_take (i := 15) (v := ?_) (vatL (vatS (vatS (vatS (vatS (vatS (vatS (vatS (vatS (vatS (vatS (vatS (vatS (vatS (vatS (vatS vatZ)))))))))))))))) (by kernel_rfl) (by kernel_rfl) (by kernel_rfl) (fun _ _ _ h => h) (Or.inl ⟨by rfl, ?_⟩) (by assumption) ?_
            rotate_left
            · intro w hSw
              try dsimp only at hSw
              go_simp
              all_goals with_reducible rfl
            try simp only [Act.put, List.setIfInBounds_toArray, List.set_cons_zero, List.set_cons_succ]
            refine wpAnyH_take (i := 16) (v := ?_) (vatL (vatS (vatS (vatS (vatS (vatS (vatS (vatS (vatS (vatS (vatS (vatS (vatS (vatS (vatS (vatS (vatS vatZ))))))))))))))))) (by kernel_rfl) (by kernel_rfl) (by kernel_rfl) (fun _ _ _ h => h) (Or.inl ⟨by rfl, ?_⟩) (by assumption) ?_
            rotate_left
            · intro w hSw
              try dsimp only at hSw
              go_simp
              all_goals with_reducible rfl
            try simp only [Act.put, List.setIfInBounds_toArray, List.set_cons_zero, List.set_cons_succ]
            refine wpAnyH_take (i := 17) (v := ?_) (vatL (vatS (vatS (vatS (vatS (vatS (vatS (vatS (vatS (vatS (vatS (vatS (vatS (vatS (vatS (vatS (vatS (vatS vatZ)))))))))))))))))) (by kernel_rfl) (by kernel_rfl) (by kernel_rfl) (fun _ _ _ h => h) (Or.inl ⟨by rfl, ?_⟩) (by assumption) ?_
            rotate_left
            · intro w hSw
              try dsimp only at hSw
              go_simp
              all_goals with_reducible rfl
            try simp only [Act.put, List.setIfInBounds_toArray, List.set_cons_zero, List.set_cons_succ]
            refine wpAnyH_take (i := 18) (v := ?_) (vatL (vatS (vatS (vatS (vatS (vatS (vatS (vatS (vatS (vatS (vatS (vatS (vatS (vatS (vatS (vatS (vatS (vatS (vatS vatZ))))))))))))))))))) (by kernel_rfl) (by kernel_rfl) (by kernel_rfl) (fun _ _ _ h => h) (Or.inl ⟨by rfl, ?_⟩) (by assumption) ?_
            rotate_left
            · intro w hSw
              try dsimp only at hSw
              go_simp
              all_goals with_reducible rfl
            try simp only [Act.put, List.setIfInBounds_toArray, List.set_cons_zero, List.set_cons_succ]
            refine wpAnyH_take (i := 19) (v := ?_) (vatL (vatS (vatS (vatS (vatS (vatS (vatS (vatS (vatS (vatS (vatS (vatS (vatS (vatS (vatS (vatS (vatS (vatS (vatS (vatS vatZ)))))))))))))))))))) (by kernel_rfl) (by kernel_rfl) (by kernel_rfl) (fun _ _ _ h => h) (Or.inl ⟨by rfl, ?_⟩) (by assumption) ?_
            rotate_left
            · intro w hSw
              try dsimp only at hSw
              go_simp
              all_goals with_reducible rfl
            try simp only [Act.put, List.setIfInBounds_toArray, List.set_cons_zero, List.set_cons_succ]
            refine wpAnyH_take (i := 20) (v := ?_) (vatL (vatS (vatS (vatS (vatS (vatS (vatS (vatS (vatS (vatS (vatS (vatS (vatS (vatS (vatS (vatS (vatS (vatS (vatS (vatS (vatS vatZ))))))))))))))))))))) (by kernel_rfl) (by kernel_rfl) (by kernel_rfl) (fun _ _ _ h => h) (Or.inl ⟨by rfl, ?_⟩) (by assumption) ?_
            rotate_left
            · intro w hSw
              try dsimp only at hSw
              go_simp
              all_goals with_reducible rfl
            try simp only [Act.put, List.setIfInBounds_toArray, List.set_cons_zero, List.set_cons_succ]
            refine wpAnyH_take (i := 21) (v := ?_) (vatL (vatS (vatS (vatS (vatS (vatS (vatS (vatS (vatS (vatS (vatS (vatS (vatS (vatS (vatS (vatS (vatS (vatS (vatS (vatS (vatS (vatS vatZ)))))))))))))))))))))) (by kernel_rfl) (by kernel_rfl) (by kernel_rfl) (fun _ _ _ h => h) (Or.inl ⟨by rfl, ?_⟩) (by assumption) ?_
            rotate_left
            · intro w hSw
              try dsimp only at hSw
              go_simp
              all_goals with_reducible rfl
            try simp only [Act.put, List.setIfInBounds_toArray, List.set_cons_zero, List.set_cons_succ]
            refine wpAnyH_ready (rs := [22]) (by kernel_rfl) (by simp) ?_
            refine AllReadyH.cons (vatL (vatS (vatS (vatS (vatS (vatS (vatS (vatS (vatS (vatS (vatS (vatS (vatS (vatS (vatS (vatS (vatS (vatS (vatS (vatS (vatS (vatS (vatS vatZ))))))))))))))))))))))) (fun K hK => ?_) AllReadyH.nil
            go_simp
            refine hK.out _ _ ?_ (fun hHeld => ?_)
            · exact ⟨hT5.outAt hkn, hA5.outAt hkn, by rw [hA5.rowAt hkn hmn, HAv.out], hB5.outAt hkn, by rw [hB5.rowAt hkn hmn, HBv.out]⟩
            clear hK K
            try simp only [Act.put, List.setIfInBounds_toArray, List.set_cons_zero, List.set_cons_succ]
            refine wpAnyH_done (by kernel_rfl) ?_ _
            go_wp2_with (fail)
            refine ⟨⟨m + 1, by omega, by simp, hT5.congr (fun i j hi hj => ?_), (hbr.setCell (p := ⟨w.heap.size + 1 + k, m, none⟩) (by show w.heap.size ≤ w.heap.size + 1 + k; omega) _).drew⟩, by simp [intOf]; omega⟩
            unfold upd orT
            by_cases h1 : i = k ∧ j = m
            · rw [if_pos h1, h1.1, h1.2, HAv.out, HBv.out]; simp
            · rw [if_neg h1]
              congr 1
              rw [Bool.eq_iff_iff]; simp; omega
        · obtain rfl : m = n + 1 := by omega
          have hmI : ¬ ((n + 1 : Nat) : Int) < (n : Int) + 1 := by omega
          go_wp2_with (fail)
          exact ⟨⟨k + 1, by omega, by simp, hT.congr (fun i j hi hj => by congr 1; rw [Bool.eq_iff_iff]; simp; omega), hbr⟩, by simp [intOf]; omega⟩
    · obtain rfl : k = n + 1 := by omega
      have hkI : ¬ ((n + 1 : Nat) : Int) < (n : Int) + 1 := by omega
      go_wp2_with (fail)
      exact bodyPost_ret (v := tabV n w.heap.size) (by simp [results, Try.results68, go_sem]; try rfl) rfl ⟨rfl, hT.congr (fun i j hi hj => by rw [decide_eq_true (by omega), Bool.true_and]), hbr⟩
end Go.Proofs.Ytngbfjimmdkfeaa

