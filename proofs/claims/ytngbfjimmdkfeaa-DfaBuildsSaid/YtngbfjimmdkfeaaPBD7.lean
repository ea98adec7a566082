/- Texts joined: Dm Dn Do. -/
import Derived.Test.YtngbfjimmdkfeaaPBD6
import Derived.Lib.SliceRun
set_option linter.unusedVariables false
set_option linter.unusedSimpArgs false
namespace Go.Proofs.Ytngbfjimmdkfeaa
open Go.RowKit Go.Shelf Go.Maps

attribute [local go_sem] Oper.semAt_some

/-- 'clear' where an element's zero is one value over and over. -/
theorem run_clear_rep {P : Program} (w : World) (t e ty : TypeId) (z v : Value) (sz : Nat) (ht : P.underlying t = some (.slice e)) (hv : ∀ w, (zeroValue e).run P w = .ok z w) (hz : z.cells = (List.replicate sz v).toArray) (hsz : 0 < sz) (h1 : v.oneCell' = true) (b o n c : Nat) (hn : 0 < n)
    (hc : ∀ j, j < n * sz → (w.cell? ⟨b, o + j, none⟩).isSome = true) (hf : ∀ j, j < n * sz → w.frozen? ⟨b, o + j, none⟩ = false) :
    (Builtin.clear_ #[t] ty #[.slice (some ⟨b, o, none⟩) n c]).run P w = .ok (.tuple #[]) (w.setCells b o (List.replicate (n * sz) v)) := by
  have hzc : (Builtin.zeroCells z.cells n).toList = List.replicate (n * sz) v := by
    rw [hz]
    simp [Builtin.zeroCells]
    apply List.ext_getElem
    · simp
    · intro i h1 h2
      have : i % sz < sz := Nat.mod_lt _ hsz
      simp [this]
  have hst := run_storeCells_cells (P := P) b o (List.replicate (n * sz) v) 0 w (by simpa using hc) (by simpa using hf) (by intro v hv'; rw [List.eq_of_mem_replicate hv']; exact h1)
  simp only [Nat.add_zero] at hst
  obtain ⟨m, rfl⟩ : ∃ m, n = m + 1 := ⟨n - 1, by omega⟩
  simp [Builtin.clear_, run_underlying ht, hv, hzc, hst]
theorem BlkA.sets {b n : Nat} {t : TypeId} {v : Value} : ∀ (m o : Nat) {w : World} {g : Nat → Value}, BlkA w b t n g → o + m ≤ n → BlkA (w.setCells b o (List.replicate m v)) b t n (fun i => if o ≤ i ∧ i < o + m then v else g i) ∧ w.grownBy (w.setCells b o (List.replicate m v)) (some b)
  | 0, o, w, g, h, _ => ⟨h.congr (fun i _ => by rw [if_neg (by omega)]), grownBy_refl w _⟩
  | m + 1, o, w, g, h, ho => by
    have h1 := h.set (j := o) (by omega) v
    obtain ⟨h2, h3⟩ := BlkA.sets m (o + 1) h1 (by omega)
    refine ⟨h2.congr (fun i _ => ?_), grownBy_trans (grownBy_set w b o v) h3 (fun i e => .inl e)⟩
    by_cases e : o + 1 ≤ i ∧ i < o + 1 + m
    · rw [if_pos e, if_pos (by omega)]
    · rw [if_neg e]
      by_cases e2 : i = o
      · rw [if_pos e2, if_pos (by omega)]
      · rw [if_neg e2, if_neg (by omega)]
/-- Moves put behind an own row of moves. -/
theorem info_move : (Try.prog.info? 57).map (fun i => (i.zero, i.size, i.bytes)) = some (some (.agg #[.int .u8 0, .int .u8 0, .int .i64 0]), 3, 16) := by kernel_rfl
theorem cells_len (l : List Mv) : (l.flatMap Mv.cells).length = l.length * 3 := by
  induction l with
  | nil => rfl
  | cons m l ih =>
    rw [List.flatMap_cons, List.length_append, ih]
    simp only [List.length_cons, List.length_nil]
    omega
theorem cells_one (l : List Mv) : ∀ u ∈ l.flatMap Mv.cells, u.oneCell' = true := fun u hu => by
  obtain ⟨m, _, h⟩ := List.mem_flatMap.1 hu
  simp only [Mv.cells, List.mem_cons, List.not_mem_nil, or_false] at h
  rcases h with rfl | rfl | rfl <;> rfl
theorem run_appM (w : World) (ty : TypeId) {base base2 n cap : Nat} {a : Option Addr} {xs : List Value} (d : MvD) (hown : w.ownsRow base 57 3 (.slice a n cap) n xs) (hd : OwnMv w base2 d) (hn : n + d.l.length ≤ 1000000) (hbase : base ≤ w.heap.size) :
    ∃ a' c' w', (Builtin.append_ #[58, 58] ty #[.slice a n cap, .slice d.a d.l.length d.c]).run Try.prog w = .ok (.slice a' (n + d.l.length) c') w' ∧ w'.ownsRow base 57 3 (.slice a' (n + d.l.length) c') (n + d.l.length) (xs ++ d.l.flatMap Mv.cells) ∧ w.grownBy w' (Value.slice a n cap).ownBlock ∧ ((Value.slice a' (n + d.l.length) c').ownBlock = (Value.slice a n cap).ownBlock ∨ (Value.slice a' (n + d.l.length) c').ownBlock = some w.heap.size) := by
  obtain ⟨i0, hi, hz0, hz1, hz2⟩ := info_parts info_move
  have hdl := ownW_le hd
  rcases hd.2 with ⟨e1, e0⟩ | ⟨g, cp, cur, e1, hb, hk, hnc, hcm, hcs, htk⟩
  · have h0 : d.l = [] := List.eq_nil_of_length_eq_zero e0
    rw [e1, e0, h0]
    exact ⟨a, cap, w, run_append_owned_none (P := Try.prog) w base _ ty _ i0 3 Try.underlying58 hi _ _ _ hown, by simpa using hown, grownBy_refl w _, .inl rfl⟩
  · injection e1 with e1 e2 e3
    have hcells : ∀ j u, (d.l.flatMap Mv.cells)[j]? = some u → w.cell? ((⟨g, 0, none⟩ : Addr).add j) = some u := by
      intro j u hj
      have hl : j < (d.l.flatMap Mv.cells).length := (List.getElem?_eq_some_iff.1 hj).1
      rw [cells_len] at hl
      have hd' := hd
      unfold OwnMv at hd'
      rw [e1] at hd'
      have := World.ownsRow.cellAt hd' j hl
      have e : ((⟨g, 0, none⟩ : Addr).add j) = ⟨g, j, none⟩ := by simp [Addr.add]; exact Eq.symm
      rw [e, this, hj]
    obtain ⟨v', w', hrun, ho, hg, _, hb5⟩ := run_append_own_at (P := Try.prog) w base 58 ty 57 i0 _ 3 16 Try.underlying58 hi hz0 hz1 hz2 rfl (by decide) _ n _ hown ⟨g, 0, none⟩ d.l.length d.c _ (cells_len d.l) hcells (cells_one d.l) (by unfold maxLen; omega) (by omega) hbase
    obtain ⟨a', c', rfl⟩ := slice_of_own ho
    exact ⟨a', c', w', by rw [e1]; exact hrun, ho, hg, hb5⟩
theorem mkG_setc (L : MkL) (n : Nat) (sa : Option Addr) (sc : Nat) (cu : Nat → Bool) (bh : Nat → WSet) {c : Nat} (hc : c < 257) (q : Bool) (i : Nat) : (if i = 8 + c then Value.bool q else mkG L n sa sc cu bh i) = mkG L n sa sc (fun d => if d = c then q else cu d) bh i := by
  by_cases e : i = 8 + c
  · subst e
    rw [if_pos rfl, mkG_cut L _ _ _ _ _ hc, if_pos rfl]
  · rw [if_neg e]
    unfold mkG
    by_cases h1 : i < 8
    · rw [if_pos h1, if_pos h1]
    · rw [if_neg h1, if_neg h1]
      by_cases h2 : i < 265
      · rw [if_pos h2, if_pos h2]
        dsimp only
        rw [if_neg (by omega)]
      · rw [if_neg h2, if_neg h2]
/-- The cuts of moves. -/
def CutI (cu : Nat → Bool) (P : List Mv) : Prop := ∀ c, c < 257 → (cu c = true ↔ ∃ m ∈ P, c = m.lo ∨ c = m.hi + 1)
theorem cutI_add {cu : Nat → Bool} {P : List Mv} {lo hi : Nat} {t : Int} (h : CutI cu P) : CutI (fun d => if d = hi + 1 then true else if d = lo then true else cu d) (P ++ [⟨lo, hi, t⟩]) := fun c hc => by
  dsimp only
  have e : (∃ m ∈ P ++ [(⟨lo, hi, t⟩ : Mv)], c = m.lo ∨ c = m.hi + 1) ↔ (∃ m ∈ P, c = m.lo ∨ c = m.hi + 1) ∨ (c = lo ∨ c = hi + 1) := by
    constructor
    · rintro ⟨m, hm, h⟩
      rcases List.mem_append.1 hm with h1 | h1
      · exact .inl ⟨m, h1, h⟩
      · rw [List.mem_singleton] at h1
        subst h1
        exact .inr h
    · rintro (⟨m, hm, h⟩ | h)
      · exact ⟨m, List.mem_append_left _ hm, h⟩
      · exact ⟨⟨lo, hi, t⟩, by simp, h⟩
  rw [e, ← h c hc]
  by_cases e1 : c = hi + 1
  · rw [if_pos e1]; simp [e1]
  · rw [if_neg e1]
    by_cases e2 : c = lo
    · rw [if_pos e2]; simp [e2]
    · rw [if_neg e2]; simp [e1, e2]
theorem own_grow {w w' : World} {base e size n cap : Nat} {a : Option Addr} {xs : List Value} (h : w.ownsRow base e size (.slice a n cap) n xs) (hb : Below w.heap.size w w') : w'.ownsRow base e size (.slice a n cap) n xs := own_keptD h (below_grownBy hb none) (fun g e => by cases e)
theorem own_some {w : World} {base e size n cap : Nat} {a : Option Addr} {xs : List Value} (h : w.ownsRow base e size (.slice a n cap) n xs) (hn : 0 < n) : ∃ g, a = some ⟨g, 0, none⟩ ∧ base ≤ g := by
  rcases h.2 with ⟨e1, e0⟩ | ⟨g, cp, cur, e1, hb, _⟩
  · omega
  · injection e1 with e1 e2 e3
    exact ⟨g, e1, hb⟩
theorem cells_at : ∀ (l : List Mv) {k : Nat} (h : k < l.length), (l.flatMap Mv.cells)[k * 3]? = some (.int .u8 (l[k].lo : Int)) ∧ (l.flatMap Mv.cells)[k * 3 + 1]? = some (.int .u8 (l[k].hi : Int)) ∧ (l.flatMap Mv.cells)[k * 3 + 2]? = some (.int .i64 l[k].to)
  | [], k, h => by simp at h
  | m :: l, 0, h => ⟨rfl, rfl, rfl⟩
  | m :: l, k + 1, h => by
    have := cells_at l (k := k) (by simpa using h)
    rw [List.flatMap_cons, show (k + 1) * 3 = k * 3 + 3 by omega]
    simpa [Mv.cells] using this
theorem row_move {w : World} {base n g cap k : Nat} {l : List Mv} (h : w.ownsRow base 57 3 (.slice (some ⟨g, 0, none⟩) n cap) n (l.flatMap Mv.cells)) (hk : k < l.length) :
    w.cell? ⟨g, k * 3, none⟩ = some (.int .u8 (l[k].lo : Int)) ∧ w.cell? ⟨g, k * 3 + 1, none⟩ = some (.int .u8 (l[k].hi : Int)) ∧ w.cell? ⟨g, k * 3 + 2, none⟩ = some (.int .i64 l[k].to) := by
  have hl := h.1
  rw [cells_len] at hl
  obtain ⟨h0, h1, h2⟩ := cells_at l hk
  exact ⟨(World.ownsRow.cellAt h _ (by omega)).trans h0, (World.ownsRow.cellAt h _ (by omega)).trans h1, (World.ownsRow.cellAt h _ (by omega)).trans h2⟩
/-- All moves of a set's states. -/
def allM (lds : List MvD) (f : WSet) (i : Nat) : List Mv := (List.range i).flatMap (fun s => if hasW f s then (lds.getD s ⟨[], none, 0⟩).l else [])
theorem allM_succ (lds : List MvD) (f : WSet) (i : Nat) : allM lds f (i + 1) = allM lds f i ++ (if hasW f i then (lds.getD i ⟨[], none, 0⟩).l else []) := by
  unfold allM
  rw [List.range_succ, List.flatMap_append]
  simp
theorem zero_bool (w : World) : (zeroValue 4).run Try.prog w = .ok (.bool false) w := by kernel_rfl
theorem zero_wset (w : World) : (zeroValue 74).run Try.prog w = .ok (.agg (List.replicate 32 (Value.int .u64 0)).toArray) w := by kernel_rfl

set_option maxRecDepth 100000 in
set_option maxHeartbeats 4000000 in
theorem dstep_any (w0 w : World) (L : MkL) (cl : Nat → WSet) (cu : Nat → Bool) (bh : Nat → WSet) (all : List WSet) (sa : Option Addr) (sc b off : Nat) (f : WSet) (h : MkrAt w0 w L cl cu bh all sa sc) (hy : linkB L.y = true) (he : L.es.length ≤ 500000) (hi1 : ClN L.y L.n cl)
    (hf : Wd32 w b off f) (hbm : b ≠ L.mb) (hl : L.lds.length = L.n) (hmv : ∀ d ∈ L.lds, ∀ m ∈ d.l, m.lo < 256 ∧ m.hi < 256 ∧ ∃ t : Nat, m.to = (t : Int) ∧ t < L.n) (htot : ∀ i, (allM L.lds f i).length ≤ 1000000) :
    Calls Try.prog 56 #[.pointer (some ⟨L.mb, 0, none⟩), .pointer (some ⟨b, off, none⟩)] w fun e w' => e = .returned (.tuple #[]) ∧ ∃ cl' cu' bh', MkrAt w0 w' L cl' cu' bh' all sa sc ∧ ClN L.y L.n cl' ∧ CutI cu' (allM L.lds f L.n) ∧ BhA L.y cu' bh' (allM L.lds f L.n) ∧ KpM (fun g => g = L.cb ∨ g = L.mb) w w' := by
  have hn : L.n ≤ 2000 := by
    have := (link_n hy).2.1
    simpa using this
  have k1 := h.mkr.sets (v := .bool false) 257 8 (by omega)
  have hM1 := h.mks (cu' := fun _ => false) (bh' := bh) k1.2 (k1.1.congr (fun i _ => by
    unfold mkG
    by_cases h1 : i < 8
    · rw [if_neg (by omega), if_pos h1, if_pos h1]
    · rw [if_neg h1, if_neg h1]
      by_cases h2 : i < 265
      · rw [if_pos (by omega), if_pos h2]
      · rw [if_neg (by omega), if_neg h2, if_neg h2]))
  have hcl1 := run_clear_rep (P := Try.prog) w 80 4 0 (.bool false) (.bool false) 1 Try.underlying80 zero_bool rfl (by decide) rfl L.mb 8 257 257 (by decide) (fun j hj => by rw [h.mkr.cell (by omega)]; rfl) (fun j hj => h.mkr.frozen _)
  obtain ⟨W1, hW1⟩ : ∃ W1, Hid (w.setCells L.mb 8 (List.replicate 257 (.bool false)) = W1) := ⟨_, Lib.hid rfl⟩
  have e257 : 257 * 1 = 257 := rfl
  rw [e257, hW1.out] at hcl1
  rw [hW1.out] at hM1 k1
  have k2 := hM1.mkr.sets (v := .int .u64 0) 8192 265 (by omega)
  have hM2 := hM1.mks (cu' := fun _ => false) (bh' := fun _ => zeroW) k2.2 (k2.1.congr (fun i _ => by
    unfold mkG
    by_cases h1 : i < 8
    · rw [if_neg (by omega), if_pos h1, if_pos h1]
    · rw [if_neg h1, if_neg h1]
      by_cases h2 : i < 265
      · rw [if_neg (by omega), if_pos h2, if_pos h2]
      · rw [if_pos (by omega), if_neg h2]
        rfl))
  have hcl2 := run_clear_rep (P := Try.prog) W1 69 74 0 _ (.int .u64 0) 32 Try.underlying69 zero_wset rfl (by decide) rfl L.mb 265 256 256 (by decide) (fun j hj => by rw [hM1.mkr.cell (by omega)]; rfl) (fun j hj => hM1.mkr.frozen _)
  obtain ⟨W2, hW2⟩ : ∃ W2, Hid (W1.setCells L.mb 265 (List.replicate 8192 (.int .u64 0)) = W2) := ⟨_, Lib.hid rfl⟩
  have e8192 : 256 * 32 = 8192 := rfl
  rw [e8192, hW2.out] at hcl2
  rw [hW2.out] at hM2 k2
  have HK2 : Hid (KpM (fun g => g = L.cb ∨ g = L.mb) w W2) := Lib.hid (((KpM.refl w).step k1.2 (fun g e => .inl (.inr (by injection e with e; exact e.symm)))).step k2.2 (fun g e => .inl (.inr (by injection e with e; exact e.symm))))
  have HM2 := Lib.hid hM2
  have HF2 := Lib.hid ((hf.grown k1.2 (fun e => hbm (by injection e))).grown k2.2 (fun e => hbm (by injection e)))
  have hlw := h.mkr.lt
  have hlW1 := hM1.mkr.lt
  have hlW2 := hM2.mkr.lt
  have Hy := Lib.hid hy
  have He := Lib.hid he
  have HI1 := Lib.hid hi1
  have Htot := Lib.hid htot
  have Hmv := Lib.hid hmv
  have x4 := hM2.mkr.cell (j := 4) (by omega)
  simp only [mkG, Nat.reduceLT, if_true, List.getD_cons_zero, List.getD_cons_succ] at x4
  clear h k1 k2 hM1 hM2 hf hy he hi1 htot hmv e257 e8192
  go_enter Try.func56, Try.ntmps56
  go_wp2_with (simp only [hcl1, hcl2])
  obtain ⟨B0, hB0⟩ : ∃ B, Hid (W2.heap.size = B) := ⟨_, Lib.hid rfl⟩
  have HbB : Hid (b < B0) := Lib.hid (by rw [← hB0.out]; exact World.block_lt_of_cell? _ _ (HF2.out 0 (by omega)))
  have HmB : Hid (L.M1 ≤ B0 ∧ ∀ g, (Value.slice sa all.length sc).ownBlock = some g → g < B0) := Lib.hid ⟨by rw [← hB0.out]; exact HM2.out.m1, fun g e => by
    obtain ⟨_, cur, h2⟩ := own_typD HM2.out.sets g e
    rw [← hB0.out]
    exact (Array.getElem?_eq_some_iff.1 h2).1⟩
  clear x4
  go_loopw [4, 24] (fun av iv wr => ∃ (k N : Nat) (a : Option Addr) (c : Nat), k ≤ L.n ∧ iv = .int .i64 (k : Int) ∧ av = .slice a N c ∧ Hid ((allM L.lds f k).length = N) ∧ Hid (wr.ownsRow B0 57 3 (.slice a N c) N ((allM L.lds f k).flatMap Mv.cells)) ∧ Hid (MkrAt w0 wr L cl (fun _ => false) (fun _ => zeroW) all sa sc) ∧ Hid (KpM (fun g => g = L.cb ∨ g = L.mb) w wr) ∧ Hid (Wd32 wr b off f) ∧ Hid (B0 ≤ wr.heap.size) ∧ Hid (w.heap.size ≤ B0)) (fun _ iv _ => L.n - (intOf iv).toNat)
  case atStart =>
    exact ⟨0, 0, none, 0, Nat.zero_le _, rfl, rfl, Lib.hid rfl, Lib.hid ⟨rfl, .inl ⟨rfl, rfl⟩⟩, HM2, HK2, HF2, Lib.hid (by rw [hB0.out]; exact Nat.le_refl _), Lib.hid (by rw [← hB0.out]; exact HK2.out.size)⟩
  case round =>
    obtain ⟨k, N, a, c, hk, rfl, rfl, hN, HO, HM, HK, HF, HBz, HwB⟩ := hrel
    have hkI0 : (0 : Int) ≤ (k : Int) := by omega
    by_cases hlt : k < L.n
    · have hkI : (k : Int) < (L.n : Int) := by omega
      have hkl : k < L.lds.length := by rw [hl]; exact hlt
      have x := HM.out.lb.cell hlt
      have xl := HM.out.lb.lt
      unfold ldG at x
      have hdm : L.lds.getD k ⟨[], none, 0⟩ ∈ L.lds := by
        rw [List.getD_eq_getElem?_getD, List.getElem?_eq_getElem hkl]
        exact List.getElem_mem hkl
      obtain ⟨d, hd⟩ : ∃ d, Hid (L.lds.getD k ⟨[], none, 0⟩ = d) := ⟨_, Lib.hid rfl⟩
      rw [hd.out] at x hdm
      have HOd := Lib.hid (HM.out.ld d hdm).1
      have Hh := Lib.hid (has32_any wr b off f k (by omega) HF.out)
      have hdc := ownW_le HOd.out
      obtain ⟨q, hq⟩ : ∃ q, Hid (hasW f k = q) := ⟨_, Lib.hid rfl⟩
      rw [hq.out] at Hh
      have ha := ownW_le HO.out
      clear hdm
      cases q
      case false =>
        have e1 : Hid (allM L.lds f (k + 1) = allM L.lds f k) := Lib.hid (by rw [allM_succ, hq.out]; simp)
        go_wp2_with (fail)
        refine Hh.out.mono ?_
        rintro e V4 ⟨rfl, hV4⟩
        subst V4
        go_wp2_with (fail)
        exact ⟨⟨k + 1, N, a, c, by omega, by simp, rfl, Lib.hid (by rw [e1.out, hN.out]), Lib.hid (by rw [e1.out]; exact HO.out), HM, HK, HF, HBz, HwB⟩, by simp [intOf]; omega⟩
      case true =>
        have e1 : Hid (allM L.lds f (k + 1) = allM L.lds f k ++ d.l) := Lib.hid (by rw [allM_succ, hq.out, hd.out]; simp)
        have HN : Hid (N + d.l.length ≤ 1000000) := Lib.hid (by
          have := Htot.out (k + 1)
          rw [e1.out, List.length_append, hN.out] at this
          exact this)
        obtain ⟨a', c', w', hrun, ho', hg', hb'⟩ := run_appM wr 58 d HO.out HOd.out HN.out HBz.out
        have Hrun := Lib.hid hrun
        have Ho' := Lib.hid ho'
        have hrow : ∀ g, (Value.slice a N c).ownBlock = some g → B0 ≤ g := fun g e => (own_typD HO.out g e).1
        have HM' := Lib.hid (HM.out.keep hg' (fun g e => ⟨by have := hrow g e; have := HmB.out.1; omega, fun e0 => by have := hrow g e; have := HmB.out.2 g e0; omega⟩))
        have HK' := Lib.hid (HK.out.step hg' (fun g e => .inr (by have := hrow g e; have := HwB.out; omega)))
        have HF' := Lib.hid (HF.out.grown hg' (fun e => by have := hrow b e.symm; have := HbB.out; omega))
        have HB' : Hid (B0 ≤ w'.heap.size) := Lib.hid (Nat.le_trans HBz.out hg'.size)
        clear hrun ho' hg' hrow hb'
        go_wp2_with (fail)
        refine Hh.out.mono ?_
        rintro e V4 ⟨rfl, hV4⟩
        subst V4
        go_wp2_with (at_builtin; refine wpList_append_run rfl _ _ 58 58 rfl _ _ _ _ rfl rfl Hrun.out ?_)
        exact ⟨⟨k + 1, N + d.l.length, a', c', by omega, by simp, rfl, Lib.hid (by rw [e1.out, List.length_append, hN.out]), Lib.hid (by rw [e1.out, List.flatMap_append]; exact Ho'.out), HM', HK', HF', HB', HwB⟩, by simp [intOf]; omega⟩
    · obtain rfl : k = L.n := by omega
      obtain ⟨P, hP⟩ : ∃ P, Hid (allM L.lds f L.n = P) := ⟨_, Lib.hid rfl⟩
      rw [hP.out] at hN HO
      have hac := ownW_le HO.out
      have HPm : Hid (∀ m ∈ P, m.lo < 256 ∧ m.hi < 256 ∧ ∃ t : Nat, m.to = (t : Int) ∧ t < L.n) := Lib.hid (fun m hm => by
        rw [← hP.out] at hm
        obtain ⟨s, hs, hm⟩ := List.mem_flatMap.1 hm
        have hs' : s < L.lds.length := by rw [hl]; exact List.mem_range.1 hs
        split at hm
        · rw [List.getD_eq_getElem?_getD, List.getElem?_eq_getElem hs'] at hm
          exact Hmv.out _ (List.getElem_mem hs') m hm
        · simp at hm)
      have HNm : Hid (N ≤ 1000000) := Lib.hid (by rw [← hN.out, ← hP.out]; exact Htot.out _)
      clear Htot Hmv HF
      go_wp2_with (fail)
      go_loopw [38] (fun iv w2 => ∃ (k : Nat) (cu' : Nat → Bool), k ≤ N ∧ iv = .int .i64 (k : Int) ∧ Hid (CutI cu' (P.take k)) ∧ Hid (w2.ownsRow B0 57 3 (.slice a N c) N (P.flatMap Mv.cells)) ∧ Hid (MkrAt w0 w2 L cl cu' (fun _ => zeroW) all sa sc) ∧ Hid (KpM (fun g => g = L.cb ∨ g = L.mb) w w2) ∧ Hid (B0 ≤ w2.heap.size)) (fun iv _ => N - (intOf iv).toNat)
      case atStart =>
        exact ⟨0, fun _ => false, Nat.zero_le _, rfl, Lib.hid (fun c _ => by simp), HO, HM, HK, HBz⟩
      case round =>
        obtain ⟨k, cu', hk, rfl, HC, HO2, HM2', HK2', HBz2⟩ := hrel
        have hkI0 : (0 : Int) ≤ (k : Int) := by omega
        by_cases hlt : k < N
        · have hkI : (k : Int) < (N : Int) := by omega
          have hkl : k < P.length := by rw [hN.out]; exact hlt
          obtain ⟨g, rfl, hgB⟩ := own_some HO2.out (by omega)
          obtain ⟨m, hm⟩ : ∃ m, Hid (P[k] = m) := ⟨_, Lib.hid rfl⟩
          obtain ⟨c0, c1, c2⟩ := row_move HO2.out hkl
          rw [hm.out] at c0 c1 c2
          have hmm := HPm.out m (by rw [← hm.out]; exact List.getElem_mem hkl)
          obtain ⟨lo, hi, tt⟩ := m
          dsimp only at c0 c1 c2 hmm
          obtain ⟨hlo, hhi, t, rfl, htl⟩ := hmm
          have bl := World.block_lt_of_cell? _ _ c0
          have hb1 : Below wr.heap.size wr (wr.alloc (.cells #[.int .u8 (lo : Int), .int .u8 (hi : Int), .int .i64 (t : Int)] 57)) := (Below.refl _ wr).alloc (Nat.le_refl _) _
          have hMv := (HM2'.out.below hb1).below (Below.refl _ _).drew
          have hXm : L.mb ≠ wr.heap.size := by have := HM2'.out.mkr.lt; omega
          have hbx := Blk.new wr 57 #[.int .u8 (lo : Int), .int .u8 (hi : Int), .int .i64 (t : Int)]
          have hov := own_grow HO2.out hb1
          have hKv := HK2'.out.trans (KpM.ofB hb1)
          obtain ⟨V, hV⟩ : ∃ V, Hid (wr.alloc (.cells #[.int .u8 (lo : Int), .int .u8 (hi : Int), .int .i64 (t : Int)] 57) = V) := ⟨_, Lib.hid rfl⟩
          obtain ⟨X, hX⟩ : ∃ X, Hid (wr.heap.size = X) := ⟨_, Lib.hid rfl⟩
          rw [hV.out] at hMv hbx hov hKv hb1
          rw [hX.out] at hbx hXm
          have HS : Hid (V.drew.cell? ⟨X, 0, none⟩ = some (.int .u8 (lo : Int)) ∧ V.drew.cell? ⟨X, 1, none⟩ = some (.int .u8 (hi : Int))) := Lib.hid ⟨hbx.cell 0, hbx.cell 1⟩
          have hloI : (lo : Int) < 257 := by omega
          have hhiI : (hi : Int) + 1 < 257 := by omega
          have hhiI0 : (0 : Int) ≤ (hi : Int) + 1 := by omega
          have hhiN : ((hi : Int) + 1).toNat = hi + 1 := by omega
          have hw1 : IntKind.i64.wrap (IntKind.i64.wrap (hi : Int) + 1) = (hi : Int) + 1 := by
            have hw0 : IntKind.i64.wrap (hi : Int) = (hi : Int) := by rw [IntKind.wrap_i64]; omega
            rw [hw0, IntKind.wrap_i64]; omega
          have z1 := hMv.mkr.cell (j := 8 + lo) (by omega)
          have f1 := hMv.mkr.frozen (8 + lo)
          rw [mkG_cut L _ _ _ _ _ (by omega)] at z1
          have zl := hMv.mkr.lt
          have hMv1 := hMv.mks (cu' := fun d => if d = lo then true else cu' d) (bh' := fun _ => zeroW) (grownBy_set V.drew L.mb (8 + lo) (.bool true)) ((hMv.mkr.set (j := 8 + lo) (by omega) (.bool true)).congr (fun i _ => mkG_setc L _ _ _ _ _ (by omega) true i))
          have hK1 := hKv.trans ((KpM.ofB (Below.refl _ V).drew).step (grownBy_set V.drew L.mb (8 + lo) (.bool true)) (fun g e => .inl (.inr (by injection e with e; exact e.symm))))
          have hg1 := grownBy_set V.drew L.mb (8 + lo) (.bool true)
          have HS1 := Lib.hid (And.intro (cell_kept hg1 HS.out.1 (fun e => hXm (by injection e with e; exact e.symm))) (cell_kept hg1 HS.out.2 (fun e => hXm (by injection e with e; exact e.symm))))
          have hov1 := (own_grow hov (Below.refl _ V).drew)
          have hgm : ∀ g, (Value.slice (some ⟨g, 0, none⟩ : Option Addr) N c).ownBlock = some g := fun g => rfl
          have hmg : L.mb < B0 := by have := HmB.out.1; have := HM2'.out.hi.1; omega
          have hov1 := own_keptD hov1 hg1 (fun g e e0 => by have := (own_typD hov1 g e0).1; injection e with e; omega)
          obtain ⟨V1, hV1⟩ : ∃ V1, Hid ((V.setCell ⟨L.mb, 8 + lo, none⟩ (.bool true)).drew = V1) := ⟨_, Lib.hid rfl⟩
          rw [show V.drew.setCell ⟨L.mb, 8 + lo, none⟩ (.bool true) = (V.setCell ⟨L.mb, 8 + lo, none⟩ (.bool true)).drew from rfl, hV1.out] at hMv1 hK1 HS1 hov1 hg1
          have z2 := hMv1.mkr.cell (j := 8 + (hi + 1)) (by omega)
          have f2 := hMv1.mkr.frozen (8 + (hi + 1))
          rw [mkG_cut L _ _ _ _ _ (by omega)] at z2
          have zl2 := hMv1.mkr.lt
          have hg2 := grownBy_set V1 L.mb (8 + (hi + 1)) (.bool true)
          have HMv2 := Lib.hid (hMv1.mks (cu' := fun d => if d = hi + 1 then true else if d = lo then true else cu' d) (bh' := fun _ => zeroW) hg2 ((hMv1.mkr.set (j := 8 + (hi + 1)) (by omega) (.bool true)).congr (fun i _ => mkG_setc L _ _ _ _ _ (by omega) true i)))
          have HK2b := Lib.hid (hK1.step hg2 (fun g e => .inl (.inr (by injection e with e; exact e.symm))))
          have HS2 := Lib.hid (And.intro (cell_kept hg2 HS1.out.1 (fun e => hXm (by injection e with e; exact e.symm))) (cell_kept hg2 HS1.out.2 (fun e => hXm (by injection e with e; exact e.symm))))
          have Hov2 := Lib.hid (own_keptD hov1 hg2 (fun g e e0 => by have := (own_typD hov1 g e0).1; injection e with e; omega))
          have HBn : Hid (B0 ≤ (V1.setCell ⟨L.mb, 8 + (hi + 1), none⟩ (.bool true)).heap.size) := Lib.hid (Nat.le_trans HBz2.out (Nat.le_trans hb1.size (Nat.le_trans hg1.size hg2.size)))
          have HC2 : Hid (CutI (fun d => if d = hi + 1 then true else if d = lo then true else cu' d) (P.take (k + 1))) := Lib.hid (by
            rw [List.take_add_one, List.getElem?_eq_getElem hkl, hm.out]
            exact cutI_add HC.out)
          clear hMv hMv1 hbx hov hov1 hKv hK1 hg1 hg2 hb1 hgm
          go_wp2_with (fail)
          rw [hV.out, hX.out]
          refine wp_region_held_drew (S := fun w' => (w'.cell? ⟨X, 0, none⟩ = some (.int .u8 (lo : Int)) ∧ w'.cell? ⟨X, 1, none⟩ = some (.int .u8 (hi : Int)))) (by kernel_rfl) ?_ (fun hHeld => ?_)
          · exact HS.out
          refine wpAnyH_take (i := 0) (v := ?_) (gatL gatZ) (by kernel_rfl) (by kernel_rfl) (by kernel_rfl) (fun _ _ _ h => h) (Or.inl ⟨by rfl, ?_⟩) (by assumption) ?_
          rotate_left
          · intro w hSw
            try dsimp only at hSw
            go_simp
            all_goals with_reducible rfl
          try simp only [Act.put, List.setIfInBounds_toArray, List.set_cons_zero, List.set_cons_succ]
          refine wpAnyH_take (i := 1) (v := ?_) (gatL (gatS gatZ)) (by kernel_rfl) (by kernel_rfl) (by kernel_rfl) (fun _ _ _ h => h) (Or.inl ⟨by rfl, ?_⟩) (by assumption) ?_
          rotate_left
          · intro w hSw
            try dsimp only at hSw
            go_simp
            all_goals with_reducible rfl
          try simp only [Act.put, List.setIfInBounds_toArray, List.set_cons_zero, List.set_cons_succ]
          refine wpAnyH_take (i := 2) (v := ?_) (gatL (gatS (gatS gatZ))) (by kernel_rfl) (by kernel_rfl) (by kernel_rfl) (fun _ _ _ h => h) (Or.inl ⟨by rfl, ?_⟩) (by assumption) ?_
          rotate_left
          · intro w hSw
            try dsimp only at hSw
            go_simp
            all_goals with_reducible rfl
          try simp only [Act.put, List.setIfInBounds_toArray, List.set_cons_zero, List.set_cons_succ]
          refine wpAnyH_take (i := 3) (v := ?_) (gatL (gatS (gatS (gatS gatZ)))) (by kernel_rfl) (by kernel_rfl) (by kernel_rfl) (fun _ _ _ h => h) (Or.inl ⟨by rfl, ?_⟩) (by assumption) ?_
          rotate_left
          · intro w hSw
            try dsimp only at hSw
            go_simp
            all_goals with_reducible rfl
          try simp only [Act.put, List.setIfInBounds_toArray, List.set_cons_zero, List.set_cons_succ]
          refine wpAnyH_take (i := 4) (v := ?_) (gatL (gatS (gatS (gatS (gatS gatZ))))) (by kernel_rfl) (by kernel_rfl) (by kernel_rfl) (fun _ _ _ h => h) (Or.inl ⟨by rfl, ?_⟩) (by assumption) ?_
          rotate_left
          · intro w hSw
            try dsimp only at hSw
            go_simp
            all_goals with_reducible rfl
          try simp only [Act.put, List.setIfInBounds_toArray, List.set_cons_zero, List.set_cons_succ]
          refine wpAnyH_take (i := 5) (v := ?_) (gatL (gatS (gatS (gatS (gatS (gatS gatZ)))))) (by kernel_rfl) (by kernel_rfl) (by kernel_rfl) (fun _ _ _ h => h) (Or.inl ⟨by rfl, ?_⟩) (by assumption) ?_
          rotate_left
          · intro w hSw
            try dsimp only at hSw
            go_simp
            all_goals with_reducible rfl
          try simp only [Act.put, List.setIfInBounds_toArray, List.set_cons_zero, List.set_cons_succ]
          refine wpAnyH_take (i := 6) (v := ?_) (gatL (gatS (gatS (gatS (gatS (gatS (gatS gatZ))))))) (by kernel_rfl) (by kernel_rfl) (by kernel_rfl) (fun _ _ _ h => h) (Or.inl ⟨by rfl, ?_⟩) (by assumption) ?_
          rotate_left
          · intro w hSw
            try dsimp only at hSw
            go_simp
            all_goals with_reducible rfl
          try simp only [Act.put, List.setIfInBounds_toArray, List.set_cons_zero, List.set_cons_succ]
          refine wpAnyH_take (i := 7) (v := ?_) (gatL (gatS (gatS (gatS (gatS (gatS (gatS (gatS gatZ)))))))) (by kernel_rfl) (by kernel_rfl) (by kernel_rfl) (fun _ _ _ h => h) (Or.inl ⟨by rfl, ?_⟩) (by assumption) ?_
          rotate_left
          · intro w hSw
            try dsimp only at hSw
            go_simp
            all_goals with_reducible rfl
          try simp only [Act.put, List.setIfInBounds_toArray, List.set_cons_zero, List.set_cons_succ]
          refine wpAnyH_take (i := 8) (v := ?_) (gatL (gatS (gatS (gatS (gatS (gatS (gatS (gatS (gatS gatZ))))))))) (by kernel_rfl) (by kernel_rfl) (by kernel_rfl) (fun _ _ _ h => h) (Or.inl ⟨by rfl, ?_⟩) (by assumption) ?_
          rotate_left
          · intro w hSw
            try dsimp only at hSw
            go_simp
            all_goals with_reducible rfl
          try simp only [Act.put, List.setIfInBounds_toArray, List.set_cons_zero, List.set_cons_succ]
          refine wpAnyH_take (i := 9) (v := ?_) (gatL (gatS (gatS (gatS (gatS (gatS (gatS (gatS (gatS (gatS gatZ)))))))))) (by kernel_rfl) (by kernel_rfl) (by kernel_rfl) (fun _ _ _ h => h) (Or.inl ⟨by rfl, ?_⟩) (by assumption) ?_
          rotate_left
          · intro w hSw
            try dsimp only at hSw
            go_simp
            all_goals with_reducible rfl
          try simp only [Act.put, List.setIfInBounds_toArray, List.set_cons_zero, List.set_cons_succ]
          refine wpAnyH_take (i := 10) (v := ?_) (gatL (gatS (gatS (gatS (gatS (gatS (gatS (gatS (gatS (gatS (gatS gatZ))))))))))) (by kernel_rfl) (by kernel_rfl) (by kernel_rfl) (fun _ _ _ h => h) (Or.inl ⟨by rfl, ?_⟩) (by assumption) ?_
          rotate_left
          · intro w hSw
            try dsimp only at hSw
            go_simp
            all_goals with_reducible rfl
          try simp only [Act.put, List.setIfInBounds_toArray, List.set_cons_zero, List.set_cons_succ]
          refine wpAnyH_take (i := 12) (v := ?_) (gatL (gatS (gatS (gatS (gatS (gatS (gatS (gatS (gatS (gatS (gatS (gatS (gatS gatZ))))))))))))) (by kernel_rfl) (by kernel_rfl) (by kernel_rfl) (fun _ _ _ h => h) (Or.inl ⟨by rfl, ?_⟩) (by assumption) ?_
          rotate_left
          · intro w hSw
            try dsimp only at hSw
            go_simp
            all_goals with_reducible rfl
          try simp only [Act.put, List.setIfInBounds_toArray, List.set_cons_zero, List.set_cons_succ]
          refine wpAnyH_take (i := 13) (v := ?_) (gatL (gatS (gatS (gatS (gatS (gatS (gatS (gatS (gatS (gatS (gatS (gatS (gatS (gatS gatZ)))))))))))))) (by kernel_rfl) (by kernel_rfl) (by kernel_rfl) (fun _ _ _ h => h) (Or.inl ⟨by rfl, ?_⟩) (by assumption) ?_
          rotate_left
          · intro w hSw
            try dsimp only at hSw
            go_simp
            all_goals with_reducible rfl
          try simp only [Act.put, List.setIfInBounds_toArray, List.set_cons_zero, List.set_cons_succ]
          refine wpAnyH_ready (rs := [11]) (by kernel_rfl) (by simp) ?_
          refine AllReadyH.cons (gatL (gatS (gatS (gatS (gatS (gatS (gatS (gatS (gatS (gatS (gatS (gatS gatZ)))))))))))) (fun K hK => ?_) AllReadyH.nil
          go_simp
          rw [hV1.out]
          refine hK.out _ _ ?_ (fun hHeld => ?_)
          · exact HS1.out
          clear hK K
          try simp only [Act.put, List.setIfInBounds_toArray, List.set_cons_zero, List.set_cons_succ]
          refine wpAnyH_take (i := 14) (v := ?_) (gatL (gatS (gatS (gatS (gatS (gatS (gatS (gatS (gatS (gatS (gatS (gatS (gatS (gatS (gatS gatZ))))))))))))))) (by kernel_rfl) (by kernel_rfl) (by kernel_rfl) (fun _ _ _ h => h) (Or.inl ⟨by rfl, ?_⟩) (by assumption) ?_
          rotate_left
          · intro w hSw
            try dsimp only at hSw
            go_simp
            all_goals with_reducible rfl
          try simp only [Act.put, List.setIfInBounds_toArray, List.set_cons_zero, List.set_cons_succ]
          refine wpAnyH_ready (rs := [15]) (by kernel_rfl) (by simp) ?_
          refine AllReadyH.cons (gatL (gatS (gatS (gatS (gatS (gatS (gatS (gatS (gatS (gatS (gatS (gatS (gatS (gatS (gatS (gatS gatZ)))))))))))))))) (fun K hK => ?_) AllReadyH.nil
          go_simp
          refine hK.out _ _ ?_ (fun hHeld => ?_)
          · exact HS2.out
          clear hK K
          try simp only [Act.put, List.setIfInBounds_toArray, List.set_cons_zero, List.set_cons_succ]
          refine wpAnyH_done (by kernel_rfl) ?_ _
          go_wp2_with (fail)
          exact ⟨⟨k + 1, _, by omega, by simp, HC2, Hov2, HMv2, HK2b, HBn⟩, by simp [intOf]; omega⟩
        · obtain rfl : N = k := by omega
          have HC3 : Hid (CutI cu' P) := Lib.hid (by
            have := HC.out
            rw [List.take_of_length_le (by rw [hN.out]; exact Nat.le_refl _)] at this
            exact this)
          clear HO HM HK HC HBz
          go_wp2_with (fail)
          go_loopw [59] (fun iv w3 => ∃ (k : Nat) (cl' : Nat → WSet) (bh' : Nat → WSet), k ≤ N ∧ iv = .int .i64 (k : Int) ∧ Hid (ClN L.y L.n cl') ∧ Hid (BhA L.y cu' bh' (P.take k)) ∧ Hid (w3.ownsRow B0 57 3 (.slice a N c) N (P.flatMap Mv.cells)) ∧ Hid (MkrAt w0 w3 L cl' cu' bh' all sa sc) ∧ Hid (KpM (fun g => g = L.cb ∨ g = L.mb) w w3) ∧ Hid (B0 ≤ w3.heap.size)) (fun iv _ => N - (intOf iv).toNat)
          case atStart =>
            exact ⟨0, cl, fun _ => zeroW, Nat.zero_le _, rfl, HI1, Lib.hid (fun c _ _ s _ => by simp [hasW, zeroW]), HO2, HM2', HK2', HBz2⟩
          case round =>
            obtain ⟨k, cl', bh', hk, rfl, HI, HB, HO3, HM3, HK3, HBz3⟩ := hrel
            have hkI0 : (0 : Int) ≤ (k : Int) := by omega
            by_cases hlt : k < N
            · have hkI : (k : Int) < (N : Int) := by omega
              have hkl : k < P.length := by rw [hN.out]; exact hlt
              obtain ⟨g, rfl, hgB⟩ := own_some HO3.out (by omega)
              obtain ⟨m, hm⟩ : ∃ m, Hid (P[k] = m) := ⟨_, Lib.hid rfl⟩
              obtain ⟨c0, c1, c2⟩ := row_move HO3.out hkl
              rw [hm.out] at c0 c1 c2
              have hmm := HPm.out m (by rw [← hm.out]; exact List.getElem_mem hkl)
              obtain ⟨lo, hi, tt⟩ := m
              dsimp only at c0 c1 c2 hmm
              obtain ⟨hlo, hhi, t, rfl, htl⟩ := hmm
              have bl := World.block_lt_of_cell? _ _ c0
              have hb1 : Below wr.heap.size wr (wr.alloc (.cells #[.int .u8 (lo : Int), .int .u8 (hi : Int), .int .i64 (t : Int)] 57)) := (Below.refl _ wr).alloc (Nat.le_refl _) _
              have Hl := Lib.hid (lead_any w0 _ L cl' cu' bh' all sa sc (P.take k) lo hi t (HM3.out.below hb1) Hy.out He.out HI.out hlo hhi htl HB.out)
              have Hov := Lib.hid (own_grow HO3.out hb1)
              have HKv := Lib.hid (HK3.out.trans (KpM.ofB hb1))
              have HBv : Hid (B0 ≤ (wr.alloc (.cells #[.int .u8 (lo : Int), .int .u8 (hi : Int), .int .i64 (t : Int)] 57)).heap.size) := Lib.hid (Nat.le_trans HBz3.out hb1.size)
              clear hb1
              go_wp2_with (fail)
              refine Hl.out.mono ?_
              rintro e V6 ⟨rfl, cl2, bh2, hM6, hI6, hB6, hK6⟩
              have HM6 := Lib.hid hM6
              have HI6 := Lib.hid hI6
              have HB6 : Hid (BhA L.y cu' bh2 (P.take (k + 1))) := Lib.hid (by
                rw [List.take_add_one, List.getElem?_eq_getElem hkl, hm.out]
                exact hB6)
              have hcm : L.cb < B0 ∧ L.mb < B0 := by have := HmB.out.1; have := HM3.out.hi; omega
              have HO6 := Lib.hid (hK6.own Hov.out (fun g e e0 => by
                have := (own_typD Hov.out g e).1
                rcases e0 with e0 | e0 <;> omega))
              have HK6 := Lib.hid (HKv.out.trans hK6)
              have HB7 : Hid (B0 ≤ V6.heap.size) := Lib.hid (Nat.le_trans HBv.out hK6.size)
              clear hM6 hI6 hB6 hK6
              go_wp2_with (fail)
              exact ⟨⟨k + 1, cl2, bh2, by omega, by simp, HI6, HB6, HO6, HM6, HK6, HB7⟩, by simp [intOf]; omega⟩
            · obtain rfl : N = k := by omega
              have HF1 : Hid (BhA L.y cu' bh' P) := Lib.hid (by
                have := HB.out
                rw [List.take_of_length_le (by rw [hN.out]; exact Nat.le_refl _)] at this
                exact this)
              go_wp2_with (fail)
              exact bodyPost_end (v := .tuple #[]) (by simp [results, Try.results56, go_sem]; try rfl) rfl ⟨rfl, cl', cu', bh', HM3.out, HI.out, by rw [hP.out]; exact HC3.out, by rw [hP.out]; exact HF1.out, HK3.out⟩
end Go.Proofs.Ytngbfjimmdkfeaa

namespace Go.Proofs.Ytngbfjimmdkfeaa
open Go.RowKit Go.Shelf Go.Maps

attribute [local go_sem] Oper.semAt_some

/-- A byte's move behind others. -/
def pushM (l : List Mv) (c : Nat) (tq : Int) : List Mv := if tq = -1 then l else match l.getLast? with
  | some m => if m.to = tq ∧ m.hi + 1 = c then l.dropLast ++ [⟨m.lo, c, tq⟩] else l ++ [⟨c, c, tq⟩]
  | none => [⟨c, c, tq⟩]
/-- The sets, the moves, and where the bytes lead, up tq a byte. -/
def movP (cu : Nat → Bool) (bh : Nat → WSet) (all : List WSet) : Nat → List WSet × List Mv × Int
  | 0 => (all, [], -1)
  | c + 1 => (if cu c then fall (movP cu bh all c).1 (bh c) else (movP cu bh all c).1, pushM (movP cu bh all c).2.1 c (if cu c then fidx (movP cu bh all c).1 (bh c) else (movP cu bh all c).2.2), if cu c then fidx (movP cu bh all c).1 (bh c) else (movP cu bh all c).2.2)
theorem kq_trans {L : MkL} {v v2 : Value} {w a b : World} (h : KpM (MkQ L v) w a) (k : KpM (MkQ L v2) a b) (hv : ∀ g, v2.ownBlock = some g → v.ownBlock = some g ∨ w.heap.size ≤ g) : KpM (MkQ L v) w b := by
  have : ∀ {x : World}, KpM (MkQ L v2) a x → KpM (MkQ L v) w x := fun {x} k => by
    induction k with
    | refl => exact h
    | step k hg hr ih =>
      refine .step ih hg (fun g e => ?_)
      rcases hr g e with (h1 | h1) | h1
      · exact .inl (.inl h1)
      · exact (hv g h1).imp .inr id
      · exact .inr (Nat.le_trans h.size h1)
  exact this k
theorem fall_len (all : List WSet) (f : WSet) : all.length ≤ (fall all f).length ∧ (fall all f).length ≤ all.length + 1 := by
  unfold fall
  split
  · omega
  · split
    · omega
    · rw [List.length_append]
      simp
theorem push_none (l : List Mv) (c : Nat) : pushM l c (-1) = l := by unfold pushM; rw [if_pos rfl]
theorem push_nil (c : Nat) {tq : Int} (h : tq ≠ -1) : pushM [] c tq = [⟨c, c, tq⟩] := by unfold pushM; rw [if_neg h]; rfl
theorem push_more (l : List Mv) (m : Mv) {c : Nat} {tq : Int} (h : tq ≠ -1) (h2 : m.to = tq ∧ m.hi + 1 = c) : pushM (l ++ [m]) c tq = l ++ [⟨m.lo, c, tq⟩] := by
  unfold pushM
  rw [if_neg h, List.getLast?_concat]
  dsimp only
  rw [if_pos h2, List.dropLast_concat]
theorem push_new (l : List Mv) (m : Mv) {c : Nat} {tq : Int} (h : tq ≠ -1) (h2 : ¬ (m.to = tq ∧ m.hi + 1 = c)) : pushM (l ++ [m]) c tq = l ++ [m] ++ [⟨c, c, tq⟩] := by
  unfold pushM
  rw [if_neg h, List.getLast?_concat]
  dsimp only
  rw [if_neg h2]
theorem own_setc {w : World} {base e size g n cap : Nat} {xs : List Value} (h : w.ownsRow base e size (.slice (some ⟨g, 0, none⟩) n cap) n xs) (j : Nat) (v : Value) : (w.setCell ⟨g, j, none⟩ v).ownsRow base e size (.slice (some ⟨g, 0, none⟩) n cap) n (xs.set j v) := by
  refine ⟨by rw [List.length_set]; exact h.1, ?_⟩
  rcases h.2 with ⟨e1, _⟩ | ⟨g', cp, cur, e1, hb, hk, hnc, hcm, hcs, htk⟩
  · cases e1
  · injection e1 with e1 e2 e3
    have e4 : g = g' := by simpa using e1
    subst e4
    obtain ⟨hlt, hk'⟩ := Array.getElem?_eq_some_iff.1 hk
    refine .inr ⟨g, cap, cur.setIfInBounds j v, rfl, hb, ?_, by omega, by omega, by rw [Array.size_setIfInBounds, hcs, e3], ?_⟩
    · show (w.heap.modify g _)[g]? = _
      rw [Array.getElem?_eq_getElem (by rw [Array.size_modify]; exact hlt), Array.getElem_modify_self, hk']
      simp
    · rw [Array.toList_setIfInBounds, List.take_set, htk]
theorem own_frozen {w : World} {base e size g n cap j : Nat} {xs : List Value} (h : w.ownsRow base e size (.slice (some ⟨g, 0, none⟩) n cap) n xs) : w.frozen? ⟨g, j, none⟩ = false := by
  obtain ⟨_, cur, h2⟩ := own_typD h g rfl
  simp [World.frozen?, h2]
theorem cells_set (l : List Mv) (m : Mv) (c : Nat) : ((l ++ [m]).flatMap Mv.cells).set (l.length * 3 + 1) (.int .u8 (c : Int)) = (l ++ [(⟨m.lo, c, m.to⟩ : Mv)]).flatMap Mv.cells := by
  rw [List.flatMap_append, List.flatMap_append, List.set_append_right _ _ (by rw [cells_len]; omega), cells_len, show l.length * 3 + 1 - l.length * 3 = 1 by omega]
  simp [Mv.cells]

set_option maxRecDepth 100000 in
set_option maxHeartbeats 8000000 in
theorem moves_any (w0 w : World) (L : MkL) (cl : Nat → WSet) (cu : Nat → Bool) (bh : Nat → WSet) (all : List WSet) (sa : Option Addr) (sc b off : Nat) (f : WSet) (h : MkrAt w0 w L cl cu bh all sa sc) (hy : linkB L.y = true) (he : L.es.length ≤ 500000) (hi1 : ClN L.y L.n cl)
    (hf : Wd32 w b off f) (hbm : b ≠ L.mb) (hl : L.lds.length = L.n) (hmv : ∀ d ∈ L.lds, ∀ m ∈ d.l, m.lo < 256 ∧ m.hi < 256 ∧ ∃ t : Nat, m.to = (t : Int) ∧ t < L.n) (htot : ∀ i, (allM L.lds f i).length ≤ 1000000) (hal : all.length ≤ 2000) :
    Calls Try.prog 33 #[.pointer (some ⟨L.mb, 0, none⟩), .pointer (some ⟨b, off, none⟩)] w fun e w' => ∃ cl' cu' bh' all' ml tq sa' sc' a c, e = .returned (.slice a ml.length c) ∧ movP cu' bh' all 256 = (all', ml, tq) ∧ w'.ownsRow w.heap.size 57 3 (.slice a ml.length c) ml.length (ml.flatMap Mv.cells) ∧ MkrAt w0 w' L cl' cu' bh' all' sa' sc' ∧ ClN L.y L.n cl' ∧ CutI cu' (allM L.lds f L.n) ∧ BhA L.y cu' bh' (allM L.lds f L.n) ∧ KpM (MkQ L (.slice sa all.length sc)) w w' ∧
      (∀ g, (Value.slice sa' all'.length sc').ownBlock = some g → (Value.slice sa all.length sc).ownBlock = some g ∨ w.heap.size ≤ g) ∧ (∀ g, (Value.slice a ml.length c).ownBlock = some g → (Value.slice sa' all'.length sc').ownBlock ≠ some g) := by
  have Hst := Lib.hid (dstep_any w0 w L cl cu bh all sa sc b off f h hy he hi1 hf hbm hl hmv htot)
  have HM1 : Hid (L.M1 ≤ w.heap.size) := Lib.hid h.m1
  clear h hy he hi1 hf hmv htot
  go_enter Try.func33, Try.ntmps33
  go_wp2_with (fail)
  refine Hst.out.mono ?_
  rintro e w1 ⟨rfl, cl', cu', bh', hM, hI, hC, hB, hK⟩
  obtain ⟨B, hB0⟩ : ∃ B, Hid (w.heap.size = B) := ⟨_, Lib.hid rfl⟩
  have HMs := Lib.hid hM
  have HI := Lib.hid hI
  have HC := Lib.hid hC
  have HB := Lib.hid hB
  have HK0 : Hid (KpM (MkQ L (.slice sa all.length sc)) w w1) := Lib.hid (hK.mono (fun g e => .inl (by
    have := hM.hi
    rcases e with e | e <;> omega)))
  clear hM hI hC hB hK Hst
  go_wp2_with (fail)
  go_loopw [5, 6, 12] (fun lv tv iv wr => ∃ (k N : Nat) (a : Option Addr) (c : Nat) (tq : Int) (all' : List WSet) (sa' : Option Addr) (sc' : Nat) (ml : List Mv), k ≤ 256 ∧ iv = .int .i64 (k : Int) ∧ lv = .slice a N c ∧ tv = .int .i64 tq ∧ Hid (movP cu' bh' all k = (all', ml, tq)) ∧ Hid (ml.length = N ∧ N ≤ k ∧ all'.length ≤ all.length + k ∧ ∀ m ∈ ml, m.lo < 256 ∧ m.hi < 256) ∧ Hid (wr.ownsRow B 57 3 (.slice a N c) N (ml.flatMap Mv.cells)) ∧ Hid (MkrAt w0 wr L cl' cu' bh' all' sa' sc') ∧ Hid (KpM (MkQ L (.slice sa all.length sc)) w wr) ∧
    Hid ((∀ g, (Value.slice sa' all'.length sc').ownBlock = some g → (Value.slice sa all.length sc).ownBlock = some g ∨ w.heap.size ≤ g) ∧ (∀ g, (Value.slice a N c).ownBlock = some g → (Value.slice sa' all'.length sc').ownBlock ≠ some g)) ∧ Hid (B ≤ wr.heap.size)) (fun _ _ iv _ => 256 - (intOf iv).toNat)
  case atStart =>
    exact ⟨0, 0, none, 0, -1, all, sa, sc, [], Nat.zero_le _, rfl, rfl, rfl, Lib.hid rfl, Lib.hid ⟨rfl, Nat.le_refl _, Nat.le_refl _, fun m h => by cases h⟩, Lib.hid ⟨rfl, .inl ⟨rfl, rfl⟩⟩, HMs, HK0, Lib.hid ⟨fun g e => .inl e, fun g e => by cases e⟩, Lib.hid (by rw [← hB0.out]; exact HK0.out.size)⟩
  case round =>
    obtain ⟨k, N, a, c, tq, all', sa', sc', ml, hk, rfl, rfl, rfl, HP, HN, HO, HM, HK, HR, HBz⟩ := hrel
    have hkI0 : (0 : Int) ≤ (k : Int) := by omega
    by_cases hlt : k < 256
    · have hkI : (k : Int) < 256 := by omega
      have hkI7 : (k : Int) < 257 := by omega
      have x8 := HM.out.mkr.cell (j := 8 + k) (by omega)
      rw [mkG_cut L _ _ _ _ _ (by omega)] at x8
      have xl := HM.out.mkr.lt
      obtain ⟨q, hq⟩ : ∃ q, Hid (cu' k = q) := ⟨_, Lib.hid rfl⟩
      rw [hq.out] at x8
      have HP1 : Hid (movP cu' bh' all (k + 1) = (if q then fall all' (bh' k) else all', pushM ml k (if q then fidx all' (bh' k) else tq), if q then fidx all' (bh' k) else tq)) := Lib.hid (by
        rw [movP, HP.out, hq.out])
      cases q
      case false =>
        have HP2 : Hid (movP cu' bh' all (k + 1) = (all', pushM ml k tq, tq)) := Lib.hid (by rw [HP1.out]; rfl)
        have HL2 : Hid (all'.length ≤ all.length + (k + 1)) := Lib.hid (by have := HN.out.2.2.1; omega)
        clear HP1
        by_cases hto : tq = -1
        · subst hto
          have HPn : Hid (movP cu' bh' all (k + 1) = (all', ml, -1)) := Lib.hid (by rw [HP2.out, push_none])
          go_wp2_with (fail)
          exact ⟨⟨k + 1, N, a, c, -1, all', sa', sc', ml, by omega, by simp, rfl, rfl, HPn, Lib.hid ⟨HN.out.1, by have := HN.out.2.1; omega, HL2.out, HN.out.2.2.2⟩, HO, HM, HK, HR, HBz⟩, by simp [intOf]; omega⟩
        have htb : (tq == -1) = false := by simpa using hto
        have hw2 : wrap64 ((k : Int) - 1) = (k : Int) - 1 := by unfold wrap64; omega
        have hwk : IntKind.u8.wrap (k : Int) = (k : Int) := by rw [IntKind.wrap_u8]; omega
        have hNk := HN.out.2.1
        have hac := ownW_le HO.out
        obtain ⟨g2, c2', W2, hrun, ho, hg, hlies, hlt2⟩ := run_pushL wr 58 58 57 _ 3 16 Try.underlying58 info_move rfl (by decide) [.int .u8 (k : Int), .int .u8 (k : Int), .int .i64 tq] rfl (by intro u hu; simp only [List.mem_cons, List.not_mem_nil, or_false] at hu; rcases hu with rfl | rfl | rfl <;> rfl) HO.out (by omega) (by unfold maxLen; omega) HBz.out
        have Hrun := Lib.hid hrun
        have HOn : Hid (W2.ownsRow B 57 3 (.slice (some ⟨g2, 0, none⟩) (N + 1) c2') (N + 1) ((ml ++ [(⟨k, k, tq⟩ : Mv)]).flatMap Mv.cells)) := Lib.hid (by rw [List.flatMap_append]; exact ho)
        have hrow : ∀ g, (Value.slice a N c).ownBlock = some g → B ≤ g := fun g e => (own_typD HO.out g e).1
        have HMn := Lib.hid (HM.out.keep hg (fun g e => ⟨by have := hrow g e; have := HM1.out; rw [hB0.out] at this; omega, fun e0 => HR.out.2 g e e0⟩))
        have HKn : Hid (KpM (MkQ L (.slice sa all.length sc)) w W2) := Lib.hid (HK.out.step hg (fun g e => .inr (by rw [hB0.out]; exact hrow g e)))
        have HRn : Hid ((∀ g, (Value.slice sa' all'.length sc').ownBlock = some g → (Value.slice sa all.length sc).ownBlock = some g ∨ w.heap.size ≤ g) ∧ (∀ g, (Value.slice (some ⟨g2, 0, none⟩ : Option Addr) (N + 1) c2').ownBlock = some g → (Value.slice sa' all'.length sc').ownBlock ≠ some g)) := Lib.hid ⟨HR.out.1, fun g e e0 => by
          have e2 : g2 = g := by simpa [Value.ownBlock] using e
          subst e2
          rcases hlies with h | h
          · exact HR.out.2 g2 h e0
          · obtain ⟨_, cur, h2⟩ := own_typD HM.out.sets g2 e0
            have := (Array.getElem?_eq_some_iff.1 h2).1
            omega⟩
        have HBn : Hid (B ≤ W2.heap.size) := Lib.hid (Nat.le_trans HBz.out hg.size)
        clear hrun ho hg hlies hrow hlt2
        rcases List.eq_nil_or_concat ml with hml | ⟨l0, m, hml⟩
        · have hN0 : 0 = N := by have := HN.out.1; rw [hml] at this; exact this
          subst hN0
          have HPn : Hid (movP cu' bh' all (k + 1) = (all', ml ++ [(⟨k, k, tq⟩ : Mv)], tq)) := Lib.hid (by rw [HP2.out, hml, push_nil k hto]; rfl)
          have hw0 : wrap64 (-1) = -1 := by unfold wrap64; omega
          clear hml
          go_wp2_with (at_builtin; refine wpList_append_run rfl _ _ 58 58 rfl _ _ _ _ rfl rfl Hrun.out ?_)
          exact ⟨⟨k + 1, _, some ⟨g2, 0, none⟩, c2', tq, all', sa', sc', ml ++ [(⟨k, k, tq⟩ : Mv)], by omega, by simp, rfl, rfl, HPn, Lib.hid ⟨by rw [List.length_append, HN.out.1]; rfl, by omega, HL2.out, fun m hm => by rcases List.mem_append.1 hm with h | h; exact HN.out.2.2.2 m h; rw [List.mem_singleton] at h; subst h; exact ⟨hlt, hlt⟩⟩, HOn, HMn, HKn, HRn, HBn⟩, by simp [intOf]; omega⟩
        · have hn1 : l0.length + 1 = N := by have := HN.out.1; rw [hml] at this; simpa using this
          subst hn1
          have hsome := own_some HO.out (by omega)
          obtain ⟨g, hag, hgB⟩ := hsome
          subst hag
          obtain ⟨c0, c1, c2⟩ := row_move HO.out (k := l0.length) (by rw [hml]; simp)
          have hm0 : ∀ h, ml[l0.length]'h = m := fun h => by simp [hml]
          rw [hm0] at c1 c2
          have hhi : m.hi < 256 := (HN.out.2.2.2 m (by rw [hml]; simp)).2
          have hwn : wrap64 (((l0.length : Int) + 1) - 1) = (l0.length : Int) := by unfold wrap64; omega
          have hwn2 : wrap64 ((((l0.length + 1 : Nat) : Int)) - 1) = (l0.length : Int) := by unfold wrap64; omega
          have hwh : IntKind.i64.wrap (m.hi : Int) = (m.hi : Int) := by rw [IntKind.wrap_i64]; omega
          have hge : (0 : Int) ≤ (l0.length : Int) := by omega
          have hltI : (l0.length : Int) < ((l0.length + 1 : Nat) : Int) := by omega
          have hltI2 : (l0.length : Int) < (l0.length : Int) + 1 := by omega
          have blg := World.block_lt_of_cell? _ _ c1
          have Hml := Lib.hid hml
          clear hml hm0 c0
          by_cases hm1 : m.to = tq
          · by_cases hm2 : m.hi + 1 = k
            · have hm3 : (m.hi : Int) = (k : Int) - 1 := by omega
              have HPn : Hid (movP cu' bh' all (k + 1) = (all', l0 ++ [(⟨m.lo, k, m.to⟩ : Mv)], tq)) := Lib.hid (by rw [HP2.out, Hml.out, List.concat_eq_append, push_more l0 m hto ⟨hm1, hm2⟩, hm1])
              have hbb : (m.to == tq) = true := by simpa using hm1
              have hbh : ((m.hi : Int) == (k : Int) - 1) = true := by simpa using hm3
              have ff := own_frozen (j := l0.length * 3 + 1) HO.out
              have hgs := grownBy_set wr g (l0.length * 3 + 1) (.int .u8 (k : Int))
              have HOs : Hid ((wr.setCell ⟨g, l0.length * 3 + 1, none⟩ (.int .u8 (k : Int))).ownsRow B 57 3 (.slice (some ⟨g, 0, none⟩) (l0.length + 1) c) (l0.length + 1) ((l0 ++ [(⟨m.lo, k, m.to⟩ : Mv)]).flatMap Mv.cells)) := Lib.hid (by
                have := own_setc HO.out (l0.length * 3 + 1) (.int .u8 (k : Int))
                rw [Hml.out, List.concat_eq_append, cells_set] at this
                exact this)
              have HMs2 := Lib.hid (HM.out.keep hgs (fun g1 e => by
                injection e with e
                subst e
                exact ⟨by have := HM1.out; rw [hB0.out] at this; omega, HR.out.2 g rfl⟩))
              have HKs : Hid (KpM (MkQ L (.slice sa all.length sc)) w (wr.setCell ⟨g, l0.length * 3 + 1, none⟩ (.int .u8 (k : Int)))) := Lib.hid (HK.out.step hgs (fun g1 e => .inr (by
                injection e with e
                rw [hB0.out]; omega)))
              have HBs : Hid (B ≤ (wr.setCell ⟨g, l0.length * 3 + 1, none⟩ (.int .u8 (k : Int))).heap.size) := Lib.hid (Nat.le_trans HBz.out hgs.size)
              have HNs : Hid ((l0 ++ [(⟨m.lo, k, m.to⟩ : Mv)]).length = l0.length + 1 ∧ l0.length + 1 ≤ k + 1 ∧ all'.length ≤ all.length + (k + 1) ∧ ∀ x ∈ l0 ++ [(⟨m.lo, k, m.to⟩ : Mv)], x.lo < 256 ∧ x.hi < 256) := Lib.hid ⟨by simp, by omega, HL2.out, fun x hx => by
                rcases List.mem_append.1 hx with h | h
                · exact HN.out.2.2.2 x (by rw [Hml.out, List.concat_eq_append]; exact List.mem_append_left _ h)
                · rw [List.mem_singleton] at h
                  subst h
                  exact ⟨(HN.out.2.2.2 m (by rw [Hml.out]; simp)).1, hlt⟩⟩
              clear hgs
              go_wp2_with (fail)
              exact ⟨⟨k + 1, l0.length + 1, some ⟨g, 0, none⟩, c, tq, all', sa', sc', l0 ++ [(⟨m.lo, k, m.to⟩ : Mv)], by omega, by simp, rfl, rfl, HPn, HNs, HOs, HMs2, HKs, HR, HBs⟩, by simp [intOf]; omega⟩
            · have hm3 : ¬ (m.hi : Int) = (k : Int) - 1 := by omega
              have hbb : (m.to == tq) = true := by simpa using hm1
              have hbh : ((m.hi : Int) == (k : Int) - 1) = false := by simpa using hm3
              have HPn : Hid (movP cu' bh' all (k + 1) = (all', ml ++ [(⟨k, k, tq⟩ : Mv)], tq)) := Lib.hid (by rw [HP2.out, Hml.out, List.concat_eq_append, push_new l0 m hto (fun h => hm2 h.2)])
              go_wp2_with (at_builtin; refine wpList_append_run rfl _ _ 58 58 rfl _ _ _ _ rfl rfl Hrun.out ?_)
              exact ⟨⟨k + 1, _, some ⟨g2, 0, none⟩, c2', tq, all', sa', sc', ml ++ [(⟨k, k, tq⟩ : Mv)], by omega, by simp, rfl, rfl, HPn, Lib.hid ⟨by rw [List.length_append, HN.out.1]; rfl, by omega, HL2.out, fun m hm => by rcases List.mem_append.1 hm with h | h; exact HN.out.2.2.2 m h; rw [List.mem_singleton] at h; subst h; exact ⟨hlt, hlt⟩⟩, HOn, HMn, HKn, HRn, HBn⟩, by simp [intOf]; omega⟩
          · have hbb : (m.to == tq) = false := by simpa using hm1
            have HPn : Hid (movP cu' bh' all (k + 1) = (all', ml ++ [(⟨k, k, tq⟩ : Mv)], tq)) := Lib.hid (by rw [HP2.out, Hml.out, List.concat_eq_append, push_new l0 m hto (fun h => hm1 h.1)])
            go_wp2_with (at_builtin; refine wpList_append_run rfl _ _ 58 58 rfl _ _ _ _ rfl rfl Hrun.out ?_)
            exact ⟨⟨k + 1, _, some ⟨g2, 0, none⟩, c2', tq, all', sa', sc', ml ++ [(⟨k, k, tq⟩ : Mv)], by omega, by simp, rfl, rfl, HPn, Lib.hid ⟨by rw [List.length_append, HN.out.1]; rfl, by omega, HL2.out, fun m hm => by rcases List.mem_append.1 hm with h | h; exact HN.out.2.2.2 m h; rw [List.mem_singleton] at h; subst h; exact ⟨hlt, hlt⟩⟩, HOn, HMn, HKn, HRn, HBn⟩, by simp [intOf]; omega⟩
      case true =>
        have hsz : Hid (all'.length ≤ 500000) := Lib.hid (by have := HN.out.2.2.1; omega)
        have Hf := Lib.hid (find_any w0 wr L cl' cu' bh' all' sa' sc' L.mb (265 + k * 32) (bh' k) HM.out (HM.out.mkr.wd (isW_bh L _ _ _ _ _ k) (by omega)) hsz.out)
        go_wp2_with (fail)
        refine Hf.out.mono ?_
        rintro e V ⟨rfl, sa2, sc2, hM2, hK2, hR2⟩
        obtain ⟨all2, hall2⟩ : ∃ q, Hid (fall all' (bh' k) = q) := ⟨_, Lib.hid rfl⟩
        obtain ⟨tq2, htq2⟩ : ∃ q, Hid (fidx all' (bh' k) = q) := ⟨_, Lib.hid rfl⟩
        rw [hall2.out] at hM2 hR2
        rw [htq2.out]
        have HP2 : Hid (movP cu' bh' all (k + 1) = (all2, pushM ml k tq2, tq2)) := Lib.hid (by rw [HP1.out, ← hall2.out, ← htq2.out]; rfl)
        have HL2 : Hid (all2.length ≤ all.length + (k + 1)) := Lib.hid (by
          have h1 := HN.out.2.2.1
          have h2 := (fall_len all' (bh' k)).2
          rw [hall2.out] at h2
          omega)
        have hlt2 : ∀ g, (Value.slice a N c).ownBlock = some g → B ≤ g ∧ g < wr.heap.size := fun g e => by
          obtain ⟨h1, cur, h2⟩ := own_typD HO.out g e
          exact ⟨h1, (Array.getElem?_eq_some_iff.1 h2).1⟩
        have HM2 := Lib.hid hM2
        have HO2 := Lib.hid (hK2.own HO.out (fun g e e0 => by
          rcases e0 with e0 | e0
          · have := (hlt2 g e).1; have := HM1.out; rw [hB0.out] at this; omega
          · exact HR.out.2 g e e0))
        have HK2 : Hid (KpM (MkQ L (.slice sa all.length sc)) w V) := Lib.hid (kq_trans HK.out hK2 HR.out.1)
        have HR2 : Hid ((∀ g, (Value.slice sa2 all2.length sc2).ownBlock = some g → (Value.slice sa all.length sc).ownBlock = some g ∨ w.heap.size ≤ g) ∧ (∀ g, (Value.slice a N c).ownBlock = some g → (Value.slice sa2 all2.length sc2).ownBlock ≠ some g)) := Lib.hid ⟨fun g e => by
          rcases hR2 g e with h | h
          · exact HR.out.1 g h
          · exact .inr (Nat.le_trans HK.out.size h), fun g e e0 => by
          rcases hR2 g e0 with h | h
          · exact HR.out.2 g e h
          · have := (hlt2 g e).2; omega⟩
        have HB2 : Hid (B ≤ V.heap.size) := Lib.hid (Nat.le_trans HBz.out hK2.size)
        have xl := HM2.out.mkr.lt
        clear hM2 hK2 hR2 HP1 hlt2 HM HO HK HR HBz x8
        by_cases hto : tq2 = -1
        · subst hto
          have HPn : Hid (movP cu' bh' all (k + 1) = (all2, ml, -1)) := Lib.hid (by rw [HP2.out, push_none])
          go_wp2_with (fail)
          exact ⟨⟨k + 1, N, a, c, -1, all2, sa2, sc2, ml, by omega, by simp, rfl, rfl, HPn, Lib.hid ⟨HN.out.1, by have := HN.out.2.1; omega, HL2.out, HN.out.2.2.2⟩, HO2, HM2, HK2, HR2, HB2⟩, by simp [intOf]; omega⟩
        have htb : (tq2 == -1) = false := by simpa using hto
        have hw2 : wrap64 ((k : Int) - 1) = (k : Int) - 1 := by unfold wrap64; omega
        have hwk : IntKind.u8.wrap (k : Int) = (k : Int) := by rw [IntKind.wrap_u8]; omega
        have hNk := HN.out.2.1
        have hac := ownW_le HO2.out
        obtain ⟨g2, c2', W2, hrun, ho, hg, hlies, hlt2⟩ := run_pushL V 58 58 57 _ 3 16 Try.underlying58 info_move rfl (by decide) [.int .u8 (k : Int), .int .u8 (k : Int), .int .i64 tq2] rfl (by intro u hu; simp only [List.mem_cons, List.not_mem_nil, or_false] at hu; rcases hu with rfl | rfl | rfl <;> rfl) HO2.out (by omega) (by unfold maxLen; omega) HB2.out
        have Hrun := Lib.hid hrun
        have HOn : Hid (W2.ownsRow B 57 3 (.slice (some ⟨g2, 0, none⟩) (N + 1) c2') (N + 1) ((ml ++ [(⟨k, k, tq2⟩ : Mv)]).flatMap Mv.cells)) := Lib.hid (by rw [List.flatMap_append]; exact ho)
        have hrow : ∀ g, (Value.slice a N c).ownBlock = some g → B ≤ g := fun g e => (own_typD HO2.out g e).1
        have HMn := Lib.hid (HM2.out.keep hg (fun g e => ⟨by have := hrow g e; have := HM1.out; rw [hB0.out] at this; omega, fun e0 => HR2.out.2 g e e0⟩))
        have HKn : Hid (KpM (MkQ L (.slice sa all.length sc)) w W2) := Lib.hid (HK2.out.step hg (fun g e => .inr (by rw [hB0.out]; exact hrow g e)))
        have HRn : Hid ((∀ g, (Value.slice sa2 all2.length sc2).ownBlock = some g → (Value.slice sa all.length sc).ownBlock = some g ∨ w.heap.size ≤ g) ∧ (∀ g, (Value.slice (some ⟨g2, 0, none⟩ : Option Addr) (N + 1) c2').ownBlock = some g → (Value.slice sa2 all2.length sc2).ownBlock ≠ some g)) := Lib.hid ⟨HR2.out.1, fun g e e0 => by
          have e2 : g2 = g := by simpa [Value.ownBlock] using e
          subst e2
          rcases hlies with h | h
          · exact HR2.out.2 g2 h e0
          · obtain ⟨_, cur, h2⟩ := own_typD HM2.out.sets g2 e0
            have := (Array.getElem?_eq_some_iff.1 h2).1
            omega⟩
        have HBn : Hid (B ≤ W2.heap.size) := Lib.hid (Nat.le_trans HB2.out hg.size)
        clear hrun ho hg hlies hrow hlt2
        rcases List.eq_nil_or_concat ml with hml | ⟨l0, m, hml⟩
        · have hN0 : 0 = N := by have := HN.out.1; rw [hml] at this; exact this
          subst hN0
          have HPn : Hid (movP cu' bh' all (k + 1) = (all2, ml ++ [(⟨k, k, tq2⟩ : Mv)], tq2)) := Lib.hid (by rw [HP2.out, hml, push_nil k hto]; rfl)
          have hw0 : wrap64 (-1) = -1 := by unfold wrap64; omega
          clear hml
          go_wp2_with (at_builtin; refine wpList_append_run rfl _ _ 58 58 rfl _ _ _ _ rfl rfl Hrun.out ?_)
          exact ⟨⟨k + 1, _, some ⟨g2, 0, none⟩, c2', tq2, all2, sa2, sc2, ml ++ [(⟨k, k, tq2⟩ : Mv)], by omega, by simp, rfl, rfl, HPn, Lib.hid ⟨by rw [List.length_append, HN.out.1]; rfl, by omega, HL2.out, fun m hm => by rcases List.mem_append.1 hm with h | h; exact HN.out.2.2.2 m h; rw [List.mem_singleton] at h; subst h; exact ⟨hlt, hlt⟩⟩, HOn, HMn, HKn, HRn, HBn⟩, by simp [intOf]; omega⟩
        · have hn1 : l0.length + 1 = N := by have := HN.out.1; rw [hml] at this; simpa using this
          subst hn1
          have hsome := own_some HO2.out (by omega)
          obtain ⟨g, hag, hgB⟩ := hsome
          subst hag
          obtain ⟨c0, c1, c2⟩ := row_move HO2.out (k := l0.length) (by rw [hml]; simp)
          have hm0 : ∀ h, ml[l0.length]'h = m := fun h => by simp [hml]
          rw [hm0] at c1 c2
          have hhi : m.hi < 256 := (HN.out.2.2.2 m (by rw [hml]; simp)).2
          have hwn : wrap64 (((l0.length : Int) + 1) - 1) = (l0.length : Int) := by unfold wrap64; omega
          have hwn2 : wrap64 ((((l0.length + 1 : Nat) : Int)) - 1) = (l0.length : Int) := by unfold wrap64; omega
          have hwh : IntKind.i64.wrap (m.hi : Int) = (m.hi : Int) := by rw [IntKind.wrap_i64]; omega
          have hge : (0 : Int) ≤ (l0.length : Int) := by omega
          have hltI : (l0.length : Int) < ((l0.length + 1 : Nat) : Int) := by omega
          have hltI2 : (l0.length : Int) < (l0.length : Int) + 1 := by omega
          have blg := World.block_lt_of_cell? _ _ c1
          have Hml := Lib.hid hml
          clear hml hm0 c0
          by_cases hm1 : m.to = tq2
          · by_cases hm2 : m.hi + 1 = k
            · have hm3 : (m.hi : Int) = (k : Int) - 1 := by omega
              have HPn : Hid (movP cu' bh' all (k + 1) = (all2, l0 ++ [(⟨m.lo, k, m.to⟩ : Mv)], tq2)) := Lib.hid (by rw [HP2.out, Hml.out, List.concat_eq_append, push_more l0 m hto ⟨hm1, hm2⟩, hm1])
              have hbb : (m.to == tq2) = true := by simpa using hm1
              have hbh : ((m.hi : Int) == (k : Int) - 1) = true := by simpa using hm3
              have ff := own_frozen (j := l0.length * 3 + 1) HO2.out
              have hgs := grownBy_set V g (l0.length * 3 + 1) (.int .u8 (k : Int))
              have HOs : Hid ((V.setCell ⟨g, l0.length * 3 + 1, none⟩ (.int .u8 (k : Int))).ownsRow B 57 3 (.slice (some ⟨g, 0, none⟩) (l0.length + 1) c) (l0.length + 1) ((l0 ++ [(⟨m.lo, k, m.to⟩ : Mv)]).flatMap Mv.cells)) := Lib.hid (by
                have := own_setc HO2.out (l0.length * 3 + 1) (.int .u8 (k : Int))
                rw [Hml.out, List.concat_eq_append, cells_set] at this
                exact this)
              have HMs2 := Lib.hid (HM2.out.keep hgs (fun g1 e => by
                injection e with e
                subst e
                exact ⟨by have := HM1.out; rw [hB0.out] at this; omega, HR2.out.2 g rfl⟩))
              have HKs : Hid (KpM (MkQ L (.slice sa all.length sc)) w (V.setCell ⟨g, l0.length * 3 + 1, none⟩ (.int .u8 (k : Int)))) := Lib.hid (HK2.out.step hgs (fun g1 e => .inr (by
                injection e with e
                rw [hB0.out]; omega)))
              have HBs : Hid (B ≤ (V.setCell ⟨g, l0.length * 3 + 1, none⟩ (.int .u8 (k : Int))).heap.size) := Lib.hid (Nat.le_trans HB2.out hgs.size)
              have HNs : Hid ((l0 ++ [(⟨m.lo, k, m.to⟩ : Mv)]).length = l0.length + 1 ∧ l0.length + 1 ≤ k + 1 ∧ all2.length ≤ all.length + (k + 1) ∧ ∀ x ∈ l0 ++ [(⟨m.lo, k, m.to⟩ : Mv)], x.lo < 256 ∧ x.hi < 256) := Lib.hid ⟨by simp, by omega, HL2.out, fun x hx => by
                rcases List.mem_append.1 hx with h | h
                · exact HN.out.2.2.2 x (by rw [Hml.out, List.concat_eq_append]; exact List.mem_append_left _ h)
                · rw [List.mem_singleton] at h
                  subst h
                  exact ⟨(HN.out.2.2.2 m (by rw [Hml.out]; simp)).1, hlt⟩⟩
              clear hgs
              go_wp2_with (fail)
              exact ⟨⟨k + 1, l0.length + 1, some ⟨g, 0, none⟩, c, tq2, all2, sa2, sc2, l0 ++ [(⟨m.lo, k, m.to⟩ : Mv)], by omega, by simp, rfl, rfl, HPn, HNs, HOs, HMs2, HKs, HR2, HBs⟩, by simp [intOf]; omega⟩
            · have hm3 : ¬ (m.hi : Int) = (k : Int) - 1 := by omega
              have hbb : (m.to == tq2) = true := by simpa using hm1
              have hbh : ((m.hi : Int) == (k : Int) - 1) = false := by simpa using hm3
              have HPn : Hid (movP cu' bh' all (k + 1) = (all2, ml ++ [(⟨k, k, tq2⟩ : Mv)], tq2)) := Lib.hid (by rw [HP2.out, Hml.out, List.concat_eq_append, push_new l0 m hto (fun h => hm2 h.2)])
              go_wp2_with (at_builtin; refine wpList_append_run rfl _ _ 58 58 rfl _ _ _ _ rfl rfl Hrun.out ?_)
              exact ⟨⟨k + 1, _, some ⟨g2, 0, none⟩, c2', tq2, all2, sa2, sc2, ml ++ [(⟨k, k, tq2⟩ : Mv)], by omega, by simp, rfl, rfl, HPn, Lib.hid ⟨by rw [List.length_append, HN.out.1]; rfl, by omega, HL2.out, fun m hm => by rcases List.mem_append.1 hm with h | h; exact HN.out.2.2.2 m h; rw [List.mem_singleton] at h; subst h; exact ⟨hlt, hlt⟩⟩, HOn, HMn, HKn, HRn, HBn⟩, by simp [intOf]; omega⟩
          · have hbb : (m.to == tq2) = false := by simpa using hm1
            have HPn : Hid (movP cu' bh' all (k + 1) = (all2, ml ++ [(⟨k, k, tq2⟩ : Mv)], tq2)) := Lib.hid (by rw [HP2.out, Hml.out, List.concat_eq_append, push_new l0 m hto (fun h => hm1 h.1)])
            go_wp2_with (at_builtin; refine wpList_append_run rfl _ _ 58 58 rfl _ _ _ _ rfl rfl Hrun.out ?_)
            exact ⟨⟨k + 1, _, some ⟨g2, 0, none⟩, c2', tq2, all2, sa2, sc2, ml ++ [(⟨k, k, tq2⟩ : Mv)], by omega, by simp, rfl, rfl, HPn, Lib.hid ⟨by rw [List.length_append, HN.out.1]; rfl, by omega, HL2.out, fun m hm => by rcases List.mem_append.1 hm with h | h; exact HN.out.2.2.2 m h; rw [List.mem_singleton] at h; subst h; exact ⟨hlt, hlt⟩⟩, HOn, HMn, HKn, HRn, HBn⟩, by simp [intOf]; omega⟩
    · obtain rfl : 256 = k := by omega
      have hn := HN.out.1
      go_wp2_with (fail)
      subst hn
      rw [← hB0.out] at HO
      exact bodyPost_ret (v := .slice a ml.length c) (by simp [results, Try.results33, go_sem]; try first | rfl | assumption | omega) rfl ⟨cl', cu', bh', all', ml, tq, sa', sc', a, c, rfl, HP.out, HO.out, HM.out, HI.out, HC.out, HB.out, HK.out, HR.out⟩
end Go.Proofs.Ytngbfjimmdkfeaa

namespace Go.Proofs.Ytngbfjimmdkfeaa
open Go.RowKit Go.Shelf Go.Maps

attribute [local go_sem] Oper.semAt_some

/-- The least place of an end that a set has. -/
def accW (f : WSet) : List Int → Nat → Int
  | [], _ => -1
  | e :: r, i => if hasW f e.toNat then (i : Int) else accW f r (i + 1)

set_option maxRecDepth 100000 in
set_option maxHeartbeats 2000000 in
theorem accept_any (w : World) (a : Option Addr) (cap : Nat) (l : List Int) (b off : Nat) (f : WSet) (hl : Ints w a cap l) (hr : ∀ e ∈ l, 0 ≤ e ∧ e < 2048) (hf : Wd32 w b off f) :
    Calls Try.prog 34 #[.slice a l.length cap, .pointer (some ⟨b, off, none⟩)] w fun e w' => e = .returned (.int .i64 (accW f l 0)) ∧ w' = w := by
  have HL := Lib.hid hl
  have HF := Lib.hid hf
  have hlc : l.length ≤ cap ∧ cap ≤ 9223372036854775807 := ⟨hl.le, hl.max⟩
  obtain ⟨E, hE⟩ : ∃ E, Hid (accW f l 0 = E) := ⟨_, Lib.hid rfl⟩
  obtain ⟨N, hN⟩ : ∃ N, Hid (l.length = N) := ⟨_, Lib.hid rfl⟩
  have Hr := Lib.hid hr
  rw [hE.out, hN.out]
  rw [hN.out] at hlc
  clear hl hf hr
  go_enter Try.func34, Try.ntmps34
  go_wp2_with (fail)
  go_loopw [9] (fun iv wr => ∃ k : Nat, k ≤ N ∧ iv = .int .i64 (k : Int) ∧ Hid (accW f (l.drop k) k = E) ∧ wr = w) (fun iv _ => N - (intOf iv).toNat)
  case atStart => exact ⟨0, Nat.zero_le _, rfl, Lib.hid hE.out, rfl⟩
  case round =>
    obtain ⟨k, hk, rfl, HK, rfl⟩ := hrel
    have hkI0 : (0 : Int) ≤ (k : Int) := by omega
    by_cases hlt : k < N
    · have hkI : (k : Int) < (N : Int) := by omega
      have hkl : k < l.length := by rw [hN.out]; exact hlt
      obtain ⟨b2, o2, hab⟩ := HL.out.at_ k hkl
      have c0 := HL.out.cell b2 o2 hab k hkl
      have hrk := Hr.out l[k] (List.getElem_mem hkl)
      have HK2 : Hid ((if hasW f (l[k]).toNat then (k : Int) else accW f (l.drop (k + 1)) (k + 1)) = E) := Lib.hid (by
        have := HK.out
        rw [List.drop_eq_getElem_cons hkl] at this
        exact this)
      generalize l[k] = t at c0 hrk HK2
      obtain ⟨s, rfl⟩ : ∃ s : Nat, t = (s : Int) := ⟨t.toNat, by omega⟩
      rw [Int.toNat_natCast] at HK2
      have Hh := Lib.hid (has32_any wr b off f s (by omega) HF.out)
      obtain ⟨q, hq⟩ : ∃ q, Hid (hasW f s = q) := ⟨_, Lib.hid rfl⟩
      rw [hq.out] at Hh HK2
      have bl := World.block_lt_of_cell? _ _ c0
      subst hab
      cases q
      case true =>
        have HE : Hid ((k : Int) = E) := Lib.hid (by have := HK2.out; simpa using this)
        go_wp2_with (fail)
        refine Hh.out.mono ?_
        rintro e V4 ⟨rfl, hV4⟩
        subst V4
        go_wp2_with (fail)
        exact bodyPost_ret (v := .int .i64 (k : Int)) (by simp [results, Try.results34, go_sem]; try first | rfl | assumption | omega) rfl ⟨by rw [HE.out], rfl⟩
      case false =>
        have HE : Hid (accW f (l.drop (k + 1)) (k + 1) = E) := Lib.hid (by have := HK2.out; simpa using this)
        go_wp2_with (fail)
        refine Hh.out.mono ?_
        rintro e V4 ⟨rfl, hV4⟩
        subst V4
        go_wp2_with (fail)
        exact ⟨⟨k + 1, by omega, by simp, HE, by first | rfl | trivial⟩, by simp [intOf]; omega⟩
    · have HE : Hid ((-1 : Int) = E) := Lib.hid (by
        have := HK.out
        rw [List.drop_eq_nil_of_le (by rw [hN.out]; omega)] at this
        exact this)
      have hkI : ¬ (k : Int) < (N : Int) := by omega
      go_wp2_with (fail)
      exact bodyPost_ret (v := .int .i64 (-1)) (by simp [results, Try.results34, go_sem]; try first | rfl | assumption | omega) rfl ⟨by rw [HE.out], rfl⟩
end Go.Proofs.Ytngbfjimmdkfeaa

