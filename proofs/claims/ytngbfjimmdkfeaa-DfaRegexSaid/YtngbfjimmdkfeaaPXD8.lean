/- Texts joined: Dq Dp Dr. -/
import Derived.Test.YtngbfjimmdkfeaaPXD7
import Derived.Laws.Tables
import Derived.Carry
import Derived.Deep.CutRange
set_option linter.unusedVariables false
set_option linter.unusedSimpArgs false
namespace Go.Proofs.Ytngbfjimmdkfeaa
open Go.RowKit Go.Shelf Go.Maps

def zC (i : Nat) : Value → Bool
  | .int .i64 0 => decide (i < 2)
  | .slice none 0 0 => decide (2 ≤ i) && decide (i < 7)
  | .map none => i == 7
  | .bool false => decide (8 ≤ i) && decide (i < 265)
  | .int .u64 0 => decide (265 ≤ i)
  | _ => false
def zOk : Nat → List Value → Bool
  | i, [] => i == 8457
  | i, v :: r => zC i v && zOk (i + 1) r
set_option maxRecDepth 1000000 in
theorem zero_maker : ((Try.prog.info? 77).bind (fun i => i.zero)).map (fun z => zOk 0 z.cells.toList) = some true := by kernel_rfl
/-- The zero's cells. -/
def zG : Nat → Value := fun j => if j < 2 then .int .i64 0 else if j < 7 then .slice none 0 0 else if j = 7 then .map none else if j < 265 then .bool false else .int .u64 0
theorem zOk_at : ∀ (l : List Value) (i : Nat), zOk i l = true → i + l.length = 8457 ∧ ∀ j, j < l.length → l[j]? = some (zG (i + j))
  | [], i, h => ⟨by simpa [zOk] using h, fun j hj => by simp at hj⟩
  | v :: r, i, h => by
    rw [zOk, Bool.and_eq_true] at h
    obtain ⟨h1, h2⟩ := zOk_at r (i + 1) h.2
    refine ⟨by simp only [List.length_cons]; omega, fun j hj => ?_⟩
    cases j with
    | succ j =>
      rw [List.getElem?_cons_succ, h2 j (by simpa using hj), show i + 1 + j = i + (j + 1) by omega]
    | zero =>
      have h0 := h.1
      rw [List.getElem?_cons_zero, Nat.add_zero]
      congr 1
      unfold zG
      unfold zC at h0
      split at h0
      · rw [if_pos (by simpa using h0)]
      · simp only [Bool.and_eq_true, decide_eq_true_iff] at h0
        rw [if_neg (by omega), if_pos (by omega)]
      · simp only [beq_iff_eq] at h0
        rw [if_neg (by omega), if_neg (by omega), if_pos h0]
      · simp only [Bool.and_eq_true, decide_eq_true_iff] at h0
        rw [if_neg (by omega), if_neg (by omega), if_neg (by omega), if_pos (by omega)]
      · simp only [decide_eq_true_iff] at h0
        rw [if_neg (by omega), if_neg (by omega), if_neg (by omega), if_neg (by omega)]
      · cases h0
theorem places_maker : (match Try.prog.underlying 77 with | some (.struct fields) => fields.toList.mapM (fun f => (Try.prog.info? f.type).map fun i => (f.offset, i.size)) | _ => none) = some [(0, 4), (4, 1), (5, 1), (6, 1), (7, 1), (8, 257), (265, 8192)] := by kernel_rfl
/-- What 'maker{leads: .., closed: .., found: ..}' comes to. -/
theorem built_maker (a b c : Value) (ha : a.cells = #[a]) (hb : b.cells = #[b]) (hc : c.cells = #[c]) : ∃ cs : Array Value, Try.prog.built 77 [(1, a), (2, b), (4, c)] = some cs ∧ cs.size = 8457 ∧ ∀ j, j < 8457 → cs[j]? = some (if j = 4 then a else if j = 5 then b else if j = 7 then c else zG j) := by
  have hz := zero_maker
  obtain ⟨z, hz1, hz2⟩ := Option.map_eq_some_iff.1 hz
  obtain ⟨it, hi1, hi2⟩ := Option.bind_eq_some_iff.1 hz1
  obtain ⟨h1, h2⟩ := zOk_at _ 0 hz2
  have hsz : z.cells.size = 8457 := by rw [← h1, Nat.zero_add, Array.length_toList]
  have hp := places_maker
  refine ⟨((z.cells.setIfInBounds 4 a).setIfInBounds 5 b).setIfInBounds 7 c, ?_, by simp [hsz], fun j hj => ?_⟩
  · unfold Program.built
    rw [hi1]
    rcases hu : Try.prog.underlying 77 with _ | d
    · rw [hu] at hp; cases hp
    · rw [hu] at hp
      cases d <;> first | (cases hp; done) | skip
      dsimp only at hp ⊢
      rw [hi2, hp]
      dsimp only
      simp [Instr.fill, ha, hb, hc, hsz]
  · have hzj : z.cells[j]? = some (zG j) := by
      have := h2 j (by rw [Array.length_toList, hsz]; exact hj)
      rw [Nat.zero_add] at this
      simpa using this
    rw [Array.getElem?_setIfInBounds, Array.getElem?_setIfInBounds, Array.getElem?_setIfInBounds]
    simp only [Array.size_setIfInBounds, hsz]
    by_cases e7 : 7 = j
    · subst e7; simp
    · rw [if_neg e7]
      by_cases e5 : 5 = j
      · subst e5; simp
      · rw [if_neg e5]
        by_cases e4 : 4 = j
        · subst e4; simp
        · rw [if_neg e4, hzj, if_neg (fun h => e4 h.symm), if_neg (fun h => e5 h.symm), if_neg (fun h => e7 h.symm)]
end Go.Proofs.Ytngbfjimmdkfeaa

namespace Go.Proofs.Ytngbfjimmdkfeaa
open Go.RowKit Go.Shelf Go.Maps

/-- A maker that is being filled, and where it lies. -/
structure NmAt (w0 w : World) (L : MkL) : Prop where
  bel : Below w0.heap.size w0 w
  mkr : BlkA w L.mb 77 8457 (mkG L 0 none 0 (fun _ => false) (fun _ => zeroW))
  cb : BlkA w L.cb 74 (L.n * 32) (clG (fun _ => zeroW))
  lb : BlkA w L.lb 58 L.n (ldG L.lds)
  ld : ∀ i (h : i < L.lds.length), OwnMv w w0.heap.size L.lds[i]
  eg : EgO w w0.heap.size L.ea L.ec L.es
  fnd : MapS w L.fb 0 (fun _ => none)
  lo : w0.heap.size ≤ L.mb ∧ w0.heap.size ≤ L.lb ∧ w0.heap.size ≤ L.cb ∧ w0.heap.size ≤ L.fb
  dis : ∀ i j (hi : i < L.lds.length) (hj : j < L.lds.length), i ≠ j → ∀ g, L.lds[i].v.ownBlock = some g → L.lds[j].v.ownBlock ≠ some g
  ll : L.lds.length = L.n
section
variable {w0 w w' w2 : World} {L : MkL}
theorem own_blkT {base e size n cap k t m : Nat} {a : Option Addr} {xs : List Value} {f : Nat → Value} (h : w.ownsRow base e size (.slice a n cap) n xs) (hb : BlkA w k t m f) (hne : t ≠ e) : some k ≠ (Value.slice a n cap).ownBlock := fun e0 => own_blkD h hb (fun e => hne e.symm) e0.symm
theorem own_mapT {base e size n cap k m : Nat} {a : Option Addr} {xs : List Value} {f : WSet → Option Nat} (h : w.ownsRow base e size (.slice a n cap) n xs) (hb : MapS w k m f) : some k ≠ (Value.slice a n cap).ownBlock := fun e0 => own_mapD h hb e0.symm
/-- Rows of other types are others. -/
theorem own_ownT {base e size n cap base2 e2 size2 n2 cap2 : Nat} {a a2 : Option Addr} {xs xs2 : List Value} (h : w.ownsRow base e size (.slice a n cap) n xs) (h2 : w.ownsRow base2 e2 size2 (.slice a2 n2 cap2) n2 xs2) (hne : e ≠ e2) : ∀ g, (Value.slice a n cap).ownBlock = some g → (Value.slice a2 n2 cap2).ownBlock = some g → False := fun g h3 h4 => by
  obtain ⟨_, c1, h5⟩ := own_typD h g h3
  obtain ⟨_, c2, h6⟩ := own_typD h2 g h4
  rw [h5] at h6
  cases h6
  exact hne rfl
theorem NmAt.below (h : NmAt w0 w L) (hb : Below w.heap.size w w') : NmAt w0 w' L := by
  have hg := below_grownBy hb none
  refine ⟨h.bel.grown hg h.bel.size (fun k e => by cases e), h.mkr.kept hg (by simp), h.cb.kept hg (by simp), h.lb.kept hg (by simp), fun i hi => own_keptD (h.ld i hi) hg (fun g e => by cases e), ?_, h.fnd.kept hg (by simp), h.lo, h.dis, h.ll⟩
  obtain ⟨vs, ho, hv⟩ := h.eg
  exact ⟨vs, own_keptD ho hg (fun g e => by cases e), hv⟩
theorem mkG_edge (L : MkL) (ea : Option Addr) (ec : Nat) (es : List Eg) (n : Nat) (sa : Option Addr) (sc : Nat) (cu : Nat → Bool) (bh : Nat → WSet) (i : Nat) : (if i = 3 then Value.slice ea es.length ec else mkG L n sa sc cu bh i) = mkG { L with ea := ea, ec := ec, es := es } n sa sc cu bh i := by
  by_cases e : i = 3
  · subst e
    rfl
  · rw [if_neg e]
    unfold mkG
    by_cases h : i < 8
    · rw [if_pos h, if_pos h]
      match i, h, e with
      | 0, _, _ => rfl
      | 1, _, _ => rfl
      | 2, _, _ => rfl
      | 4, _, _ => rfl
      | 5, _, _ => rfl
      | 6, _, _ => rfl
      | 7, _, _ => rfl
    · rw [if_neg h, if_neg h]
/-- An edge more. -/
theorem NmAt.edge {ea : Option Addr} {ec : Nat} {e : Eg} (h : NmAt w0 w L) (hg : w.grownBy w2 (Value.slice L.ea L.es.length L.ec).ownBlock) (ho : EgO w2 w0.heap.size ea ec (L.es ++ [e])) :
    NmAt w0 (w2.setCell ⟨L.mb, 3, none⟩ (.slice ea (L.es ++ [e]).length ec)) { L with ea := ea, ec := ec, es := L.es ++ [e] } := by
  obtain ⟨vs, hoE, _⟩ := h.eg
  have g3 := grownBy_set w2 L.mb 3 (Value.slice ea (L.es ++ [e]).length ec)
  have k1 := h.mkr.kept hg (own_blkT hoE h.mkr (by decide))
  have k2 := h.cb.kept hg (own_blkT hoE h.cb (by decide))
  have k3 := h.lb.kept hg (own_blkT hoE h.lb (by decide))
  have k4 := h.fnd.kept hg (own_mapT hoE h.fnd)
  have hbel := h.bel.grown hg h.bel.size (fun k e => (own_typD hoE k e).1)
  have hlo := h.lo
  refine ⟨hbel.grown g3 hbel.size (fun k e => by injection e with e; omega), (k1.set (j := 3) (by omega) _).congr (fun i _ => mkG_edge L ea ec (L.es ++ [e]) _ _ _ _ _ i), k2.kept g3 (fun e => blkA_ne k2 k1 (by decide) (by injection e)), k3.kept g3 (fun e => blkA_ne k3 k1 (by decide) (by injection e)), fun i hi => ?_, ?_, k4.kept g3 (fun e => map_blkD k4 k1 (by injection e)), hlo, h.dis, h.ll⟩
  · have d2 := own_keptD (h.ld i hi) hg (fun g e1 e2 => own_ownT hoE (h.ld i hi) (by decide) g e1 e2)
    exact own_keptD d2 g3 (fun g e1 e2 => own_blkD d2 k1 (by decide) (by injection e1 with e1; rw [e1]; exact e2))
  · obtain ⟨vs2, ho2, hv2⟩ := ho
    exact ⟨vs2, own_keptD ho2 g3 (fun g e1 e2 => own_blkD ho2 k1 (by decide) (by injection e1 with e1; rw [e1]; exact e2)), hv2⟩
/-- A move more of a state. -/
theorem NmAt.move {i : Nat} {d : MvD} (h : NmAt w0 w L) (hi : i < L.lds.length) (hg : w.grownBy w2 L.lds[i].v.ownBlock) (ho : OwnMv w2 w0.heap.size d) (hd : ∀ g, d.v.ownBlock = some g → L.lds[i].v.ownBlock = some g ∨ w.heap.size ≤ g) :
    NmAt w0 (w2.setCell ⟨L.lb, i, none⟩ d.v) { L with lds := L.lds.set i d } := by
  have hoI := h.ld i hi
  have g3 := grownBy_set w2 L.lb i d.v
  have k1 := h.mkr.kept hg (own_blkT hoI h.mkr (by decide))
  have k2 := h.cb.kept hg (own_blkT hoI h.cb (by decide))
  have k3 := h.lb.kept hg (own_blkT hoI h.lb (by decide))
  have k4 := h.fnd.kept hg (own_mapT hoI h.fnd)
  have hbel := h.bel.grown hg h.bel.size (fun k e => (own_typD hoI k e).1)
  have hlo := h.lo
  have hlt : ∀ j (hj : j < L.lds.length) g, L.lds[j].v.ownBlock = some g → g < w.heap.size := fun j hj g e => by
    obtain ⟨_, cur, h2⟩ := own_typD (h.ld j hj) g e
    exact (Array.getElem?_eq_some_iff.1 h2).1
  refine ⟨hbel.grown g3 hbel.size (fun k e => by injection e with e; omega), k1.kept g3 (fun e => blkA_ne k1 k3 (by decide) (by injection e)), k2.kept g3 (fun e => blkA_ne k2 k3 (by decide) (by injection e)), (k3.set (j := i) (by rw [← h.ll]; exact hi) _).congr (fun j _ => ?_), fun j hj => ?_, ?_, k4.kept g3 (fun e => map_blkD k4 k3 (by injection e)), hlo, fun j k hj hk hne g e1 e2 => ?_, ?_⟩
  · unfold ldG
    by_cases e : j = i
    · subst e
      rw [if_pos rfl]
      simp [hi]
    · rw [if_neg e]
      simp [List.getD_eq_getElem?_getD, List.getElem?_set_ne (fun h => e h.symm)]
  · have hj' : j < L.lds.length := by simpa using hj
    by_cases e : j = i
    · subst e
      simp only [List.getElem_set_self]
      exact own_keptD ho g3 (fun g e1 e2 => own_blkD ho k3 (by decide) (by injection e1 with e1; rw [e1]; exact e2))
    · simp only [List.getElem_set_ne (fun h => e h.symm)]
      have d2 := own_keptD (h.ld j hj') hg (fun g e1 e2 => h.dis i j hi hj' (fun h => e h.symm) g e1 e2)
      exact own_keptD d2 g3 (fun g e1 e2 => own_blkD d2 k3 (by decide) (by injection e1 with e1; rw [e1]; exact e2))
  · obtain ⟨vs, hoE, hv⟩ := h.eg
    have d2 := own_keptD hoE hg (fun g e1 e2 => own_ownT hoI hoE (by decide) g e1 e2)
    exact ⟨vs, own_keptD d2 g3 (fun g e1 e2 => own_blkD d2 k3 (by decide) (by injection e1 with e1; rw [e1]; exact e2)), hv⟩
  · have hj' : j < L.lds.length := by simpa using hj
    have hk' : k < L.lds.length := by simpa using hk
    by_cases ej : j = i
    · subst ej
      simp only [List.getElem_set_self] at e1
      simp only [List.getElem_set_ne (fun h => hne h)] at e2
      rcases hd g e1 with h3 | h3
      · exact h.dis j k hj' hk' hne g h3 e2
      · have := hlt k hk' g e2; omega
    · simp only [List.getElem_set_ne (fun h => ej h.symm)] at e1
      by_cases ek : k = i
      · subst ek
        simp only [List.getElem_set_self] at e2
        rcases hd g e2 with h3 | h3
        · exact h.dis j k hj' hk' hne g e1 h3
        · have := hlt j hj' g e1; omega
      · simp only [List.getElem_set_ne (fun h => ek h.symm)] at e2
        exact h.dis j k hj' hk' hne g e1 e2
  · rw [List.length_set]; exact h.ll
/-- Filled. -/
theorem NmAt.done (h : NmAt w0 w L) : MkrAt w0 w { L with M1 := w.heap.size } (fun _ => zeroW) (fun _ => false) (fun _ => zeroW) [] none 0 := by
  have hown : ∀ {base e size n cap : Nat} {a : Option Addr} {xs : List Value}, w.ownsRow base e size (.slice a n cap) n xs → ∀ g, (Value.slice a n cap).ownBlock = some g → g < w.heap.size := fun ho g e => by
    obtain ⟨_, cur, h2⟩ := own_typD ho g e
    exact (Array.getElem?_eq_some_iff.1 h2).1
  refine ⟨h.bel, Nat.le_refl _, h.mkr, h.cb, h.lb, fun d hd => ?_, ⟨h.eg, ?_⟩, ⟨rfl, .inl ⟨rfl, rfl⟩⟩, h.fnd, h.lo, h.mkr.lt, h.lb.lt, h.cb.lt, ?_⟩
  · obtain ⟨i, hi, rfl⟩ := List.getElem_of_mem hd
    exact ⟨h.ld i hi, hown (h.ld i hi)⟩
  · obtain ⟨vs, ho, _⟩ := h.eg
    exact hown ho
  · obtain ⟨es, k, h2⟩ := h.fnd.obj
    exact (Array.getElem?_eq_some_iff.1 h2).1
end
end Go.Proofs.Ytngbfjimmdkfeaa

namespace Go.Proofs.Ytngbfjimmdkfeaa
open Go.RowKit Go.Shelf Go.Maps

attribute [local go_sem] Oper.semAt_some

theorem step_build3 {P : Program} {ops : Array Oper} {o : Oper} {a : Act} {w : World} {K : Act → World → Prop} {Q : Exit → Act → World → Prop} {E : Prop} (hgd : o.guard = none) (t : TypeId) (i j k : Nat) (x y z : Operand) (vx vy vz : Value) (ho : o.op = .build t #[(i, x), (j, y), (k, z)]) (hx : a.eval x = vx) (hy : a.eval y = vy) (hz : a.eval z = vz)
    (cells : Array Value) (hf : P.built t [(i, vx), (j, vy), (k, vz)] = some cells) (h : K (a.put o.dst (.agg cells)) w) :
    if Region.wanted o (yielded ops a.tmps) = true then Oper.wp P o a w K Q else E := by
  rw [if_pos (by simp [Region.wanted, hgd])]
  unfold Oper.wp execOp
  have : ((#[(i, x), (j, y), (k, z)] : Array (Nat × Operand)).map fun (i, x) => (i, a.eval x)) = #[(i, vx), (j, vy), (k, vz)] := by simp [hx, hy, hz]
  simp only [ho, Sem.run_bind, this, run_build w t _ _ (show P.built t (#[(i, vx), (j, vy), (k, vz)] : Array (Nat × Value)).toList = some cells from hf), Result.andThen_ok]
  exact h
theorem BlkA.new {t n : Nat} {g : Nat → Value} (w : World) (cs : Array Value) (hn : cs.size = n) (hg : ∀ i, i < n → cs[i]? = some (g i)) : BlkA (w.alloc (.cells cs t)) w.heap.size t n g := ⟨cs, World.alloc_heap_new w _, hn, hg⟩
theorem BlkA.alloc {w : World} {b n t : Nat} {g : Nat → Value} (h : BlkA w b t n g) (o : Obj) : BlkA (w.alloc o) b t n g := h.below ((Below.refl _ w).alloc (Nat.le_refl _) o) h.lt
theorem MapS.alloc {w : World} {b n : Nat} {m : WSet → Option Nat} (h : MapS w b n m) (o : Obj) : MapS (w.alloc o) b n m := h.kept (World.grownBy_alloc w o none) (by simp)
/-- What lies there behind 'maker{..}'. -/
structure Nm0 (w0 w : World) (lb cb fb mb n : Nat) : Prop where
  bel : Below w0.heap.size w0 w
  mkr : BlkA w mb 77 8457 (fun j => if j = 4 then .slice (some ⟨lb, 0, none⟩) n n else if j = 5 then .slice (some ⟨cb, 0, none⟩) n n else if j = 7 then .map (some fb) else zG j)
  cb_ : BlkA w cb 74 (n * 32) (clG (fun _ => zeroW))
  lb_ : BlkA w lb 58 n (fun _ => .slice none 0 0)
  fnd : MapS w fb 0 (fun _ => none)
  lo : w0.heap.size ≤ mb ∧ w0.heap.size ≤ lb ∧ w0.heap.size ≤ cb ∧ w0.heap.size ≤ fb
theorem info_moves : (Try.prog.info? 58).map (fun i => (i.zero, i.size, i.bytes)) = some (some (.slice none 0 0), 1, 24) := by kernel_rfl
theorem made_cl (n : Nat) (z : Array Value) (hs : z.size = 32) (hz : ∀ k, k < 32 → z[k]? = some (Value.int .u64 0)) : ∀ i, i < n * 32 → (madeCells z (n * 32))[i]? = some (clG (fun _ => zeroW) i) := fun i hi => by
  have h1 := hz (i % 32) (Nat.mod_lt _ (by decide))
  simp [madeCells, hi, hs, getElem!_def, h1]
  rfl
/-- The moves of a state. -/
def ldP (es : List Eg) (s : Nat) : List Mv := es.flatMap (fun e => if e.f = (s : Int) then e.q.map (fun p => ⟨p.lo.toNat, p.hi.toNat, e.t⟩) else [])
theorem ldP_succ {es : List Eg} {k s : Nat} (hk : k < es.length) : ldP (es.take (k + 1)) s = ldP (es.take k) s ++ (if es[k].f = (s : Int) then es[k].q.map (fun p => ⟨p.lo.toNat, p.hi.toNat, es[k].t⟩) else []) := by
  unfold ldP
  rw [List.take_add_one, List.getElem?_eq_getElem hk, List.flatMap_append]
  simp
theorem ldP_le (es : List Eg) (k s : Nat) : (ldP (es.take k) s).length ≤ (ldP es s).length := by
  have : ldP es s = ldP (es.take k) s ++ ldP (es.drop k) s := by
    unfold ldP
    rw [← List.flatMap_append, List.take_append_drop]
  rw [this, List.length_append]
  omega
theorem own_Blk {w : World} {base e size n cap k t : Nat} {a : Option Addr} {xs l : List Value} (h : w.ownsRow base e size (.slice a n cap) n xs) (hb : Blk w k t l) (hne : e ≠ t) : some k ≠ (Value.slice a n cap).ownBlock := fun e0 => by
  obtain ⟨_, cur, h2⟩ := own_typD h k e0.symm
  rw [show w.heap[k]? = some (.cells l.toArray t (0, 0)) from hb] at h2
  cases h2
  exact hne rfl
theorem blkA_Blk {w : World} {b n t k t2 : Nat} {g : Nat → Value} {l : List Value} (h : BlkA w b t n g) (hb : Blk w k t2 l) (hne : t ≠ t2) : b ≠ k := fun e => by
  subst e
  obtain ⟨c1, h1⟩ := h.ty
  rw [show w.heap[b]? = some (.cells l.toArray t2 (0, 0)) from hb] at h1
  cases h1
  exact hne rfl
theorem link_edge {x : Nf} (h : linkB x = true) {i : Nat} (hi : i < x.es.length) : (∃ a : Nat, x.es[i].f = (a : Int) ∧ a < x.n.toNat) ∧ (∃ a : Nat, x.es[i].t = (a : Int) ∧ a < x.n.toNat) := by
  unfold linkB at h
  simp only [Bool.and_eq_true, List.all_eq_true] at h
  have := h.2 _ (List.getElem_mem hi)
  simp only [stB, Bool.and_eq_true, decide_eq_true_iff] at this
  exact ⟨⟨x.es[i].f.toNat, by omega, by omega⟩, ⟨x.es[i].t.toNat, by omega, by omega⟩⟩
theorem egO_push {w w2 : World} {base g2 c2 cap : Nat} {a sa : Option Addr} {sc : Nat} {es : List Eg} {e : Eg} {vs : List Value} {fr t : Int} (h : w.ownsRow base 61 3 (.slice a es.length cap) es.length vs)
    (hv : ∀ i (h : i < es.length), es[i].q = [] ∧ ∃ sa sc, vs[i * 3]? = some (.int .i64 es[i].f) ∧ vs[i * 3 + 1]? = some (.int .i64 es[i].t) ∧ vs[i * 3 + 2]? = some (.slice sa 0 sc) ∧ sc ≤ 9223372036854775807 ∧ (sa = none → sc = 0))
    (ho : w2.ownsRow base 61 3 (.slice (some ⟨g2, 0, none⟩) (es.length + 1) c2) (es.length + 1) (vs ++ [.int .i64 fr, .int .i64 t, .slice sa 0 sc])) (hq : e.q = []) (hf : e.f = fr) (ht : e.t = t) (hs : ∃ sa' sc', (Value.slice sa 0 sc) = .slice sa' 0 sc' ∧ sc' ≤ 9223372036854775807 ∧ (sa' = none → sc' = 0)) :
    EgO w2 base (some ⟨g2, 0, none⟩) c2 (es ++ [e]) := by
  obtain ⟨sa', sc', hs1, hs2, hs3⟩ := hs
  have hl := h.1
  refine ⟨_, by rw [List.length_append]; exact ho, fun i hi => ?_⟩
  by_cases e0 : i < es.length
  · obtain ⟨h1, s1, s2, h2, h3, h4, h5, h6⟩ := hv i e0
    rw [List.getElem_append_left e0]
    exact ⟨h1, s1, s2, by rw [List.getElem?_append_left (by omega)]; exact h2, by rw [List.getElem?_append_left (by omega)]; exact h3, by rw [List.getElem?_append_left (by omega)]; exact h4, h5, h6⟩
  · have ei : i = es.length := by simp at hi; omega
    subst ei
    have hge : (es ++ [e])[es.length]'hi = e := by simp
    rw [hge]
    refine ⟨hq, sa', sc', ?_, ?_, ?_, hs2, hs3⟩
    · rw [List.getElem?_append_right (by omega), hl, hf]; simp
    · rw [List.getElem?_append_right (by omega), hl, ht, show es.length * 3 + 1 - es.length * 3 = 1 by omega]; rfl
    · rw [List.getElem?_append_right (by omega), hl, show es.length * 3 + 2 - es.length * 3 = 2 by omega, ← hs1]; rfl
theorem cell_up0 {w w' : World} (hb : Below w.heap.size w w') {b off : Nat} {v : Value} (h : w.cell? ⟨b, off, none⟩ = some v) : w'.cell? ⟨b, off, none⟩ = some v := cell_up hb h
theorem own_base {w : World} {base base2 e size n : Nat} {v : Value} {xs : List Value} (h : w.ownsRow base e size v n xs) (hb : base2 ≤ base) : w.ownsRow base2 e size v n xs := by
  refine ⟨h.1, ?_⟩
  rcases h.2 with h1 | ⟨g, cp, cur, e1, hb1, h3⟩
  · exact .inl h1
  · exact .inr ⟨g, cp, cur, e1, Nat.le_trans hb hb1, h3⟩
theorem MkrAt.base {w0 V w : World} {L : MkL} {cl : Nat → WSet} {cu : Nat → Bool} {bh : Nat → WSet} {all : List WSet} {sa : Option Addr} {sc : Nat} (h : MkrAt V w L cl cu bh all sa sc) (hb : Below w0.heap.size w0 V) : MkrAt w0 w L cl cu bh all sa sc := by
  have hs := hb.size
  have hlo := h.lo
  obtain ⟨vs, ho, hv⟩ := h.eg.1
  exact ⟨hb.trans (h.bel.mono hs), h.m1, h.mkr, h.cb, h.lb, fun d hd => ⟨own_base (h.ld d hd).1 hs, (h.ld d hd).2⟩, ⟨⟨vs, own_base ho hs, hv⟩, h.eg.2⟩, h.sets, h.fnd, by omega, h.hi⟩
theorem nm0_nm {w0 w w2 : World} {lb cb fb mb n : Nat} {s : Int} (h : Nm0 w0 w lb cb fb mb n) (hg : w.grownBy w2 (some mb)) (hk : BlkA w2 mb 77 8457 (fun i => if i = 3 then .slice none 0 0 else if i = 2 then .slice none 0 0 else if i = 1 then .int .i64 s else if i = 0 then .int .i64 (n : Int) else (fun j => if j = 4 then .slice (some ⟨lb, 0, none⟩) n n else if j = 5 then .slice (some ⟨cb, 0, none⟩) n n else if j = 7 then .map (some fb) else zG j) i)) :
    NmAt w0 w2 ⟨mb, lb, cb, fb, 0, n, s, none, 0, [], List.replicate n ⟨[], none, 0⟩⟩ := by
  have hlo := h.lo
  refine ⟨h.bel.grown hg h.bel.size (fun k e => by injection e with e; omega), hk.congr (fun i hi => ?_), h.cb_.kept hg (fun e => blkA_ne h.cb_ h.mkr (by decide) (by injection e)), (h.lb_.kept hg (fun e => blkA_ne h.lb_ h.mkr (by decide) (by injection e))).congr (fun i hi => ?_), fun i hi => ?_, ⟨[], ⟨rfl, .inl ⟨rfl, rfl⟩⟩, fun i hi => by simp at hi⟩, h.fnd.kept hg (fun e => map_blkD h.fnd h.mkr (by injection e)), hlo, fun i j hi hj _ g e => ?_, by simp⟩
  · by_cases h8 : i < 8
    · match i, h8 with
      | 0, _ => rfl
      | 1, _ => rfl
      | 2, _ => rfl
      | 3, _ => rfl
      | 4, _ => rfl
      | 5, _ => rfl
      | 6, _ => rfl
      | 7, _ => rfl
    · unfold mkG zG
      dsimp only
      rw [if_neg (by omega), if_neg (by omega), if_neg (by omega), if_neg (by omega), if_neg (by omega), if_neg (by omega), if_neg (by omega), if_neg (by omega), if_neg (by omega), if_neg (by omega), if_neg h8]
      rfl
  · unfold ldG
    simp [List.getD_eq_getElem?_getD, hi]
  · simp only [List.getElem_replicate]
    exact ⟨rfl, .inl ⟨rfl, rfl⟩⟩
  · simp [Value.ownBlock] at e
theorem made_lb (n : Nat) (z : Array Value) (hz : z = #[Value.slice none 0 0]) : ∀ i, i < n → (madeCells z n)[i]? = some ((fun _ => Value.slice none 0 0) i) := fun i hi => by
  subst hz
  unfold madeCells
  simp [hi, Nat.mod_one]

set_option maxRecDepth 100000 in
set_option maxHeartbeats 8000000 in
theorem newMaker_any (w : World) (x : Nf) (p : NfL) (n : Nat) (hn : x.n = (n : Int)) (hx : NfAt w x p) (hl : linkB x = true) (hM : x.es.length ≤ 500000) (htot : ∀ s, (ldP x.es s).length ≤ 1000000) :
    Calls Try.prog 30 #[.agg #[.int .i64 x.n, .int .i64 x.s, .slice p.ea x.ends.length p.ec, .slice p.ga x.es.length p.gc]] w fun e w' => ∃ L : MkL, e = .returned (.pointer (some ⟨L.mb, 0, none⟩)) ∧ L.n = n ∧ L.s = x.s ∧ L.es = x.es.filter (fun e => e.q.isEmpty) ∧ L.lds.length = n ∧ (∀ s, s < n → (L.lds.getD s ⟨[], none, 0⟩).l = ldP x.es s) ∧ MkrAt w w' L (fun _ => zeroW) (fun _ => false) (fun _ => zeroW) [] none 0 := by
  have hn2 := link_n hl
  have hn0 : 1 ≤ n ∧ n ≤ 2000 := by omega
  clear hn2
  rw [hn]
  obtain ⟨i22, hi22, hz22, hs22, hb22⟩ := info_parts info_moves
  have hmk22 : ∀ W : World, (Instr.makeSlice 22 (.int .i64 (n : Int)) (.int .i64 (n : Int))).run Try.prog W = .ok (.slice (some ⟨W.heap.size, 0, none⟩) n n) (W.alloc (.cells (madeCells #[.slice none 0 0] n) 58)) := fun W => by
    have := run_makeSlice (P := Try.prog) W 22 58 i22 _ Try.underlying22 hi22 hz22 .i64 .i64 (n : Int) (n : Int) (by omega) (by omega) (by rw [hs22]; omega) (by rw [hb22]; omega) (by omega)
    rw [hs22, Int.toNat_natCast, Nat.mul_one] at this
    exact this
  obtain ⟨i69, hi69, hz69, hs69, hb69⟩ := info_parts info_wset
  have hmk69 : ∀ W : World, (Instr.makeSlice 69 (.int .i64 (n : Int)) (.int .i64 (n : Int))).run Try.prog W = .ok (.slice (some ⟨W.heap.size, 0, none⟩) n n) (W.alloc (.cells (madeCells (wordsL zeroW).toArray (n * 32)) 74)) := fun W => by
    have := run_makeSlice (P := Try.prog) W 69 74 i69 _ Try.underlying69 hi69 hz69 .i64 .i64 (n : Int) (n : Int) (by omega) (by omega) (by rw [hs69]; omega) (by rw [hb69]; omega) (by omega)
    rw [hs69, Int.toNat_natCast] at this
    exact this
  have hmm : ∀ W : World, (Instr.makeMap 70 none).run Try.prog W = .ok (.map (some W.heap.size)) (W.alloc (.map #[] 0)) := fun W => run_makeMap _ W
  obtain ⟨A22, hA22⟩ : ∃ q, Hid (Obj.cells (madeCells #[.slice none 0 0] n) 58 = q) := ⟨_, Lib.hid rfl⟩
  obtain ⟨A69, hA69⟩ : ∃ q, Hid (Obj.cells (madeCells (wordsL zeroW).toArray (n * 32)) 74 = q) := ⟨_, Lib.hid rfl⟩
  simp only [hA22.out] at hmk22
  simp only [hA69.out] at hmk69
  have hb1 : Below w.heap.size w (w.alloc (.cells #[.int .i64 (n : Int), .int .i64 x.s, .slice p.ea x.ends.length p.ec, .slice p.ga x.es.length p.gc] 32)) := (Below.refl _ w).alloc (Nat.le_refl _) _
  have HX := Lib.hid (hx.grown hb1)
  have hbx := Blk.new w 32 #[.int .i64 (n : Int), .int .i64 x.s, .slice p.ea x.ends.length p.ec, .slice p.ga x.es.length p.gc]
  obtain ⟨V, hV⟩ : ∃ V, Hid (w.alloc (.cells #[.int .i64 (n : Int), .int .i64 x.s, .slice p.ea x.ends.length p.ec, .slice p.ga x.es.length p.gc] 32) = V) := ⟨_, Lib.hid rfl⟩
  obtain ⟨X, hX⟩ : ∃ X, Hid (w.heap.size = X) := ⟨_, Lib.hid rfl⟩
  rw [hV.out] at hbx hb1 HX
  rw [hX.out] at hbx
  have HS : Hid (V.drew.cell? ⟨X, 0, none⟩ = some (.int .i64 (n : Int))) := Lib.hid (hbx.cell 0)
  clear hi22 hz22 hs22 hb22 hi69 hz69 hs69 hb69 hx
  go_enter Try.func30, Try.ntmps30
  go_upto_region 1 with fail
  rw [hV.out, hX.out]
  go_cut [3] from 8 to 16 (fun v3 wc => ∃ lb cb fb mb : Nat, v3 = .pointer (some ⟨mb, 0, none⟩) ∧ Hid (Nm0 V wc lb cb fb mb n))
  case first =>
    have hV0 := (Below.refl V.heap.size V).drew
    obtain ⟨V0, hV0e⟩ : ∃ W, Hid (V.drew = W) := ⟨_, Lib.hid rfl⟩
    have hS0 := HS.out
    rw [hV0e.out] at hS0 hV0
    have hV0z : V.heap.size ≤ V0.heap.size := hV0.size
    refine wp_region_held_drew (S := fun w' => w'.cell? ⟨X, 0, none⟩ = some (.int .i64 (n : Int))) (by kernel_rfl) ?_ (fun hHeld => ?_)
    · exact HS.out
    refine wpAnyH_take (i := 0) (v := ?_) (gatL gatZ) (by kernel_rfl) (by kernel_rfl) (by kernel_rfl) (fun _ _ _ h => h) (Or.inl ⟨by rfl, ?_⟩) (by assumption) ?_
    rotate_left
    · intro w hSw
      try dsimp only at hSw
      go_simp
      all_goals with_reducible rfl
    try simp only [Act.put, List.setIfInBounds_toArray, List.set_cons_zero, List.set_cons_succ]
    refine wpAnyH_take (i := 1) (v := ?_) (gatL (gatS gatZ)) (by kernel_rfl) (by kernel_rfl) (by kernel_rfl) (fun _ _ _ h => h) (Or.inl ⟨by rfl, ?_⟩) (by assumption) ?_
    rotate_left
    · intro w hSw
      try dsimp only at hSw
      go_simp
      all_goals with_reducible rfl
    try simp only [Act.put, List.setIfInBounds_toArray, List.set_cons_zero, List.set_cons_succ]
    refine wpAnyH_take (i := 3) (v := ?_) (gatL (gatS (gatS (gatS gatZ)))) (by kernel_rfl) (by kernel_rfl) (by kernel_rfl) (fun _ _ _ h => h) (Or.inl ⟨by rfl, ?_⟩) (by assumption) ?_
    rotate_left
    · intro w hSw
      try dsimp only at hSw
      go_simp
      all_goals with_reducible rfl
    try simp only [Act.put, List.setIfInBounds_toArray, List.set_cons_zero, List.set_cons_succ]
    refine wpAnyH_take (i := 4) (v := ?_) (gatL (gatS (gatS (gatS (gatS gatZ))))) (by kernel_rfl) (by kernel_rfl) (by kernel_rfl) (fun _ _ _ h => h) (Or.inl ⟨by rfl, ?_⟩) (by assumption) ?_
    rotate_left
    · intro w hSw
      try dsimp only at hSw
      go_simp
      all_goals with_reducible rfl
    try simp only [Act.put, List.setIfInBounds_toArray, List.set_cons_zero, List.set_cons_succ]
    rw [hV0e.out]
    refine wpAnyH_ready (rs := [2, 5, 6]) (by kernel_rfl) (by simp) ?_
    refine AllReadyH.cons (gatL (gatS (gatS gatZ))) (fun K hK => ?_) (AllReadyH.cons (gatL (gatS (gatS (gatS (gatS (gatS gatZ)))))) (fun K hK => ?_) (AllReadyH.cons (gatL (gatS (gatS (gatS (gatS (gatS (gatS gatZ))))))) (fun K hK => ?_) (AllReadyH.nil)))
    ·
      go_simp
      obtain ⟨V1, hV1⟩ : ∃ W, Hid (V0.alloc A22 = W) := ⟨_, Lib.hid rfl⟩
      rw [hV1.out]
      have hS1 : V1.cell? ⟨X, 0, none⟩ = some (.int .i64 (n : Int)) := by rw [← hV1.out, World.cell?_alloc_lt _ _ _ (World.block_lt_of_cell? _ _ hS0)]; exact hS0
      refine hK.out _ _ ?_ (fun hHeld => ?_)
      · exact hS1
      clear hK K
      try simp only [Act.put, List.setIfInBounds_toArray, List.set_cons_zero, List.set_cons_succ]
      refine wpAnyH_ready (rs := [5, 6]) (by kernel_rfl) (by simp) ?_
      refine AllReadyH.cons (gatL (gatS (gatS (gatS (gatS (gatS gatZ)))))) (fun K hK => ?_) (AllReadyH.cons (gatL (gatS (gatS (gatS (gatS (gatS (gatS gatZ))))))) (fun K hK => ?_) (AllReadyH.nil))
      ·
        go_simp
        obtain ⟨V2, hV2⟩ : ∃ W, Hid (V1.alloc A69 = W) := ⟨_, Lib.hid rfl⟩
        rw [hV2.out]
        have hS2 : V2.cell? ⟨X, 0, none⟩ = some (.int .i64 (n : Int)) := by rw [← hV2.out, World.cell?_alloc_lt _ _ _ (World.block_lt_of_cell? _ _ hS1)]; exact hS1
        refine hK.out _ _ ?_ (fun hHeld => ?_)
        · exact hS2
        clear hK K
        try simp only [Act.put, List.setIfInBounds_toArray, List.set_cons_zero, List.set_cons_succ]
        refine wpAnyH_ready (rs := [6]) (by kernel_rfl) (by simp) ?_
        refine AllReadyH.cons (gatL (gatS (gatS (gatS (gatS (gatS (gatS gatZ))))))) (fun K hK => ?_) (AllReadyH.nil)
        ·
          go_simp
          obtain ⟨V3, hV3⟩ : ∃ W, Hid (V2.alloc (.map #[] 0) = W) := ⟨_, Lib.hid rfl⟩
          rw [hV3.out]
          have hS3 : V3.cell? ⟨X, 0, none⟩ = some (.int .i64 (n : Int)) := by rw [← hV3.out, World.cell?_alloc_lt _ _ _ (World.block_lt_of_cell? _ _ hS2)]; exact hS2
          refine hK.out _ _ ?_ (fun hHeld => ?_)
          · exact hS3
          clear hK K
          try simp only [Act.put, List.setIfInBounds_toArray, List.set_cons_zero, List.set_cons_succ]
          obtain ⟨cs, hcsb, hcs1, hcs2⟩ := built_maker (.slice (some ⟨V0.heap.size, 0, none⟩) n n) (.slice (some ⟨V1.heap.size, 0, none⟩) n n) (.map (some V2.heap.size)) rfl rfl rfl
          refine wpAnyH_ready (rs := [7]) (by kernel_rfl) (by simp) ?_
          refine AllReadyH.cons (gatL (gatS (gatS (gatS (gatS (gatS (gatS (gatS gatZ)))))))) (fun K hK => ?_) AllReadyH.nil
          refine step_build3 rfl 77 1 2 4 _ _ _ _ _ _ rfl rfl rfl rfl cs hcsb ?_
          refine hK.out _ _ ?_ (fun hHeld => ?_)
          · exact hS3
          clear hK K
          try simp only [Act.put, List.setIfInBounds_toArray, List.set_cons_zero, List.set_cons_succ]
          refine wpAnyH_ready (rs := [8]) (by kernel_rfl) (by simp) ?_
          refine AllReadyH.cons (gatL (gatS (gatS (gatS (gatS (gatS (gatS (gatS (gatS gatZ))))))))) (fun K hK => ?_) AllReadyH.nil
          go_simp
          refine hK.out _ _ ?_ (fun hHeld => ?_)
          · exact (by rw [World.cell?_alloc_lt _ _ _ (World.block_lt_of_cell? _ _ hS3)]; exact hS3)
          clear hK K
          try simp only [Act.put, List.setIfInBounds_toArray, List.set_cons_zero, List.set_cons_succ]
          refine wpAnyH_take (i := 9) (v := ?_) (gatL (gatS (gatS (gatS (gatS (gatS (gatS (gatS (gatS (gatS gatZ)))))))))) (by kernel_rfl) (by kernel_rfl) (by kernel_rfl) (fun _ _ _ h => h) (Or.inl ⟨by rfl, ?_⟩) (by assumption) ?_
          rotate_left
          · intro w hSw
            try dsimp only at hSw
            go_simp
            all_goals with_reducible rfl
          try simp only [Act.put, List.setIfInBounds_toArray, List.set_cons_zero, List.set_cons_succ]
          refine wpAnyH_done (by kernel_rfl) ?_ _
          go_wp2_with (fail)
          go_meet
          have f_lb : BlkA V1 V0.heap.size 58 n (fun _ => .slice none 0 0) := by rw [← hV1.out, ← hA22.out]; exact BlkA.new _ _ (size_madeCells _ _) (made_lb n _ rfl)
          have f_cb : BlkA V2 V1.heap.size 74 (n * 32) (clG (fun _ => zeroW)) := by rw [← hV2.out, ← hA69.out]; exact BlkA.new _ _ (size_madeCells _ _) (made_cl n _ (by simp [wordsL_len]) (fun k hk => by rw [List.getElem?_toArray]; exact wordsL_at zeroW hk))
          have f_lb := f_lb.alloc A69; rw [hV2.out] at f_lb
          have f_fb : MapS V3 V2.heap.size 0 (fun _ => none) := by rw [← hV3.out]; exact MapS.new V2
          have f_lb := f_lb.alloc (.map #[] 0); rw [hV3.out] at f_lb
          have f_cb := f_cb.alloc (.map #[] 0); rw [hV3.out] at f_cb
          have f_mb : BlkA (V3.alloc (.cells cs 77)) V3.heap.size 77 8457 _ := BlkA.new V3 cs hcs1 hcs2
          have hbb : Below V.heap.size V (V3.alloc (.cells cs 77)) := by rw [← hV3.out, ← hV2.out, ← hV1.out]; exact (((hV0.alloc hV0z _).alloc (by simp; omega) _).alloc (by simp; omega) _).alloc (by simp; omega) _
          have z1 : V1.heap.size = V0.heap.size + 1 := by rw [← hV1.out]; simp
          have z2 : V2.heap.size = V1.heap.size + 1 := by rw [← hV2.out]; simp
          have z3 : V3.heap.size = V2.heap.size + 1 := by rw [← hV3.out]; simp
          exact ⟨_, _, _, _, rfl, Lib.hid ⟨hbb, f_mb, f_cb.alloc _, f_lb.alloc _, f_fb.alloc _, by omega⟩⟩
      ·
        go_simp
        obtain ⟨V2, hV2⟩ : ∃ W, Hid (V1.alloc (.map #[] 0) = W) := ⟨_, Lib.hid rfl⟩
        rw [hV2.out]
        have hS2 : V2.cell? ⟨X, 0, none⟩ = some (.int .i64 (n : Int)) := by rw [← hV2.out, World.cell?_alloc_lt _ _ _ (World.block_lt_of_cell? _ _ hS1)]; exact hS1
        refine hK.out _ _ ?_ (fun hHeld => ?_)
        · exact hS2
        clear hK K
        try simp only [Act.put, List.setIfInBounds_toArray, List.set_cons_zero, List.set_cons_succ]
        refine wpAnyH_ready (rs := [5]) (by kernel_rfl) (by simp) ?_
        refine AllReadyH.cons (gatL (gatS (gatS (gatS (gatS (gatS gatZ)))))) (fun K hK => ?_) (AllReadyH.nil)
        ·
          go_simp
          obtain ⟨V3, hV3⟩ : ∃ W, Hid (V2.alloc A69 = W) := ⟨_, Lib.hid rfl⟩
          rw [hV3.out]
          have hS3 : V3.cell? ⟨X, 0, none⟩ = some (.int .i64 (n : Int)) := by rw [← hV3.out, World.cell?_alloc_lt _ _ _ (World.block_lt_of_cell? _ _ hS2)]; exact hS2
          refine hK.out _ _ ?_ (fun hHeld => ?_)
          · exact hS3
          clear hK K
          try simp only [Act.put, List.setIfInBounds_toArray, List.set_cons_zero, List.set_cons_succ]
          obtain ⟨cs, hcsb, hcs1, hcs2⟩ := built_maker (.slice (some ⟨V0.heap.size, 0, none⟩) n n) (.slice (some ⟨V2.heap.size, 0, none⟩) n n) (.map (some V1.heap.size)) rfl rfl rfl
          refine wpAnyH_ready (rs := [7]) (by kernel_rfl) (by simp) ?_
          refine AllReadyH.cons (gatL (gatS (gatS (gatS (gatS (gatS (gatS (gatS gatZ)))))))) (fun K hK => ?_) AllReadyH.nil
          refine step_build3 rfl 77 1 2 4 _ _ _ _ _ _ rfl rfl rfl rfl cs hcsb ?_
          refine hK.out _ _ ?_ (fun hHeld => ?_)
          · exact hS3
          clear hK K
          try simp only [Act.put, List.setIfInBounds_toArray, List.set_cons_zero, List.set_cons_succ]
          refine wpAnyH_ready (rs := [8]) (by kernel_rfl) (by simp) ?_
          refine AllReadyH.cons (gatL (gatS (gatS (gatS (gatS (gatS (gatS (gatS (gatS gatZ))))))))) (fun K hK => ?_) AllReadyH.nil
          go_simp
          refine hK.out _ _ ?_ (fun hHeld => ?_)
          · exact (by rw [World.cell?_alloc_lt _ _ _ (World.block_lt_of_cell? _ _ hS3)]; exact hS3)
          clear hK K
          try simp only [Act.put, List.setIfInBounds_toArray, List.set_cons_zero, List.set_cons_succ]
          refine wpAnyH_take (i := 9) (v := ?_) (gatL (gatS (gatS (gatS (gatS (gatS (gatS (gatS (gatS (gatS gatZ)))))))))) (by kernel_rfl) (by kernel_rfl) (by kernel_rfl) (fun _ _ _ h => h) (Or.inl ⟨by rfl, ?_⟩) (by assumption) ?_
          rotate_left
          · intro w hSw
            try dsimp only at hSw
            go_simp
            all_goals with_reducible rfl
          try simp only [Act.put, List.setIfInBounds_toArray, List.set_cons_zero, List.set_cons_succ]
          refine wpAnyH_done (by kernel_rfl) ?_ _
          go_wp2_with (fail)
          go_meet
          have f_lb : BlkA V1 V0.heap.size 58 n (fun _ => .slice none 0 0) := by rw [← hV1.out, ← hA22.out]; exact BlkA.new _ _ (size_madeCells _ _) (made_lb n _ rfl)
          have f_fb : MapS V2 V1.heap.size 0 (fun _ => none) := by rw [← hV2.out]; exact MapS.new V1
          have f_lb := f_lb.alloc (.map #[] 0); rw [hV2.out] at f_lb
          have f_cb : BlkA V3 V2.heap.size 74 (n * 32) (clG (fun _ => zeroW)) := by rw [← hV3.out, ← hA69.out]; exact BlkA.new _ _ (size_madeCells _ _) (made_cl n _ (by simp [wordsL_len]) (fun k hk => by rw [List.getElem?_toArray]; exact wordsL_at zeroW hk))
          have f_lb := f_lb.alloc A69; rw [hV3.out] at f_lb
          have f_fb := f_fb.alloc A69; rw [hV3.out] at f_fb
          have f_mb : BlkA (V3.alloc (.cells cs 77)) V3.heap.size 77 8457 _ := BlkA.new V3 cs hcs1 hcs2
          have hbb : Below V.heap.size V (V3.alloc (.cells cs 77)) := by rw [← hV3.out, ← hV2.out, ← hV1.out]; exact (((hV0.alloc hV0z _).alloc (by simp; omega) _).alloc (by simp; omega) _).alloc (by simp; omega) _
          have z1 : V1.heap.size = V0.heap.size + 1 := by rw [← hV1.out]; simp
          have z2 : V2.heap.size = V1.heap.size + 1 := by rw [← hV2.out]; simp
          have z3 : V3.heap.size = V2.heap.size + 1 := by rw [← hV3.out]; simp
          exact ⟨_, _, _, _, rfl, Lib.hid ⟨hbb, f_mb, f_cb.alloc _, f_lb.alloc _, f_fb.alloc _, by omega⟩⟩
    ·
      go_simp
      obtain ⟨V1, hV1⟩ : ∃ W, Hid (V0.alloc A69 = W) := ⟨_, Lib.hid rfl⟩
      rw [hV1.out]
      have hS1 : V1.cell? ⟨X, 0, none⟩ = some (.int .i64 (n : Int)) := by rw [← hV1.out, World.cell?_alloc_lt _ _ _ (World.block_lt_of_cell? _ _ hS0)]; exact hS0
      refine hK.out _ _ ?_ (fun hHeld => ?_)
      · exact hS1
      clear hK K
      try simp only [Act.put, List.setIfInBounds_toArray, List.set_cons_zero, List.set_cons_succ]
      refine wpAnyH_ready (rs := [2, 6]) (by kernel_rfl) (by simp) ?_
      refine AllReadyH.cons (gatL (gatS (gatS gatZ))) (fun K hK => ?_) (AllReadyH.cons (gatL (gatS (gatS (gatS (gatS (gatS (gatS gatZ))))))) (fun K hK => ?_) (AllReadyH.nil))
      ·
        go_simp
        obtain ⟨V2, hV2⟩ : ∃ W, Hid (V1.alloc A22 = W) := ⟨_, Lib.hid rfl⟩
        rw [hV2.out]
        have hS2 : V2.cell? ⟨X, 0, none⟩ = some (.int .i64 (n : Int)) := by rw [← hV2.out, World.cell?_alloc_lt _ _ _ (World.block_lt_of_cell? _ _ hS1)]; exact hS1
        refine hK.out _ _ ?_ (fun hHeld => ?_)
        · exact hS2
        clear hK K
        try simp only [Act.put, List.setIfInBounds_toArray, List.set_cons_zero, List.set_cons_succ]
        refine wpAnyH_ready (rs := [6]) (by kernel_rfl) (by simp) ?_
        refine AllReadyH.cons (gatL (gatS (gatS (gatS (gatS (gatS (gatS gatZ))))))) (fun K hK => ?_) (AllReadyH.nil)
        ·
          go_simp
          obtain ⟨V3, hV3⟩ : ∃ W, Hid (V2.alloc (.map #[] 0) = W) := ⟨_, Lib.hid rfl⟩
          rw [hV3.out]
          have hS3 : V3.cell? ⟨X, 0, none⟩ = some (.int .i64 (n : Int)) := by rw [← hV3.out, World.cell?_alloc_lt _ _ _ (World.block_lt_of_cell? _ _ hS2)]; exact hS2
          refine hK.out _ _ ?_ (fun hHeld => ?_)
          · exact hS3
          clear hK K
          try simp only [Act.put, List.setIfInBounds_toArray, List.set_cons_zero, List.set_cons_succ]
          obtain ⟨cs, hcsb, hcs1, hcs2⟩ := built_maker (.slice (some ⟨V1.heap.size, 0, none⟩) n n) (.slice (some ⟨V0.heap.size, 0, none⟩) n n) (.map (some V2.heap.size)) rfl rfl rfl
          refine wpAnyH_ready (rs := [7]) (by kernel_rfl) (by simp) ?_
          refine AllReadyH.cons (gatL (gatS (gatS (gatS (gatS (gatS (gatS (gatS gatZ)))))))) (fun K hK => ?_) AllReadyH.nil
          refine step_build3 rfl 77 1 2 4 _ _ _ _ _ _ rfl rfl rfl rfl cs hcsb ?_
          refine hK.out _ _ ?_ (fun hHeld => ?_)
          · exact hS3
          clear hK K
          try simp only [Act.put, List.setIfInBounds_toArray, List.set_cons_zero, List.set_cons_succ]
          refine wpAnyH_ready (rs := [8]) (by kernel_rfl) (by simp) ?_
          refine AllReadyH.cons (gatL (gatS (gatS (gatS (gatS (gatS (gatS (gatS (gatS gatZ))))))))) (fun K hK => ?_) AllReadyH.nil
          go_simp
          refine hK.out _ _ ?_ (fun hHeld => ?_)
          · exact (by rw [World.cell?_alloc_lt _ _ _ (World.block_lt_of_cell? _ _ hS3)]; exact hS3)
          clear hK K
          try simp only [Act.put, List.setIfInBounds_toArray, List.set_cons_zero, List.set_cons_succ]
          refine wpAnyH_take (i := 9) (v := ?_) (gatL (gatS (gatS (gatS (gatS (gatS (gatS (gatS (gatS (gatS gatZ)))))))))) (by kernel_rfl) (by kernel_rfl) (by kernel_rfl) (fun _ _ _ h => h) (Or.inl ⟨by rfl, ?_⟩) (by assumption) ?_
          rotate_left
          · intro w hSw
            try dsimp only at hSw
            go_simp
            all_goals with_reducible rfl
          try simp only [Act.put, List.setIfInBounds_toArray, List.set_cons_zero, List.set_cons_succ]
          refine wpAnyH_done (by kernel_rfl) ?_ _
          go_wp2_with (fail)
          go_meet
          have f_cb : BlkA V1 V0.heap.size 74 (n * 32) (clG (fun _ => zeroW)) := by rw [← hV1.out, ← hA69.out]; exact BlkA.new _ _ (size_madeCells _ _) (made_cl n _ (by simp [wordsL_len]) (fun k hk => by rw [List.getElem?_toArray]; exact wordsL_at zeroW hk))
          have f_lb : BlkA V2 V1.heap.size 58 n (fun _ => .slice none 0 0) := by rw [← hV2.out, ← hA22.out]; exact BlkA.new _ _ (size_madeCells _ _) (made_lb n _ rfl)
          have f_cb := f_cb.alloc A22; rw [hV2.out] at f_cb
          have f_fb : MapS V3 V2.heap.size 0 (fun _ => none) := by rw [← hV3.out]; exact MapS.new V2
          have f_cb := f_cb.alloc (.map #[] 0); rw [hV3.out] at f_cb
          have f_lb := f_lb.alloc (.map #[] 0); rw [hV3.out] at f_lb
          have f_mb : BlkA (V3.alloc (.cells cs 77)) V3.heap.size 77 8457 _ := BlkA.new V3 cs hcs1 hcs2
          have hbb : Below V.heap.size V (V3.alloc (.cells cs 77)) := by rw [← hV3.out, ← hV2.out, ← hV1.out]; exact (((hV0.alloc hV0z _).alloc (by simp; omega) _).alloc (by simp; omega) _).alloc (by simp; omega) _
          have z1 : V1.heap.size = V0.heap.size + 1 := by rw [← hV1.out]; simp
          have z2 : V2.heap.size = V1.heap.size + 1 := by rw [← hV2.out]; simp
          have z3 : V3.heap.size = V2.heap.size + 1 := by rw [← hV3.out]; simp
          exact ⟨_, _, _, _, rfl, Lib.hid ⟨hbb, f_mb, f_cb.alloc _, f_lb.alloc _, f_fb.alloc _, by omega⟩⟩
      ·
        go_simp
        obtain ⟨V2, hV2⟩ : ∃ W, Hid (V1.alloc (.map #[] 0) = W) := ⟨_, Lib.hid rfl⟩
        rw [hV2.out]
        have hS2 : V2.cell? ⟨X, 0, none⟩ = some (.int .i64 (n : Int)) := by rw [← hV2.out, World.cell?_alloc_lt _ _ _ (World.block_lt_of_cell? _ _ hS1)]; exact hS1
        refine hK.out _ _ ?_ (fun hHeld => ?_)
        · exact hS2
        clear hK K
        try simp only [Act.put, List.setIfInBounds_toArray, List.set_cons_zero, List.set_cons_succ]
        refine wpAnyH_ready (rs := [2]) (by kernel_rfl) (by simp) ?_
        refine AllReadyH.cons (gatL (gatS (gatS gatZ))) (fun K hK => ?_) (AllReadyH.nil)
        ·
          go_simp
          obtain ⟨V3, hV3⟩ : ∃ W, Hid (V2.alloc A22 = W) := ⟨_, Lib.hid rfl⟩
          rw [hV3.out]
          have hS3 : V3.cell? ⟨X, 0, none⟩ = some (.int .i64 (n : Int)) := by rw [← hV3.out, World.cell?_alloc_lt _ _ _ (World.block_lt_of_cell? _ _ hS2)]; exact hS2
          refine hK.out _ _ ?_ (fun hHeld => ?_)
          · exact hS3
          clear hK K
          try simp only [Act.put, List.setIfInBounds_toArray, List.set_cons_zero, List.set_cons_succ]
          obtain ⟨cs, hcsb, hcs1, hcs2⟩ := built_maker (.slice (some ⟨V2.heap.size, 0, none⟩) n n) (.slice (some ⟨V0.heap.size, 0, none⟩) n n) (.map (some V1.heap.size)) rfl rfl rfl
          refine wpAnyH_ready (rs := [7]) (by kernel_rfl) (by simp) ?_
          refine AllReadyH.cons (gatL (gatS (gatS (gatS (gatS (gatS (gatS (gatS gatZ)))))))) (fun K hK => ?_) AllReadyH.nil
          refine step_build3 rfl 77 1 2 4 _ _ _ _ _ _ rfl rfl rfl rfl cs hcsb ?_
          refine hK.out _ _ ?_ (fun hHeld => ?_)
          · exact hS3
          clear hK K
          try simp only [Act.put, List.setIfInBounds_toArray, List.set_cons_zero, List.set_cons_succ]
          refine wpAnyH_ready (rs := [8]) (by kernel_rfl) (by simp) ?_
          refine AllReadyH.cons (gatL (gatS (gatS (gatS (gatS (gatS (gatS (gatS (gatS gatZ))))))))) (fun K hK => ?_) AllReadyH.nil
          go_simp
          refine hK.out _ _ ?_ (fun hHeld => ?_)
          · exact (by rw [World.cell?_alloc_lt _ _ _ (World.block_lt_of_cell? _ _ hS3)]; exact hS3)
          clear hK K
          try simp only [Act.put, List.setIfInBounds_toArray, List.set_cons_zero, List.set_cons_succ]
          refine wpAnyH_take (i := 9) (v := ?_) (gatL (gatS (gatS (gatS (gatS (gatS (gatS (gatS (gatS (gatS gatZ)))))))))) (by kernel_rfl) (by kernel_rfl) (by kernel_rfl) (fun _ _ _ h => h) (Or.inl ⟨by rfl, ?_⟩) (by assumption) ?_
          rotate_left
          · intro w hSw
            try dsimp only at hSw
            go_simp
            all_goals with_reducible rfl
          try simp only [Act.put, List.setIfInBounds_toArray, List.set_cons_zero, List.set_cons_succ]
          refine wpAnyH_done (by kernel_rfl) ?_ _
          go_wp2_with (fail)
          go_meet
          have f_cb : BlkA V1 V0.heap.size 74 (n * 32) (clG (fun _ => zeroW)) := by rw [← hV1.out, ← hA69.out]; exact BlkA.new _ _ (size_madeCells _ _) (made_cl n _ (by simp [wordsL_len]) (fun k hk => by rw [List.getElem?_toArray]; exact wordsL_at zeroW hk))
          have f_fb : MapS V2 V1.heap.size 0 (fun _ => none) := by rw [← hV2.out]; exact MapS.new V1
          have f_cb := f_cb.alloc (.map #[] 0); rw [hV2.out] at f_cb
          have f_lb : BlkA V3 V2.heap.size 58 n (fun _ => .slice none 0 0) := by rw [← hV3.out, ← hA22.out]; exact BlkA.new _ _ (size_madeCells _ _) (made_lb n _ rfl)
          have f_cb := f_cb.alloc A22; rw [hV3.out] at f_cb
          have f_fb := f_fb.alloc A22; rw [hV3.out] at f_fb
          have f_mb : BlkA (V3.alloc (.cells cs 77)) V3.heap.size 77 8457 _ := BlkA.new V3 cs hcs1 hcs2
          have hbb : Below V.heap.size V (V3.alloc (.cells cs 77)) := by rw [← hV3.out, ← hV2.out, ← hV1.out]; exact (((hV0.alloc hV0z _).alloc (by simp; omega) _).alloc (by simp; omega) _).alloc (by simp; omega) _
          have z1 : V1.heap.size = V0.heap.size + 1 := by rw [← hV1.out]; simp
          have z2 : V2.heap.size = V1.heap.size + 1 := by rw [← hV2.out]; simp
          have z3 : V3.heap.size = V2.heap.size + 1 := by rw [← hV3.out]; simp
          exact ⟨_, _, _, _, rfl, Lib.hid ⟨hbb, f_mb, f_cb.alloc _, f_lb.alloc _, f_fb.alloc _, by omega⟩⟩
    ·
      go_simp
      obtain ⟨V1, hV1⟩ : ∃ W, Hid (V0.alloc (.map #[] 0) = W) := ⟨_, Lib.hid rfl⟩
      rw [hV1.out]
      have hS1 : V1.cell? ⟨X, 0, none⟩ = some (.int .i64 (n : Int)) := by rw [← hV1.out, World.cell?_alloc_lt _ _ _ (World.block_lt_of_cell? _ _ hS0)]; exact hS0
      refine hK.out _ _ ?_ (fun hHeld => ?_)
      · exact hS1
      clear hK K
      try simp only [Act.put, List.setIfInBounds_toArray, List.set_cons_zero, List.set_cons_succ]
      refine wpAnyH_ready (rs := [2, 5]) (by kernel_rfl) (by simp) ?_
      refine AllReadyH.cons (gatL (gatS (gatS gatZ))) (fun K hK => ?_) (AllReadyH.cons (gatL (gatS (gatS (gatS (gatS (gatS gatZ)))))) (fun K hK => ?_) (AllReadyH.nil))
      ·
        go_simp
        obtain ⟨V2, hV2⟩ : ∃ W, Hid (V1.alloc A22 = W) := ⟨_, Lib.hid rfl⟩
        rw [hV2.out]
        have hS2 : V2.cell? ⟨X, 0, none⟩ = some (.int .i64 (n : Int)) := by rw [← hV2.out, World.cell?_alloc_lt _ _ _ (World.block_lt_of_cell? _ _ hS1)]; exact hS1
        refine hK.out _ _ ?_ (fun hHeld => ?_)
        · exact hS2
        clear hK K
        try simp only [Act.put, List.setIfInBounds_toArray, List.set_cons_zero, List.set_cons_succ]
        refine wpAnyH_ready (rs := [5]) (by kernel_rfl) (by simp) ?_
        refine AllReadyH.cons (gatL (gatS (gatS (gatS (gatS (gatS gatZ)))))) (fun K hK => ?_) (AllReadyH.nil)
        ·
          go_simp
          obtain ⟨V3, hV3⟩ : ∃ W, Hid (V2.alloc A69 = W) := ⟨_, Lib.hid rfl⟩
          rw [hV3.out]
          have hS3 : V3.cell? ⟨X, 0, none⟩ = some (.int .i64 (n : Int)) := by rw [← hV3.out, World.cell?_alloc_lt _ _ _ (World.block_lt_of_cell? _ _ hS2)]; exact hS2
          refine hK.out _ _ ?_ (fun hHeld => ?_)
          · exact hS3
          clear hK K
          try simp only [Act.put, List.setIfInBounds_toArray, List.set_cons_zero, List.set_cons_succ]
          obtain ⟨cs, hcsb, hcs1, hcs2⟩ := built_maker (.slice (some ⟨V1.heap.size, 0, none⟩) n n) (.slice (some ⟨V2.heap.size, 0, none⟩) n n) (.map (some V0.heap.size)) rfl rfl rfl
          refine wpAnyH_ready (rs := [7]) (by kernel_rfl) (by simp) ?_
          refine AllReadyH.cons (gatL (gatS (gatS (gatS (gatS (gatS (gatS (gatS gatZ)))))))) (fun K hK => ?_) AllReadyH.nil
          refine step_build3 rfl 77 1 2 4 _ _ _ _ _ _ rfl rfl rfl rfl cs hcsb ?_
          refine hK.out _ _ ?_ (fun hHeld => ?_)
          · exact hS3
          clear hK K
          try simp only [Act.put, List.setIfInBounds_toArray, List.set_cons_zero, List.set_cons_succ]
          refine wpAnyH_ready (rs := [8]) (by kernel_rfl) (by simp) ?_
          refine AllReadyH.cons (gatL (gatS (gatS (gatS (gatS (gatS (gatS (gatS (gatS gatZ))))))))) (fun K hK => ?_) AllReadyH.nil
          go_simp
          refine hK.out _ _ ?_ (fun hHeld => ?_)
          · exact (by rw [World.cell?_alloc_lt _ _ _ (World.block_lt_of_cell? _ _ hS3)]; exact hS3)
          clear hK K
          try simp only [Act.put, List.setIfInBounds_toArray, List.set_cons_zero, List.set_cons_succ]
          refine wpAnyH_take (i := 9) (v := ?_) (gatL (gatS (gatS (gatS (gatS (gatS (gatS (gatS (gatS (gatS gatZ)))))))))) (by kernel_rfl) (by kernel_rfl) (by kernel_rfl) (fun _ _ _ h => h) (Or.inl ⟨by rfl, ?_⟩) (by assumption) ?_
          rotate_left
          · intro w hSw
            try dsimp only at hSw
            go_simp
            all_goals with_reducible rfl
          try simp only [Act.put, List.setIfInBounds_toArray, List.set_cons_zero, List.set_cons_succ]
          refine wpAnyH_done (by kernel_rfl) ?_ _
          go_wp2_with (fail)
          go_meet
          have f_fb : MapS V1 V0.heap.size 0 (fun _ => none) := by rw [← hV1.out]; exact MapS.new V0
          have f_lb : BlkA V2 V1.heap.size 58 n (fun _ => .slice none 0 0) := by rw [← hV2.out, ← hA22.out]; exact BlkA.new _ _ (size_madeCells _ _) (made_lb n _ rfl)
          have f_fb := f_fb.alloc A22; rw [hV2.out] at f_fb
          have f_cb : BlkA V3 V2.heap.size 74 (n * 32) (clG (fun _ => zeroW)) := by rw [← hV3.out, ← hA69.out]; exact BlkA.new _ _ (size_madeCells _ _) (made_cl n _ (by simp [wordsL_len]) (fun k hk => by rw [List.getElem?_toArray]; exact wordsL_at zeroW hk))
          have f_fb := f_fb.alloc A69; rw [hV3.out] at f_fb
          have f_lb := f_lb.alloc A69; rw [hV3.out] at f_lb
          have f_mb : BlkA (V3.alloc (.cells cs 77)) V3.heap.size 77 8457 _ := BlkA.new V3 cs hcs1 hcs2
          have hbb : Below V.heap.size V (V3.alloc (.cells cs 77)) := by rw [← hV3.out, ← hV2.out, ← hV1.out]; exact (((hV0.alloc hV0z _).alloc (by simp; omega) _).alloc (by simp; omega) _).alloc (by simp; omega) _
          have z1 : V1.heap.size = V0.heap.size + 1 := by rw [← hV1.out]; simp
          have z2 : V2.heap.size = V1.heap.size + 1 := by rw [← hV2.out]; simp
          have z3 : V3.heap.size = V2.heap.size + 1 := by rw [← hV3.out]; simp
          exact ⟨_, _, _, _, rfl, Lib.hid ⟨hbb, f_mb, f_cb.alloc _, f_lb.alloc _, f_fb.alloc _, by omega⟩⟩
      ·
        go_simp
        obtain ⟨V2, hV2⟩ : ∃ W, Hid (V1.alloc A69 = W) := ⟨_, Lib.hid rfl⟩
        rw [hV2.out]
        have hS2 : V2.cell? ⟨X, 0, none⟩ = some (.int .i64 (n : Int)) := by rw [← hV2.out, World.cell?_alloc_lt _ _ _ (World.block_lt_of_cell? _ _ hS1)]; exact hS1
        refine hK.out _ _ ?_ (fun hHeld => ?_)
        · exact hS2
        clear hK K
        try simp only [Act.put, List.setIfInBounds_toArray, List.set_cons_zero, List.set_cons_succ]
        refine wpAnyH_ready (rs := [2]) (by kernel_rfl) (by simp) ?_
        refine AllReadyH.cons (gatL (gatS (gatS gatZ))) (fun K hK => ?_) (AllReadyH.nil)
        ·
          go_simp
          obtain ⟨V3, hV3⟩ : ∃ W, Hid (V2.alloc A22 = W) := ⟨_, Lib.hid rfl⟩
          rw [hV3.out]
          have hS3 : V3.cell? ⟨X, 0, none⟩ = some (.int .i64 (n : Int)) := by rw [← hV3.out, World.cell?_alloc_lt _ _ _ (World.block_lt_of_cell? _ _ hS2)]; exact hS2
          refine hK.out _ _ ?_ (fun hHeld => ?_)
          · exact hS3
          clear hK K
          try simp only [Act.put, List.setIfInBounds_toArray, List.set_cons_zero, List.set_cons_succ]
          obtain ⟨cs, hcsb, hcs1, hcs2⟩ := built_maker (.slice (some ⟨V2.heap.size, 0, none⟩) n n) (.slice (some ⟨V1.heap.size, 0, none⟩) n n) (.map (some V0.heap.size)) rfl rfl rfl
          refine wpAnyH_ready (rs := [7]) (by kernel_rfl) (by simp) ?_
          refine AllReadyH.cons (gatL (gatS (gatS (gatS (gatS (gatS (gatS (gatS gatZ)))))))) (fun K hK => ?_) AllReadyH.nil
          refine step_build3 rfl 77 1 2 4 _ _ _ _ _ _ rfl rfl rfl rfl cs hcsb ?_
          refine hK.out _ _ ?_ (fun hHeld => ?_)
          · exact hS3
          clear hK K
          try simp only [Act.put, List.setIfInBounds_toArray, List.set_cons_zero, List.set_cons_succ]
          refine wpAnyH_ready (rs := [8]) (by kernel_rfl) (by simp) ?_
          refine AllReadyH.cons (gatL (gatS (gatS (gatS (gatS (gatS (gatS (gatS (gatS gatZ))))))))) (fun K hK => ?_) AllReadyH.nil
          go_simp
          refine hK.out _ _ ?_ (fun hHeld => ?_)
          · exact (by rw [World.cell?_alloc_lt _ _ _ (World.block_lt_of_cell? _ _ hS3)]; exact hS3)
          clear hK K
          try simp only [Act.put, List.setIfInBounds_toArray, List.set_cons_zero, List.set_cons_succ]
          refine wpAnyH_take (i := 9) (v := ?_) (gatL (gatS (gatS (gatS (gatS (gatS (gatS (gatS (gatS (gatS gatZ)))))))))) (by kernel_rfl) (by kernel_rfl) (by kernel_rfl) (fun _ _ _ h => h) (Or.inl ⟨by rfl, ?_⟩) (by assumption) ?_
          rotate_left
          · intro w hSw
            try dsimp only at hSw
            go_simp
            all_goals with_reducible rfl
          try simp only [Act.put, List.setIfInBounds_toArray, List.set_cons_zero, List.set_cons_succ]
          refine wpAnyH_done (by kernel_rfl) ?_ _
          go_wp2_with (fail)
          go_meet
          have f_fb : MapS V1 V0.heap.size 0 (fun _ => none) := by rw [← hV1.out]; exact MapS.new V0
          have f_cb : BlkA V2 V1.heap.size 74 (n * 32) (clG (fun _ => zeroW)) := by rw [← hV2.out, ← hA69.out]; exact BlkA.new _ _ (size_madeCells _ _) (made_cl n _ (by simp [wordsL_len]) (fun k hk => by rw [List.getElem?_toArray]; exact wordsL_at zeroW hk))
          have f_fb := f_fb.alloc A69; rw [hV2.out] at f_fb
          have f_lb : BlkA V3 V2.heap.size 58 n (fun _ => .slice none 0 0) := by rw [← hV3.out, ← hA22.out]; exact BlkA.new _ _ (size_madeCells _ _) (made_lb n _ rfl)
          have f_fb := f_fb.alloc A22; rw [hV3.out] at f_fb
          have f_cb := f_cb.alloc A22; rw [hV3.out] at f_cb
          have f_mb : BlkA (V3.alloc (.cells cs 77)) V3.heap.size 77 8457 _ := BlkA.new V3 cs hcs1 hcs2
          have hbb : Below V.heap.size V (V3.alloc (.cells cs 77)) := by rw [← hV3.out, ← hV2.out, ← hV1.out]; exact (((hV0.alloc hV0z _).alloc (by simp; omega) _).alloc (by simp; omega) _).alloc (by simp; omega) _
          have z1 : V1.heap.size = V0.heap.size + 1 := by rw [← hV1.out]; simp
          have z2 : V2.heap.size = V1.heap.size + 1 := by rw [← hV2.out]; simp
          have z3 : V3.heap.size = V2.heap.size + 1 := by rw [← hV3.out]; simp
          exact ⟨_, _, _, _, rfl, Lib.hid ⟨hbb, f_mb, f_cb.alloc _, f_lb.alloc _, f_fb.alloc _, by omega⟩⟩
  case rest =>
    obtain ⟨lb, cb, fb, mb, rfl, HN⟩ := hcut
    have hbc := HN.out.bel
    have y0 := cell_kept (below_grownBy hbc none) (hbx.cell 0) (by simp)
    have y1 := cell_kept (below_grownBy hbc none) (hbx.cell 1) (by simp)
    have y3 := cell_kept (below_grownBy hbc none) (hbx.cell 3) (by simp)
    have HXc := Lib.hid (HX.out.grown hbc)
    have hXm : X < V.heap.size := hbx.lt
    have hXm2 : X ≠ mb := by have := HN.out.lo.1; omega
    have hXm3 : mb ≠ X := fun h => hXm2 h.symm
    have z0 := HN.out.mkr.cell (j := 0) (by omega)
    have z1 := HN.out.mkr.cell (j := 1) (by omega)
    have z2 := HN.out.mkr.cell (j := 2) (by omega)
    have z3 := HN.out.mkr.cell (j := 3) (by omega)
    have zf := HN.out.mkr.frozen
    have zl := HN.out.mkr.lt
    have k1 := (((HN.out.mkr.set (j := 0) (by omega) (.int .i64 (n : Int))).set (j := 1) (by omega) (.int .i64 x.s)).set (j := 2) (by omega) (.slice none 0 0)).set (j := 3) (by omega) (.slice none 0 0)
    clear hbc
    dsimp only [zG, Nat.reduceLT, if_true] at z0 z1 z2 z3
    have g4 := grownBy_trans (grownBy_trans (grownBy_trans (grownBy_set wc mb 0 (.int .i64 (n : Int))) (grownBy_set _ mb 1 (.int .i64 x.s)) (fun i e => .inl e)) (grownBy_set _ mb 2 (.slice none 0 0)) (fun i e => .inl e)) (grownBy_set _ mb 3 (.slice none 0 0)) (fun i e => .inl e)
    obtain ⟨W2, hW2⟩ : ∃ W, Hid ((((wc.setCell ⟨mb, 0, none⟩ (.int .i64 (n : Int))).setCell ⟨mb, 1, none⟩ (.int .i64 x.s)).setCell ⟨mb, 2, none⟩ (.slice none 0 0)).setCell ⟨mb, 3, none⟩ (.slice none 0 0) = W) := ⟨_, Lib.hid rfl⟩
    rw [hW2.out] at g4 k1
    have HN2 : Hid (NmAt V W2 ⟨mb, lb, cb, fb, 0, n, x.s, none, 0, [], List.replicate n ⟨[], none, 0⟩⟩) := Lib.hid (nm0_nm HN.out g4 k1)
    clear g4 k1
    go_upto_region 3 with fail
    rw [hW2.out]
    have y3b : W2.cell? ⟨X, 3, none⟩ = some (.slice p.ga x.es.length p.gc) := cell_kept (below_grownBy HN2.out.bel none) (hbx.cell 3) (by simp)
    have hgc : x.es.length ≤ p.gc ∧ p.gc ≤ 9223372036854775807 := ⟨HX.out.es.le, HX.out.es.max⟩
    obtain ⟨N, hN⟩ : ∃ N, Hid (x.es.length = N) := ⟨_, Lib.hid rfl⟩
    rw [hN.out] at y3b hgc
    clear y0 y1 y3 z0 z1 z2 z3 zf zl HXc hmk22 hmk69 hmm
    go_wp2_with (fail)
    go_loopw [28] (fun iv wr => ∃ (k : Nat) (ea : Option Addr) (ec : Nat) (es : List Eg) (lds : List MvD), k ≤ N ∧ iv = .int .i64 (k : Int) ∧ Hid (NmAt V wr ⟨mb, lb, cb, fb, 0, n, x.s, ea, ec, es, lds⟩) ∧ Hid (es = (x.es.take k).filter (fun e => e.q.isEmpty)) ∧ Hid (∀ s, s < n → (lds.getD s ⟨[], none, 0⟩).l = ldP (x.es.take k) s)) (fun iv _ => N - (intOf iv).toNat)
    case atStart =>
      exact ⟨0, none, 0, [], List.replicate n ⟨[], none, 0⟩, Nat.zero_le _, rfl, HN2, Lib.hid (by simp), Lib.hid (fun s hs => by simp [List.getD_eq_getElem?_getD, hs, ldP])⟩
    case round =>
      obtain ⟨k, ea, ec, es, lds, hk, rfl, HM, HE, HL⟩ := hrel
      have hkI0 : (0 : Int) ≤ (k : Int) := by omega
      by_cases hlt : k < N
      · have hkI : (k : Int) < (N : Int) := by omega
        have hkl : k < x.es.length := by rw [hN.out]; exact hlt
        obtain ⟨b, off, hga⟩ := HX.out.es.at_ k hkl
        obtain ⟨d0, d1, sa, sc, d2, hspV⟩ := HX.out.es.cell b off hga k hkl
        have c0 := cell_up0 HM.out.bel d0
        have c1 := cell_up0 HM.out.bel d1
        have c2 := cell_up0 HM.out.bel d2
        have hsp := hspV.grown HM.out.bel
        clear d0 d1 d2
        have hef := link_edge hl hkl
        obtain ⟨e, he⟩ : ∃ e, Hid (x.es[k] = e) := ⟨_, Lib.hid rfl⟩
        rw [he.out] at c0 c1 c2 hsp hspV hef
        obtain ⟨⟨fr, hfr, hfr2⟩, ⟨t, ht, ht2⟩⟩ := hef
        rw [hfr] at c0
        rw [ht] at c1
        have bl := World.block_lt_of_cell? _ _ c0
        have Hga := Lib.hid hga
        have hqc : e.q.length ≤ sc ∧ sc ≤ 9223372036854775807 := ⟨hsp.le, hsp.max⟩
        have hb5 : Below wr.heap.size wr (wr.alloc (.cells #[.int .i64 (fr : Int), .int .i64 (t : Int), .slice sa e.q.length sc] 61)) := (Below.refl _ wr).alloc (Nat.le_refl _) _
        have hM5 := HM.out.below hb5
        have hsp5 := hsp.grown hb5
        have hbx5 := Blk.new wr 61 #[.int .i64 (fr : Int), .int .i64 (t : Int), .slice sa e.q.length sc]
        obtain ⟨V5, hV5⟩ : ∃ W, Hid (wr.alloc (.cells #[.int .i64 (fr : Int), .int .i64 (t : Int), .slice sa e.q.length sc] 61) = W) := ⟨_, Lib.hid rfl⟩
        obtain ⟨Y, hY⟩ : ∃ Y, Hid (wr.heap.size = Y) := ⟨_, Lib.hid rfl⟩
        rw [hV5.out] at hM5 hsp5 hbx5
        rw [hY.out] at hbx5
        have hYm : mb ≠ Y ∧ lb ≠ Y := by
          have h1 := HM.out.mkr.lt
          have h2 := HM.out.lb.lt
          rw [hY.out] at h1 h2
          dsimp only at h1 h2
          omega
        have HM5 := Lib.hid hM5
        have Hsp5 := Lib.hid hsp5
        have Hbx5 := Lib.hid hbx5
        have v0 := hbx5.cell 0
        have v1 := hbx5.cell 1
        have v2 := hbx5.cell 2
        clear hM5 hsp5 hbx5 hb5 hsp hga
        rw [Hga.out] at *
        go_upto_region 6 with fail
        rw [hV5.out, hY.out]
        by_cases hq0 : e.q.length = 0
        · have hqn : e.q = [] := List.eq_nil_of_length_eq_zero hq0
          rw [hq0] at v2
          have hM6 := HM5.out.below (Below.refl _ V5).drew
          obtain ⟨vs, hoE, hvE⟩ := hM6.eg
          dsimp only at hoE hvE
          have hle : es.length ≤ 500000 := by
            rw [HE.out]
            exact Nat.le_trans (List.length_filter_le _ _) (by rw [List.length_take]; omega)
          obtain ⟨g2, c2', W6, hrun, ho, hg, hlies, hlt2⟩ := run_pushL V5.drew 30 30 61 _ 3 40 Try.underlying30 info_edge rfl (by decide) [.int .i64 (fr : Int), .int .i64 (t : Int), .slice sa 0 sc] rfl (by intro u hu; simp only [List.mem_cons, List.not_mem_nil, or_false] at hu; rcases hu with rfl | rfl | rfl <;> rfl) hoE (by omega) (by unfold maxLen; omega) hM6.bel.size
          have hEn : EgO W6 V.heap.size (some ⟨g2, 0, none⟩) c2' (es ++ [e]) := egO_push hoE hvE ho hqn hfr ht ⟨sa, sc, rfl, hqc.2, fun h => Hsp5.out.nil_ h⟩
          have hNE := hM6.edge hg hEn
          have hmk6 := hM6.mkr.kept hg (own_blkT hoE hM6.mkr (by decide))
          have x3 := hM6.mkr.cell (j := 3) (by omega)
          have z3 := hmk6.cell (j := 3) (by omega)
          have f3 := hmk6.frozen 3
          have l3 := hmk6.lt
          simp only [mkG, Nat.reduceLT, if_true, List.getD_cons_zero, List.getD_cons_succ] at x3 z3
          have x3a : ∀ o, (V5.alloc o).cell? ⟨mb, 3, none⟩ = some (.slice ea es.length ec) := fun o => by
            have x3w : V5.cell? ⟨mb, 3, none⟩ = some (.slice ea es.length ec) := x3
            rw [World.cell?_alloc_lt _ _ _ (World.block_lt_of_cell? _ _ x3w)]; exact x3w
          have hac := ownW_le hoE
          rw [show (es ++ [e]).length = es.length + 1 from by simp] at hNE
          have hgY : ∀ g, (Value.slice ea es.length ec).ownBlock = some g → g < Y := fun g e0 => by
            obtain ⟨vs0, ho0, _⟩ := HM.out.eg
            obtain ⟨_, cur, h2⟩ := own_typD ho0 g e0
            rw [← hY.out]
            exact (Array.getElem?_eq_some_iff.1 h2).1
          have u2 := cell_kept (grownBy_set W6 mb 3 (.slice (some ⟨g2, 0, none⟩) (es.length + 1) c2')) (cell_kept hg (show V5.drew.cell? ⟨Y, 2, none⟩ = some (.slice sa 0 sc) from v2) (fun e0 => by have := hgY Y e0.symm; omega)) (fun e0 => hYm.1 (by injection e0 with e0; exact e0.symm))
          obtain ⟨W7, hW7⟩ : ∃ W, Hid (W6.setCell ⟨mb, 3, none⟩ (.slice (some ⟨g2, 0, none⟩) (es.length + 1) c2') = W) := ⟨_, Lib.hid rfl⟩
          rw [hW7.out] at hNE u2
          have HNE := Lib.hid hNE
          have HE' : Hid (es ++ [e] = (x.es.take (k + 1)).filter (fun e => e.q.isEmpty)) := Lib.hid (by
            rw [List.take_add_one, List.getElem?_eq_getElem hkl, he.out, List.filter_append, ← HE.out]
            simp [hqn])
          have HL' : Hid (∀ s, s < n → (lds.getD s ⟨[], none, 0⟩).l = ldP (x.es.take (k + 1)) s) := Lib.hid (fun s hs => by
            rw [HL.out s hs, List.take_add_one, List.getElem?_eq_getElem hkl, he.out]
            unfold ldP
            rw [List.flatMap_append]
            simp [hqn])
          have l2 := World.block_lt_of_cell? _ _ u2
          have Hrun := Lib.hid hrun
          clear hM6 hoE hvE ho hg hlies hlt2 hEn hNE hmk6 hrun
          go_wp2_with (fail)
          refine wp_region_held_drew (S := fun w' => True) (by kernel_rfl) ?_ (fun hHeld => ?_)
          · exact trivial
          refine wpAnyH_take (i := 0) (v := ?_) (gatL gatZ) (by kernel_rfl) (by kernel_rfl) (by kernel_rfl) (fun _ _ _ h => h) (Or.inl ⟨by rfl, ?_⟩) (by assumption) ?_
          rotate_left
          · intro w hSw
            try dsimp only at hSw
            go_simp
            all_goals with_reducible rfl
          try simp only [Act.put, List.setIfInBounds_toArray, List.set_cons_zero, List.set_cons_succ]
          refine wpAnyH_take (i := 1) (v := ?_) (gatL (gatS gatZ)) (by kernel_rfl) (by kernel_rfl) (by kernel_rfl) (fun _ _ _ h => h) (Or.inl ⟨by rfl, ?_⟩) (by assumption) ?_
          rotate_left
          · intro w hSw
            try dsimp only at hSw
            go_simp
            all_goals with_reducible rfl
          try simp only [Act.put, List.setIfInBounds_toArray, List.set_cons_zero, List.set_cons_succ]
          refine wpAnyH_take (i := 2) (v := ?_) (gatL (gatS (gatS gatZ))) (by kernel_rfl) (by kernel_rfl) (by kernel_rfl) (fun _ _ _ h => h) (Or.inl ⟨by rfl, ?_⟩) (by assumption) ?_
          rotate_left
          · intro w hSw
            try dsimp only at hSw
            go_simp
            all_goals with_reducible rfl
          try simp only [Act.put, List.setIfInBounds_toArray, List.set_cons_zero, List.set_cons_succ]
          refine wpAnyH_take (i := 3) (v := ?_) (gatL (gatS (gatS (gatS gatZ)))) (by kernel_rfl) (by kernel_rfl) (by kernel_rfl) (fun _ _ _ h => h) (Or.inl ⟨by rfl, ?_⟩) (by assumption) ?_
          rotate_left
          · intro w hSw
            try dsimp only at hSw
            go_simp
            all_goals with_reducible rfl
          try simp only [Act.put, List.setIfInBounds_toArray, List.set_cons_zero, List.set_cons_succ]
          refine wpAnyH_take (i := 4) (v := ?_) (gatL (gatS (gatS (gatS (gatS gatZ))))) (by kernel_rfl) (by kernel_rfl) (by kernel_rfl) (fun _ _ _ h => h) (Or.inl ⟨by rfl, ?_⟩) (by assumption) ?_
          rotate_left
          · intro w hSw
            try dsimp only at hSw
            go_simp
            all_goals with_reducible rfl
          try simp only [Act.put, List.setIfInBounds_toArray, List.set_cons_zero, List.set_cons_succ]
          refine wpAnyH_ready (rs := [5, 6]) (by kernel_rfl) (by simp) ?_
          refine AllReadyH.cons (gatL (gatS (gatS (gatS (gatS (gatS gatZ)))))) (fun K hK => ?_) (AllReadyH.cons (gatL (gatS (gatS (gatS (gatS (gatS (gatS gatZ))))))) (fun K hK => ?_) (AllReadyH.nil))
          ·
            go_simp
            refine hK.out _ _ ?_ (fun hHeld => ?_)
            · exact trivial
            clear hK K
            try simp only [Act.put, List.setIfInBounds_toArray, List.set_cons_zero, List.set_cons_succ]
            refine wpAnyH_ready (rs := [6]) (by kernel_rfl) (by simp) ?_
            refine AllReadyH.cons (gatL (gatS (gatS (gatS (gatS (gatS (gatS gatZ))))))) (fun K hK => ?_) AllReadyH.nil
            go_simp
            refine hK.out _ _ ?_ (fun hHeld => ?_)
            · exact trivial
            clear hK K
            try simp only [Act.put, List.setIfInBounds_toArray, List.set_cons_zero, List.set_cons_succ]
            refine wpAnyH_ready (rs := [7]) (by kernel_rfl) (by simp) ?_
            refine AllReadyH.cons (gatL (gatS (gatS (gatS (gatS (gatS (gatS (gatS gatZ)))))))) (fun K hK => ?_) AllReadyH.nil
            go_simp
            refine hK.out _ _ ?_ (fun hHeld => ?_)
            · exact trivial
            clear hK K
            try simp only [Act.put, List.setIfInBounds_toArray, List.set_cons_zero, List.set_cons_succ]
            refine wpAnyH_ready (rs := [8]) (by kernel_rfl) (by simp) ?_
            refine AllReadyH.cons (gatL (gatS (gatS (gatS (gatS (gatS (gatS (gatS (gatS gatZ))))))))) (fun K hK => ?_) AllReadyH.nil
            refine step_append_run rfl _ _ 30 30 rfl _ _ _ _ rfl rfl Hrun.out ?_
            refine hK.out _ _ ?_ (fun hHeld => ?_)
            · exact trivial
            clear hK K
            try simp only [Act.put, List.setIfInBounds_toArray, List.set_cons_zero, List.set_cons_succ]
            refine wpAnyH_take (i := 9) (v := ?_) (gatL (gatS (gatS (gatS (gatS (gatS (gatS (gatS (gatS (gatS gatZ)))))))))) (by kernel_rfl) (by kernel_rfl) (by kernel_rfl) (fun _ _ _ h => h) (Or.inl ⟨by rfl, ?_⟩) (by assumption) ?_
            rotate_left
            · intro w hSw
              try dsimp only at hSw
              go_simp
              all_goals with_reducible rfl
            try simp only [Act.put, List.setIfInBounds_toArray, List.set_cons_zero, List.set_cons_succ]
            refine wpAnyH_take (i := 10) (v := ?_) (gatL (gatS (gatS (gatS (gatS (gatS (gatS (gatS (gatS (gatS (gatS gatZ))))))))))) (by kernel_rfl) (by kernel_rfl) (by kernel_rfl) (fun _ _ _ h => h) (Or.inl ⟨by rfl, ?_⟩) (by assumption) ?_
            rotate_left
            · intro w hSw
              try dsimp only at hSw
              go_simp
              all_goals with_reducible rfl
            try simp only [Act.put, List.setIfInBounds_toArray, List.set_cons_zero, List.set_cons_succ]
            refine wpAnyH_take (i := 11) (v := ?_) (gatL (gatS (gatS (gatS (gatS (gatS (gatS (gatS (gatS (gatS (gatS (gatS gatZ)))))))))))) (by kernel_rfl) (by kernel_rfl) (by kernel_rfl) (fun _ _ _ h => h) (Or.inl ⟨by rfl, ?_⟩) (by assumption) ?_
            rotate_left
            · intro w hSw
              try dsimp only at hSw
              go_simp
              all_goals with_reducible rfl
            try simp only [Act.put, List.setIfInBounds_toArray, List.set_cons_zero, List.set_cons_succ]
            refine wpAnyH_ready (rs := [12]) (by kernel_rfl) (by simp) ?_
            refine AllReadyH.cons (gatL (gatS (gatS (gatS (gatS (gatS (gatS (gatS (gatS (gatS (gatS (gatS (gatS gatZ))))))))))))) (fun K hK => ?_) AllReadyH.nil
            go_simp
            refine hK.out _ _ ?_ (fun hHeld => ?_)
            · exact trivial
            clear hK K
            try simp only [Act.put, List.setIfInBounds_toArray, List.set_cons_zero, List.set_cons_succ]
            refine wpAnyH_done (by kernel_rfl) ?_ _
            rw [hW7.out]
            go_wp2_with (fail)
            go_loopw [51] (fun iv w7 => iv = .int .i64 0 ∧ w7 = W7) (fun _ _ => 0)
            case atStart => exact ⟨rfl, rfl⟩
            case round =>
              obtain ⟨rfl, rfl⟩ := hrel
              go_wp2_with (fail)
              exact ⟨⟨k + 1, some ⟨g2, 0, none⟩, c2', es ++ [e], lds, by omega, by simp, HNE, HE', HL'⟩, by simp [intOf]; omega⟩
          ·
            go_simp
            refine hK.out _ _ ?_ (fun hHeld => ?_)
            · exact trivial
            clear hK K
            try simp only [Act.put, List.setIfInBounds_toArray, List.set_cons_zero, List.set_cons_succ]
            refine wpAnyH_ready (rs := [5, 7]) (by kernel_rfl) (by simp) ?_
            refine AllReadyH.cons (gatL (gatS (gatS (gatS (gatS (gatS gatZ)))))) (fun K hK => ?_) (AllReadyH.cons (gatL (gatS (gatS (gatS (gatS (gatS (gatS (gatS gatZ)))))))) (fun K hK => ?_) (AllReadyH.nil))
            ·
              go_simp
              refine hK.out _ _ ?_ (fun hHeld => ?_)
              · exact trivial
              clear hK K
              try simp only [Act.put, List.setIfInBounds_toArray, List.set_cons_zero, List.set_cons_succ]
              refine wpAnyH_ready (rs := [7]) (by kernel_rfl) (by simp) ?_
              refine AllReadyH.cons (gatL (gatS (gatS (gatS (gatS (gatS (gatS (gatS gatZ)))))))) (fun K hK => ?_) AllReadyH.nil
              go_simp
              refine hK.out _ _ ?_ (fun hHeld => ?_)
              · exact trivial
              clear hK K
              try simp only [Act.put, List.setIfInBounds_toArray, List.set_cons_zero, List.set_cons_succ]
              refine wpAnyH_ready (rs := [8]) (by kernel_rfl) (by simp) ?_
              refine AllReadyH.cons (gatL (gatS (gatS (gatS (gatS (gatS (gatS (gatS (gatS gatZ))))))))) (fun K hK => ?_) AllReadyH.nil
              refine step_append_run rfl _ _ 30 30 rfl _ _ _ _ rfl rfl Hrun.out ?_
              refine hK.out _ _ ?_ (fun hHeld => ?_)
              · exact trivial
              clear hK K
              try simp only [Act.put, List.setIfInBounds_toArray, List.set_cons_zero, List.set_cons_succ]
              refine wpAnyH_take (i := 9) (v := ?_) (gatL (gatS (gatS (gatS (gatS (gatS (gatS (gatS (gatS (gatS gatZ)))))))))) (by kernel_rfl) (by kernel_rfl) (by kernel_rfl) (fun _ _ _ h => h) (Or.inl ⟨by rfl, ?_⟩) (by assumption) ?_
              rotate_left
              · intro w hSw
                try dsimp only at hSw
                go_simp
                all_goals with_reducible rfl
              try simp only [Act.put, List.setIfInBounds_toArray, List.set_cons_zero, List.set_cons_succ]
              refine wpAnyH_take (i := 10) (v := ?_) (gatL (gatS (gatS (gatS (gatS (gatS (gatS (gatS (gatS (gatS (gatS gatZ))))))))))) (by kernel_rfl) (by kernel_rfl) (by kernel_rfl) (fun _ _ _ h => h) (Or.inl ⟨by rfl, ?_⟩) (by assumption) ?_
              rotate_left
              · intro w hSw
                try dsimp only at hSw
                go_simp
                all_goals with_reducible rfl
              try simp only [Act.put, List.setIfInBounds_toArray, List.set_cons_zero, List.set_cons_succ]
              refine wpAnyH_take (i := 11) (v := ?_) (gatL (gatS (gatS (gatS (gatS (gatS (gatS (gatS (gatS (gatS (gatS (gatS gatZ)))))))))))) (by kernel_rfl) (by kernel_rfl) (by kernel_rfl) (fun _ _ _ h => h) (Or.inl ⟨by rfl, ?_⟩) (by assumption) ?_
              rotate_left
              · intro w hSw
                try dsimp only at hSw
                go_simp
                all_goals with_reducible rfl
              try simp only [Act.put, List.setIfInBounds_toArray, List.set_cons_zero, List.set_cons_succ]
              refine wpAnyH_ready (rs := [12]) (by kernel_rfl) (by simp) ?_
              refine AllReadyH.cons (gatL (gatS (gatS (gatS (gatS (gatS (gatS (gatS (gatS (gatS (gatS (gatS (gatS gatZ))))))))))))) (fun K hK => ?_) AllReadyH.nil
              go_simp
              refine hK.out _ _ ?_ (fun hHeld => ?_)
              · exact trivial
              clear hK K
              try simp only [Act.put, List.setIfInBounds_toArray, List.set_cons_zero, List.set_cons_succ]
              refine wpAnyH_done (by kernel_rfl) ?_ _
              rw [hW7.out]
              go_wp2_with (fail)
              go_loopw [51] (fun iv w7 => iv = .int .i64 0 ∧ w7 = W7) (fun _ _ => 0)
              case atStart => exact ⟨rfl, rfl⟩
              case round =>
                obtain ⟨rfl, rfl⟩ := hrel
                go_wp2_with (fail)
                exact ⟨⟨k + 1, some ⟨g2, 0, none⟩, c2', es ++ [e], lds, by omega, by simp, HNE, HE', HL'⟩, by simp [intOf]; omega⟩
            ·
              go_simp
              refine hK.out _ _ ?_ (fun hHeld => ?_)
              · exact trivial
              clear hK K
              try simp only [Act.put, List.setIfInBounds_toArray, List.set_cons_zero, List.set_cons_succ]
              refine wpAnyH_ready (rs := [5]) (by kernel_rfl) (by simp) ?_
              refine AllReadyH.cons (gatL (gatS (gatS (gatS (gatS (gatS gatZ)))))) (fun K hK => ?_) AllReadyH.nil
              go_simp
              refine hK.out _ _ ?_ (fun hHeld => ?_)
              · exact trivial
              clear hK K
              try simp only [Act.put, List.setIfInBounds_toArray, List.set_cons_zero, List.set_cons_succ]
              refine wpAnyH_ready (rs := [8]) (by kernel_rfl) (by simp) ?_
              refine AllReadyH.cons (gatL (gatS (gatS (gatS (gatS (gatS (gatS (gatS (gatS gatZ))))))))) (fun K hK => ?_) AllReadyH.nil
              refine step_append_run rfl _ _ 30 30 rfl _ _ _ _ rfl rfl Hrun.out ?_
              refine hK.out _ _ ?_ (fun hHeld => ?_)
              · exact trivial
              clear hK K
              try simp only [Act.put, List.setIfInBounds_toArray, List.set_cons_zero, List.set_cons_succ]
              refine wpAnyH_take (i := 9) (v := ?_) (gatL (gatS (gatS (gatS (gatS (gatS (gatS (gatS (gatS (gatS gatZ)))))))))) (by kernel_rfl) (by kernel_rfl) (by kernel_rfl) (fun _ _ _ h => h) (Or.inl ⟨by rfl, ?_⟩) (by assumption) ?_
              rotate_left
              · intro w hSw
                try dsimp only at hSw
                go_simp
                all_goals with_reducible rfl
              try simp only [Act.put, List.setIfInBounds_toArray, List.set_cons_zero, List.set_cons_succ]
              refine wpAnyH_take (i := 10) (v := ?_) (gatL (gatS (gatS (gatS (gatS (gatS (gatS (gatS (gatS (gatS (gatS gatZ))))))))))) (by kernel_rfl) (by kernel_rfl) (by kernel_rfl) (fun _ _ _ h => h) (Or.inl ⟨by rfl, ?_⟩) (by assumption) ?_
              rotate_left
              · intro w hSw
                try dsimp only at hSw
                go_simp
                all_goals with_reducible rfl
              try simp only [Act.put, List.setIfInBounds_toArray, List.set_cons_zero, List.set_cons_succ]
              refine wpAnyH_take (i := 11) (v := ?_) (gatL (gatS (gatS (gatS (gatS (gatS (gatS (gatS (gatS (gatS (gatS (gatS gatZ)))))))))))) (by kernel_rfl) (by kernel_rfl) (by kernel_rfl) (fun _ _ _ h => h) (Or.inl ⟨by rfl, ?_⟩) (by assumption) ?_
              rotate_left
              · intro w hSw
                try dsimp only at hSw
                go_simp
                all_goals with_reducible rfl
              try simp only [Act.put, List.setIfInBounds_toArray, List.set_cons_zero, List.set_cons_succ]
              refine wpAnyH_ready (rs := [12]) (by kernel_rfl) (by simp) ?_
              refine AllReadyH.cons (gatL (gatS (gatS (gatS (gatS (gatS (gatS (gatS (gatS (gatS (gatS (gatS (gatS gatZ))))))))))))) (fun K hK => ?_) AllReadyH.nil
              go_simp
              refine hK.out _ _ ?_ (fun hHeld => ?_)
              · exact trivial
              clear hK K
              try simp only [Act.put, List.setIfInBounds_toArray, List.set_cons_zero, List.set_cons_succ]
              refine wpAnyH_done (by kernel_rfl) ?_ _
              rw [hW7.out]
              go_wp2_with (fail)
              go_loopw [51] (fun iv w7 => iv = .int .i64 0 ∧ w7 = W7) (fun _ _ => 0)
              case atStart => exact ⟨rfl, rfl⟩
              case round =>
                obtain ⟨rfl, rfl⟩ := hrel
                go_wp2_with (fail)
                exact ⟨⟨k + 1, some ⟨g2, 0, none⟩, c2', es ++ [e], lds, by omega, by simp, HNE, HE', HL'⟩, by simp [intOf]; omega⟩
        · have hqb : (e.q.length == 0) = false := by simpa using hq0
          have l5 := World.block_lt_of_cell? _ _ v0
          obtain ⟨Q, hQ⟩ : ∃ Q, Hid (e.q.length = Q) := ⟨_, Lib.hid rfl⟩
          rw [hQ.out] at hq0 hqb v2 hqc Hbx5
          have HY := Hbx5
          rw [hQ.out]
          have HspV := Lib.hid hspV
          clear hspV
          go_wp2_with (fail)
          go_loopw [51] (fun iv w8 => ∃ (j : Nat) (lds' : List MvD), j ≤ Q ∧ iv = .int .i64 (j : Int) ∧ Hid (NmAt V w8 ⟨mb, lb, cb, fb, 0, n, x.s, ea, ec, es, lds'⟩) ∧ Hid (∀ s, s < n → (lds'.getD s ⟨[], none, 0⟩).l = ldP (x.es.take k) s ++ (if fr = s then (e.q.take j).map (fun p => (⟨p.lo.toNat, p.hi.toNat, (t : Int)⟩ : Mv)) else [])) ∧ Hid (Blk w8 Y 61 [.int .i64 (fr : Int), .int .i64 (t : Int), .slice sa Q sc])) (fun iv _ => Q - (intOf iv).toNat)
          case atStart =>
            exact ⟨0, lds, Nat.zero_le _, rfl, HM5, Lib.hid (fun s hs => by rw [HL.out s hs]; simp), HY⟩
          case round =>
            obtain ⟨j, lds', hj, rfl, HM8, HL8, HY8⟩ := hrel
            have hjI0 : (0 : Int) ≤ (j : Int) := by omega
            by_cases hjl : j < Q
            · have hjI : (j : Int) < (Q : Int) := by omega
              have hjq : j < e.q.length := by rw [hQ.out]; exact hjl
              obtain ⟨b3, o3, hsa⟩ := HspV.out.at_ j hjq
              obtain ⟨s0, s1⟩ := (HspV.out.grown HM8.out.bel).cell b3 o3 hsa j hjq
              have hfl : fr < lds'.length := by have := HM8.out.ll; dsimp only at this; omega
              have hld := HL8.out fr (by omega)
              rw [if_pos rfl, List.getD_eq_getElem?_getD, List.getElem?_eq_getElem hfl, Option.getD_some] at hld
              have hbnd : (lds'[fr]'hfl).l.length + 1 ≤ 1000000 := by
                have h1 := ldP_le x.es (k + 1) fr
                have h2 := htot fr
                rw [ldP_succ hkl, he.out, if_pos hfr, List.length_append, List.length_map, hQ.out] at h1
                rw [hld, List.length_append, List.length_map, List.length_take, hQ.out]
                omega
              have hlo : e.q[j].lo.toNat < 256 := UInt8.toNat_lt _
              have hhi : e.q[j].hi.toNat < 256 := UInt8.toNat_lt _
              obtain ⟨pp, hpp⟩ : ∃ pp, Hid (e.q[j] = pp) := ⟨_, Lib.hid rfl⟩
              rw [hpp.out] at s0 s1 hlo hhi
              obtain ⟨lo, hlo2⟩ : ∃ q, Hid (pp.lo.toNat = q) := ⟨_, Lib.hid rfl⟩
              obtain ⟨hi, hhi2⟩ : ∃ q, Hid (pp.hi.toNat = q) := ⟨_, Lib.hid rfl⟩
              rw [hlo2.out] at s0 hlo
              rw [hhi2.out] at s1 hhi
              have bls := World.block_lt_of_cell? _ _ s0
              have Hsa := Lib.hid hsa
              have hb9 : Below wr.heap.size wr (wr.alloc (.cells #[.int .u8 (lo : Int), .int .u8 (hi : Int)] 55)) := (Below.refl _ wr).alloc (Nat.le_refl _) _
              have hz9 := Blk.new wr 55 #[.int .u8 (lo : Int), .int .u8 (hi : Int)]
              have hM9 := (HM8.out.below hb9).below (Below.refl _ _).drew
              have hy9 := HY8.out.alloc (.cells #[.int .u8 (lo : Int), .int .u8 (hi : Int)] 55)
              obtain ⟨V9, hV9⟩ : ∃ W, Hid (wr.alloc (.cells #[.int .u8 (lo : Int), .int .u8 (hi : Int)] 55) = W) := ⟨_, Lib.hid rfl⟩
              obtain ⟨Z, hZ⟩ : ∃ Z, Hid (wr.heap.size = Z) := ⟨_, Lib.hid rfl⟩
              rw [hV9.out] at hz9 hM9 hy9
              rw [hZ.out] at hz9
              have hz9 := blkD hz9
              have hy9 := blkD hy9
              have hoD := hM9.ld fr hfl
              have hdc := ownW_le hoD
              obtain ⟨g2, c2', W9, hrun, ho, hg, hlies, hlt2⟩ := run_pushL V9.drew 58 58 57 _ 3 16 Try.underlying58 info_move rfl (by decide) [.int .u8 (lo : Int), .int .u8 (hi : Int), .int .i64 (t : Int)] rfl (by intro u hu; simp only [List.mem_cons, List.not_mem_nil, or_false] at hu; rcases hu with rfl | rfl | rfl <;> rfl) hoD (by dsimp only at *; omega) (by unfold maxLen; dsimp only at *; omega) hM9.bel.size
              have hNM := hM9.move (d := ⟨(lds'[fr]'hfl).l ++ [⟨lo, hi, (t : Int)⟩], some ⟨g2, 0, none⟩, c2'⟩) hfl hg (by
                unfold OwnMv
                dsimp only
                rw [List.length_append, List.flatMap_append]
                exact ho) (fun g e0 => by
                have e2 : g2 = g := by simpa [MvD.v, Value.ownBlock] using e0
                subst e2
                exact hlies)
              have hS : ∀ W, BlkA W mb 77 8457 (mkG ⟨mb, lb, cb, fb, 0, n, x.s, ea, ec, es, lds'⟩ 0 none 0 (fun _ => false) (fun _ => zeroW)) → Blk W Y 61 [.int .i64 (fr : Int), .int .i64 (t : Int), .slice sa Q sc] → Blk W Z 55 [.int .u8 (lo : Int), .int .u8 (hi : Int)] → (W.cell? ⟨mb, 4, none⟩ = some (.slice (some ⟨lb, 0, none⟩) n n) ∧ W.cell? ⟨Y, 0, none⟩ = some (.int .i64 (fr : Int)) ∧ W.cell? ⟨Y, 1, none⟩ = some (.int .i64 (t : Int)) ∧ W.cell? ⟨Z, 0, none⟩ = some (.int .u8 (lo : Int)) ∧ W.cell? ⟨Z, 1, none⟩ = some (.int .u8 (hi : Int))) := fun W h1 h2 h3 => ⟨h1.cell (by omega), h2.cell 0, h2.cell 1, h3.cell 0, h3.cell 1⟩
              have HSa := Lib.hid (hS _ hM9.mkr hy9 hz9)
              have HSb : ∀ o, Hid (_) := fun o => Lib.hid (hS (V9.drew.alloc o) (hM9.mkr.alloc o) (hy9.alloc o) (hz9.alloc o))
              have m9 := hM9.mkr.kept hg (own_blkT hoD hM9.mkr (by decide))
              have y9b := hy9.kept hg (own_Blk hoD hy9 (by decide))
              have z9b := hz9.kept hg (own_Blk hoD hz9 (by decide))
              have l9b := hM9.lb.kept hg (own_blkT hoD hM9.lb (by decide))
              have HSc := Lib.hid (hS _ m9 y9b z9b)
              have gl := grownBy_set W9 lb fr (.slice (some ⟨g2, 0, none⟩) ((lds'[fr]'hfl).l.length + 1) c2')
              have y9c := y9b.kept gl (fun e0 => blkA_Blk l9b y9b (by decide) (by injection e0 with e0; exact e0.symm))
              have HSd := Lib.hid (hS _ (m9.kept gl (fun e0 => blkA_ne m9 l9b (by decide) (by injection e0))) y9c (z9b.kept gl (fun e0 => blkA_Blk l9b z9b (by decide) (by injection e0 with e0; exact e0.symm))))
              have x4 := hM9.lb.cell (j := fr) (by dsimp only; omega)
              have z4 := l9b.cell (j := fr) (by dsimp only; omega)
              have f4 := l9b.frozen fr
              have l4 := l9b.lt
              simp only [ldG, List.getD_eq_getElem?_getD, List.getElem?_eq_getElem hfl, Option.getD_some] at x4 z4
              have x4a : ∀ o, (V9.alloc o).cell? ⟨lb, fr, none⟩ = some (lds'[fr]'hfl).v := fun o => by
                have x4w : V9.cell? ⟨lb, fr, none⟩ = some (lds'[fr]'hfl).v := x4
                rw [World.cell?_alloc_lt _ _ _ (World.block_lt_of_cell? _ _ x4w)]; exact x4w
              have hfrI : (fr : Int) < (n : Int) := by omega
              have hfrI0 : (0 : Int) ≤ (fr : Int) := by omega
              have e1 : ((lds'[fr]'hfl).l ++ [(⟨lo, hi, (t : Int)⟩ : Mv)]).length = (lds'[fr]'hfl).l.length + 1 := by simp
              have HNM : Hid (NmAt V (W9.setCell ⟨lb, fr, none⟩ (.slice (some ⟨g2, 0, none⟩) ((lds'[fr]'hfl).l.length + 1) c2')) ⟨mb, lb, cb, fb, 0, n, x.s, ea, ec, es, lds'.set fr ⟨(lds'[fr]'hfl).l ++ [⟨lo, hi, (t : Int)⟩], some ⟨g2, 0, none⟩, c2'⟩⟩) := Lib.hid (by rw [← e1]; exact hNM)
              have HYn := Lib.hid y9c
              have HLn : Hid (∀ s, s < n → ((lds'.set fr ⟨(lds'[fr]'hfl).l ++ [⟨lo, hi, (t : Int)⟩], some ⟨g2, 0, none⟩, c2'⟩).getD s ⟨[], none, 0⟩).l = ldP (x.es.take k) s ++ (if fr = s then (e.q.take (j + 1)).map (fun p => (⟨p.lo.toNat, p.hi.toNat, (t : Int)⟩ : Mv)) else [])) := Lib.hid (fun s hs => by
                by_cases h : fr = s
                · subst h
                  rw [if_pos rfl, List.getD_eq_getElem?_getD, List.getElem?_set_self hfl, Option.getD_some]
                  dsimp only
                  rw [hld, List.take_add_one, List.getElem?_eq_getElem hjq, hpp.out, List.map_append, List.append_assoc]
                  simp [hlo2.out, hhi2.out]
                · have := HL8.out s hs
                  rw [if_neg h] at this ⊢
                  rw [← this]
                  simp [List.getD_eq_getElem?_getD, List.getElem?_set_ne h])
              have Hrun := Lib.hid hrun
              clear hM9 hNM ho hg hlies hlt2 hoD hS m9 y9b z9b l9b gl y9c hrun hy9 hz9 hb9 hld hsa
              generalize lds'[fr]'hfl = d at *
              rw [Hsa.out] at *
              go_wp2_with (fail)
              rw [hV9.out, hZ.out]
              refine wp_region_held_drew (S := fun w' => (w'.cell? ⟨mb, 4, none⟩ = some (.slice (some ⟨lb, 0, none⟩) n n) ∧ w'.cell? ⟨Y, 0, none⟩ = some (.int .i64 (fr : Int)) ∧ w'.cell? ⟨Y, 1, none⟩ = some (.int .i64 (t : Int)) ∧ w'.cell? ⟨Z, 0, none⟩ = some (.int .u8 (lo : Int)) ∧ w'.cell? ⟨Z, 1, none⟩ = some (.int .u8 (hi : Int)))) (by kernel_rfl) ?_ (fun hHeld => ?_)
              · exact HSa.out
              refine wpAnyH_take (i := 0) (v := ?_) (gatL gatZ) (by kernel_rfl) (by kernel_rfl) (by kernel_rfl) (fun _ _ _ h => h) (Or.inl ⟨by rfl, ?_⟩) (by assumption) ?_
              rotate_left
              · intro w hSw
                try dsimp only at hSw
                go_simp
                all_goals with_reducible rfl
              try simp only [Act.put, List.setIfInBounds_toArray, List.set_cons_zero, List.set_cons_succ]
              refine wpAnyH_take (i := 1) (v := ?_) (gatL (gatS gatZ)) (by kernel_rfl) (by kernel_rfl) (by kernel_rfl) (fun _ _ _ h => h) (Or.inl ⟨by rfl, ?_⟩) (by assumption) ?_
              rotate_left
              · intro w hSw
                try dsimp only at hSw
                go_simp
                all_goals with_reducible rfl
              try simp only [Act.put, List.setIfInBounds_toArray, List.set_cons_zero, List.set_cons_succ]
              refine wpAnyH_take (i := 2) (v := ?_) (gatL (gatS (gatS gatZ))) (by kernel_rfl) (by kernel_rfl) (by kernel_rfl) (fun _ _ _ h => h) (Or.inl ⟨by rfl, ?_⟩) (by assumption) ?_
              rotate_left
              · intro w hSw
                try dsimp only at hSw
                go_simp
                all_goals with_reducible rfl
              try simp only [Act.put, List.setIfInBounds_toArray, List.set_cons_zero, List.set_cons_succ]
              refine wpAnyH_take (i := 3) (v := ?_) (gatL (gatS (gatS (gatS gatZ)))) (by kernel_rfl) (by kernel_rfl) (by kernel_rfl) (fun _ _ _ h => h) (Or.inl ⟨by rfl, ?_⟩) (by assumption) ?_
              rotate_left
              · intro w hSw
                try dsimp only at hSw
                go_simp
                all_goals with_reducible rfl
              try simp only [Act.put, List.setIfInBounds_toArray, List.set_cons_zero, List.set_cons_succ]
              refine wpAnyH_take (i := 4) (v := ?_) (gatL (gatS (gatS (gatS (gatS gatZ))))) (by kernel_rfl) (by kernel_rfl) (by kernel_rfl) (fun _ _ _ h => h) (Or.inl ⟨by rfl, ?_⟩) (by assumption) ?_
              rotate_left
              · intro w hSw
                try dsimp only at hSw
                go_simp
                all_goals with_reducible rfl
              try simp only [Act.put, List.setIfInBounds_toArray, List.set_cons_zero, List.set_cons_succ]
              refine wpAnyH_take (i := 5) (v := ?_) (gatL (gatS (gatS (gatS (gatS (gatS gatZ)))))) (by kernel_rfl) (by kernel_rfl) (by kernel_rfl) (fun _ _ _ h => h) (Or.inl ⟨by rfl, ?_⟩) (by assumption) ?_
              rotate_left
              · intro w hSw
                try dsimp only at hSw
                go_simp
                all_goals with_reducible rfl
              try simp only [Act.put, List.setIfInBounds_toArray, List.set_cons_zero, List.set_cons_succ]
              refine wpAnyH_take (i := 6) (v := ?_) (gatL (gatS (gatS (gatS (gatS (gatS (gatS gatZ))))))) (by kernel_rfl) (by kernel_rfl) (by kernel_rfl) (fun _ _ _ h => h) (Or.inl ⟨by rfl, ?_⟩) (by assumption) ?_
              rotate_left
              · intro w hSw
                try dsimp only at hSw
                go_simp
                all_goals with_reducible rfl
              try simp only [Act.put, List.setIfInBounds_toArray, List.set_cons_zero, List.set_cons_succ]
              refine wpAnyH_take (i := 7) (v := ?_) (gatL (gatS (gatS (gatS (gatS (gatS (gatS (gatS gatZ)))))))) (by kernel_rfl) (by kernel_rfl) (by kernel_rfl) (fun _ _ _ h => h) (Or.inl ⟨by rfl, ?_⟩) (by assumption) ?_
              rotate_left
              · intro w hSw
                try dsimp only at hSw
                go_simp
                all_goals with_reducible rfl
              try simp only [Act.put, List.setIfInBounds_toArray, List.set_cons_zero, List.set_cons_succ]
              refine wpAnyH_take (i := 8) (v := ?_) (gatL (gatS (gatS (gatS (gatS (gatS (gatS (gatS (gatS gatZ))))))))) (by kernel_rfl) (by kernel_rfl) (by kernel_rfl) (fun _ _ _ h => h) (Or.inl ⟨by rfl, ?_⟩) (by assumption) ?_
              rotate_left
              · intro w hSw
                try dsimp only at hSw
                go_simp
                all_goals with_reducible rfl
              try simp only [Act.put, List.setIfInBounds_toArray, List.set_cons_zero, List.set_cons_succ]
              refine wpAnyH_take (i := 9) (v := ?_) (gatL (gatS (gatS (gatS (gatS (gatS (gatS (gatS (gatS (gatS gatZ)))))))))) (by kernel_rfl) (by kernel_rfl) (by kernel_rfl) (fun _ _ _ h => h) (Or.inl ⟨by rfl, ?_⟩) (by assumption) ?_
              rotate_left
              · intro w hSw
                try dsimp only at hSw
                go_simp
                all_goals with_reducible rfl
              try simp only [Act.put, List.setIfInBounds_toArray, List.set_cons_zero, List.set_cons_succ]
              refine wpAnyH_take (i := 10) (v := ?_) (gatL (gatS (gatS (gatS (gatS (gatS (gatS (gatS (gatS (gatS (gatS gatZ))))))))))) (by kernel_rfl) (by kernel_rfl) (by kernel_rfl) (fun _ _ _ h => h) (Or.inl ⟨by rfl, ?_⟩) (by assumption) ?_
              rotate_left
              · intro w hSw
                try dsimp only at hSw
                go_simp
                all_goals with_reducible rfl
              try simp only [Act.put, List.setIfInBounds_toArray, List.set_cons_zero, List.set_cons_succ]
              refine wpAnyH_take (i := 11) (v := ?_) (gatL (gatS (gatS (gatS (gatS (gatS (gatS (gatS (gatS (gatS (gatS (gatS gatZ)))))))))))) (by kernel_rfl) (by kernel_rfl) (by kernel_rfl) (fun _ _ _ h => h) (Or.inl ⟨by rfl, ?_⟩) (by assumption) ?_
              rotate_left
              · intro w hSw
                try dsimp only at hSw
                go_simp
                all_goals with_reducible rfl
              try simp only [Act.put, List.setIfInBounds_toArray, List.set_cons_zero, List.set_cons_succ]
              refine wpAnyH_take (i := 12) (v := ?_) (gatL (gatS (gatS (gatS (gatS (gatS (gatS (gatS (gatS (gatS (gatS (gatS (gatS gatZ))))))))))))) (by kernel_rfl) (by kernel_rfl) (by kernel_rfl) (fun _ _ _ h => h) (Or.inl ⟨by rfl, ?_⟩) (by assumption) ?_
              rotate_left
              · intro w hSw
                try dsimp only at hSw
                go_simp
                all_goals with_reducible rfl
              try simp only [Act.put, List.setIfInBounds_toArray, List.set_cons_zero, List.set_cons_succ]
              refine wpAnyH_take (i := 14) (v := ?_) (gatL (gatS (gatS (gatS (gatS (gatS (gatS (gatS (gatS (gatS (gatS (gatS (gatS (gatS (gatS gatZ))))))))))))))) (by kernel_rfl) (by kernel_rfl) (by kernel_rfl) (fun _ _ _ h => h) (Or.inl ⟨by rfl, ?_⟩) (by assumption) ?_
              rotate_left
              · intro w hSw
                try dsimp only at hSw
                go_simp
                all_goals with_reducible rfl
              try simp only [Act.put, List.setIfInBounds_toArray, List.set_cons_zero, List.set_cons_succ]
              refine wpAnyH_take (i := 15) (v := ?_) (gatL (gatS (gatS (gatS (gatS (gatS (gatS (gatS (gatS (gatS (gatS (gatS (gatS (gatS (gatS (gatS gatZ)))))))))))))))) (by kernel_rfl) (by kernel_rfl) (by kernel_rfl) (fun _ _ _ h => h) (Or.inl ⟨by rfl, ?_⟩) (by assumption) ?_
              rotate_left
              · intro w hSw
                try dsimp only at hSw
                go_simp
                all_goals with_reducible rfl
              try simp only [Act.put, List.setIfInBounds_toArray, List.set_cons_zero, List.set_cons_succ]
              refine wpAnyH_take (i := 16) (v := ?_) (gatL (gatS (gatS (gatS (gatS (gatS (gatS (gatS (gatS (gatS (gatS (gatS (gatS (gatS (gatS (gatS (gatS gatZ))))))))))))))))) (by kernel_rfl) (by kernel_rfl) (by kernel_rfl) (fun _ _ _ h => h) (Or.inl ⟨by rfl, ?_⟩) (by assumption) ?_
              rotate_left
              · intro w hSw
                try dsimp only at hSw
                go_simp
                all_goals with_reducible rfl
              try simp only [Act.put, List.setIfInBounds_toArray, List.set_cons_zero, List.set_cons_succ]
              refine wpAnyH_take (i := 17) (v := ?_) (gatL (gatS (gatS (gatS (gatS (gatS (gatS (gatS (gatS (gatS (gatS (gatS (gatS (gatS (gatS (gatS (gatS (gatS gatZ)))))))))))))))))) (by kernel_rfl) (by kernel_rfl) (by kernel_rfl) (fun _ _ _ h => h) (Or.inl ⟨by rfl, ?_⟩) (by assumption) ?_
              rotate_left
              · intro w hSw
                try dsimp only at hSw
                go_simp
                all_goals with_reducible rfl
              try simp only [Act.put, List.setIfInBounds_toArray, List.set_cons_zero, List.set_cons_succ]
              refine wpAnyH_take (i := 18) (v := ?_) (gatL (gatS (gatS (gatS (gatS (gatS (gatS (gatS (gatS (gatS (gatS (gatS (gatS (gatS (gatS (gatS (gatS (gatS (gatS gatZ))))))))))))))))))) (by kernel_rfl) (by kernel_rfl) (by kernel_rfl) (fun _ _ _ h => h) (Or.inl ⟨by rfl, ?_⟩) (by assumption) ?_
              rotate_left
              · intro w hSw
                try dsimp only at hSw
                go_simp
                all_goals with_reducible rfl
              try simp only [Act.put, List.setIfInBounds_toArray, List.set_cons_zero, List.set_cons_succ]
              refine wpAnyH_take (i := 19) (v := ?_) (gatL (gatS (gatS (gatS (gatS (gatS (gatS (gatS (gatS (gatS (gatS (gatS (gatS (gatS (gatS (gatS (gatS (gatS (gatS (gatS gatZ)))))))))))))))))))) (by kernel_rfl) (by kernel_rfl) (by kernel_rfl) (fun _ _ _ h => h) (Or.inl ⟨by rfl, ?_⟩) (by assumption) ?_
              rotate_left
              · intro w hSw
                try dsimp only at hSw
                go_simp
                all_goals with_reducible rfl
              try simp only [Act.put, List.setIfInBounds_toArray, List.set_cons_zero, List.set_cons_succ]
              refine wpAnyH_take (i := 20) (v := ?_) (gatL (gatS (gatS (gatS (gatS (gatS (gatS (gatS (gatS (gatS (gatS (gatS (gatS (gatS (gatS (gatS (gatS (gatS (gatS (gatS (gatS gatZ))))))))))))))))))))) (by kernel_rfl) (by kernel_rfl) (by kernel_rfl) (fun _ _ _ h => h) (Or.inl ⟨by rfl, ?_⟩) (by assumption) ?_
              rotate_left
              · intro w hSw
                try dsimp only at hSw
                go_simp
                all_goals with_reducible rfl
              try simp only [Act.put, List.setIfInBounds_toArray, List.set_cons_zero, List.set_cons_succ]
              refine wpAnyH_ready (rs := [13, 21]) (by kernel_rfl) (by simp) ?_
              refine AllReadyH.cons (gatL (gatS (gatS (gatS (gatS (gatS (gatS (gatS (gatS (gatS (gatS (gatS (gatS (gatS gatZ)))))))))))))) (fun K hK => ?_) (AllReadyH.cons (gatL (gatS (gatS (gatS (gatS (gatS (gatS (gatS (gatS (gatS (gatS (gatS (gatS (gatS (gatS (gatS (gatS (gatS (gatS (gatS (gatS (gatS gatZ)))))))))))))))))))))) (fun K hK => ?_) (AllReadyH.nil))
              ·
                go_simp
                refine hK.out _ _ ?_ (fun hHeld => ?_)
                · exact HSa.out
                clear hK K
                try simp only [Act.put, List.setIfInBounds_toArray, List.set_cons_zero, List.set_cons_succ]
                refine wpAnyH_ready (rs := [21]) (by kernel_rfl) (by simp) ?_
                refine AllReadyH.cons (gatL (gatS (gatS (gatS (gatS (gatS (gatS (gatS (gatS (gatS (gatS (gatS (gatS (gatS (gatS (gatS (gatS (gatS (gatS (gatS (gatS (gatS gatZ)))))))))))))))))))))) (fun K hK => ?_) AllReadyH.nil
                go_simp
                refine hK.out _ _ ?_ (fun hHeld => ?_)
                · exact (HSb _).out
                clear hK K
                try simp only [Act.put, List.setIfInBounds_toArray, List.set_cons_zero, List.set_cons_succ]
                refine wpAnyH_ready (rs := [22]) (by kernel_rfl) (by simp) ?_
                refine AllReadyH.cons (gatL (gatS (gatS (gatS (gatS (gatS (gatS (gatS (gatS (gatS (gatS (gatS (gatS (gatS (gatS (gatS (gatS (gatS (gatS (gatS (gatS (gatS (gatS gatZ))))))))))))))))))))))) (fun K hK => ?_) AllReadyH.nil
                refine step_append_run rfl _ _ 58 58 rfl _ _ _ _ rfl rfl Hrun.out ?_
                refine hK.out _ _ ?_ (fun hHeld => ?_)
                · exact HSc.out
                clear hK K
                try simp only [Act.put, List.setIfInBounds_toArray, List.set_cons_zero, List.set_cons_succ]
                refine wpAnyH_take (i := 23) (v := ?_) (gatL (gatS (gatS (gatS (gatS (gatS (gatS (gatS (gatS (gatS (gatS (gatS (gatS (gatS (gatS (gatS (gatS (gatS (gatS (gatS (gatS (gatS (gatS (gatS gatZ)))))))))))))))))))))))) (by kernel_rfl) (by kernel_rfl) (by kernel_rfl) (fun _ _ _ h => h) (Or.inl ⟨by rfl, ?_⟩) (by assumption) ?_
                rotate_left
                · intro w hSw
                  try dsimp only at hSw
                  go_simp
                  all_goals with_reducible rfl
                try simp only [Act.put, List.setIfInBounds_toArray, List.set_cons_zero, List.set_cons_succ]
                refine wpAnyH_ready (rs := [24]) (by kernel_rfl) (by simp) ?_
                refine AllReadyH.cons (gatL (gatS (gatS (gatS (gatS (gatS (gatS (gatS (gatS (gatS (gatS (gatS (gatS (gatS (gatS (gatS (gatS (gatS (gatS (gatS (gatS (gatS (gatS (gatS (gatS gatZ))))))))))))))))))))))))) (fun K hK => ?_) AllReadyH.nil
                go_simp
                refine hK.out _ _ ?_ (fun hHeld => ?_)
                · exact HSd.out
                clear hK K
                try simp only [Act.put, List.setIfInBounds_toArray, List.set_cons_zero, List.set_cons_succ]
                refine wpAnyH_done (by kernel_rfl) ?_ _
                go_wp2_with (fail)
                exact ⟨⟨j + 1, _, by omega, by simp, HNM, HLn, HYn⟩, by simp [intOf]; omega⟩
              ·
                go_simp
                refine hK.out _ _ ?_ (fun hHeld => ?_)
                · exact (HSb _).out
                clear hK K
                try simp only [Act.put, List.setIfInBounds_toArray, List.set_cons_zero, List.set_cons_succ]
                refine wpAnyH_ready (rs := [13]) (by kernel_rfl) (by simp) ?_
                refine AllReadyH.cons (gatL (gatS (gatS (gatS (gatS (gatS (gatS (gatS (gatS (gatS (gatS (gatS (gatS (gatS gatZ)))))))))))))) (fun K hK => ?_) AllReadyH.nil
                go_simp
                refine hK.out _ _ ?_ (fun hHeld => ?_)
                · exact (HSb _).out
                clear hK K
                try simp only [Act.put, List.setIfInBounds_toArray, List.set_cons_zero, List.set_cons_succ]
                refine wpAnyH_ready (rs := [22]) (by kernel_rfl) (by simp) ?_
                refine AllReadyH.cons (gatL (gatS (gatS (gatS (gatS (gatS (gatS (gatS (gatS (gatS (gatS (gatS (gatS (gatS (gatS (gatS (gatS (gatS (gatS (gatS (gatS (gatS (gatS gatZ))))))))))))))))))))))) (fun K hK => ?_) AllReadyH.nil
                refine step_append_run rfl _ _ 58 58 rfl _ _ _ _ rfl rfl Hrun.out ?_
                refine hK.out _ _ ?_ (fun hHeld => ?_)
                · exact HSc.out
                clear hK K
                try simp only [Act.put, List.setIfInBounds_toArray, List.set_cons_zero, List.set_cons_succ]
                refine wpAnyH_take (i := 23) (v := ?_) (gatL (gatS (gatS (gatS (gatS (gatS (gatS (gatS (gatS (gatS (gatS (gatS (gatS (gatS (gatS (gatS (gatS (gatS (gatS (gatS (gatS (gatS (gatS (gatS gatZ)))))))))))))))))))))))) (by kernel_rfl) (by kernel_rfl) (by kernel_rfl) (fun _ _ _ h => h) (Or.inl ⟨by rfl, ?_⟩) (by assumption) ?_
                rotate_left
                · intro w hSw
                  try dsimp only at hSw
                  go_simp
                  all_goals with_reducible rfl
                try simp only [Act.put, List.setIfInBounds_toArray, List.set_cons_zero, List.set_cons_succ]
                refine wpAnyH_ready (rs := [24]) (by kernel_rfl) (by simp) ?_
                refine AllReadyH.cons (gatL (gatS (gatS (gatS (gatS (gatS (gatS (gatS (gatS (gatS (gatS (gatS (gatS (gatS (gatS (gatS (gatS (gatS (gatS (gatS (gatS (gatS (gatS (gatS (gatS gatZ))))))))))))))))))))))))) (fun K hK => ?_) AllReadyH.nil
                go_simp
                refine hK.out _ _ ?_ (fun hHeld => ?_)
                · exact HSd.out
                clear hK K
                try simp only [Act.put, List.setIfInBounds_toArray, List.set_cons_zero, List.set_cons_succ]
                refine wpAnyH_done (by kernel_rfl) ?_ _
                go_wp2_with (fail)
                exact ⟨⟨j + 1, _, by omega, by simp, HNM, HLn, HYn⟩, by simp [intOf]; omega⟩
            · obtain rfl : Q = j := by omega
              have hjI : ¬ (Q : Int) < (Q : Int) := by omega
              have HE' : Hid (es = (x.es.take (k + 1)).filter (fun e => e.q.isEmpty)) := Lib.hid (by
                rw [List.take_add_one, List.getElem?_eq_getElem hkl, he.out, List.filter_append, ← HE.out]
                have : e.q.isEmpty = false := by
                  rcases h : e.q with _ | ⟨y, l⟩
                  · rw [h] at hQ; exact absurd hQ.out.symm hq0
                  · rfl
                simp [this])
              have HL' : Hid (∀ s, s < n → (lds'.getD s ⟨[], none, 0⟩).l = ldP (x.es.take (k + 1)) s) := Lib.hid (fun s hs => by
                have hT : e.q.take Q = e.q := List.take_of_length_le (by rw [hQ.out]; exact Nat.le_refl _)
                rw [HL8.out s hs, ldP_succ hkl, he.out, hT, hfr, ht]
                by_cases h : fr = s
                · rw [if_pos h, if_pos (by omega)]
                · rw [if_neg h, if_neg (by omega)])
              go_wp2_with (fail)
              exact ⟨⟨k + 1, ea, ec, es, lds', by omega, by simp, HM8, HE', HL'⟩, by simp [intOf]; omega⟩
      · obtain rfl : N = k := by omega
        have hkI : ¬ (N : Int) < (N : Int) := by omega
        have hdone := HM.out.done.base hb1
        have hEn : es = x.es.filter (fun e => e.q.isEmpty) := by
          rw [HE.out, List.take_of_length_le (by rw [hN.out]; exact Nat.le_refl _)]
        have hLn : ∀ s, s < n → (lds.getD s ⟨[], none, 0⟩).l = ldP x.es s := fun s hs => by
          rw [HL.out s hs, List.take_of_length_le (by rw [hN.out]; exact Nat.le_refl _)]
        have HEn := Lib.hid hEn
        have HLn := Lib.hid hLn
        have Hdone := Lib.hid hdone
        clear hEn hLn hdone
        go_wp2_with (fail)
        exact bodyPost_ret (v := .pointer (some ⟨mb, 0, none⟩)) (by simp [results, Try.results30, go_sem]; try first | rfl | assumption | omega) rfl ⟨⟨mb, lb, cb, fb, wr.heap.size, n, x.s, ea, ec, es, lds⟩, rfl, rfl, rfl, HEn.out, HM.out.ll, HLn.out, Hdone.out⟩
end Go.Proofs.Ytngbfjimmdkfeaa

