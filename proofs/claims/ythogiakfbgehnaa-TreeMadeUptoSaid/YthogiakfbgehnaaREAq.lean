/- Texts joined: Tta Ttb. -/
import Derived.Test.YthogiakfbgehnaaREAp
import Derived.Test.YthogiakfbgehnaaREAj
import Derived.Sort.LoopGhostIn
import Derived.Sort.CutIn
set_option linter.unusedVariables false
set_option linter.unusedSimpArgs false
namespace Go.Proofs.Ythogiakfbgehnaa
open Go.RowKit Go.Maps

attribute [local go_sem] Oper.semAt_some

/-- A name, or none. -/
def nameD (names : List ByteArray) (i : Int) : ByteArray := (names[i.toNat]?).getD ⟨#[63]⟩
/-- What is written so far, the depth of the node ahead, how many rules are open. -/
structure TxS where
  out : List UInt8
  ahead : Nat
  opn : Nat
/-- How many are closed ahead of a node of this depth. -/
def TxS.cl (s : TxS) (dd : Nat) : Nat := s.opn + 1 - dd
def txStep (d : CfD) (s : TxS) (x : NdT) : TxS :=
  let o := (s.out ++ List.replicate (s.cl x.d) 41) ++ (if x.d ≤ s.ahead then [32] else [])
  if 0 ≤ x.h.k then ⟨o ++ (nameD d.toks x.h.k).data.toList, x.d, s.opn - s.cl x.d⟩
  else ⟨(o ++ (nameD d.names (-1 - x.h.k)).data.toList) ++ [40], x.d, x.d⟩
def txAll (d : CfD) (l : List NdT) : TxS := l.foldl (txStep d) ⟨[], 0, 0⟩
theorem txAll_snoc (d : CfD) (l : List NdT) (x : NdT) : txAll d (l ++ [x]) = txStep d (txAll d l) x := by unfold txAll; rw [List.foldl_append]; rfl
/-- A tree's text. -/
def txT (d : CfD) (l : List NdT) : List UInt8 := (txAll d l).out ++ List.replicate (txAll d l).opn 41
def TxOk (s : TxS) : Prop := s.out.length ≤ 100000 ∧ s.ahead ≤ 1000 ∧ s.opn ≤ 1000
set_option maxRecDepth 100000 in
theorem tname_any (names : List ByteArray) (a : Option Addr) (cap : Nat) (i : Int) (w : World) (h : Nms w a cap names) (hi : 0 ≤ i) :
    Calls Try.prog 127 #[.slice a names.length cap, .int .i64 i] w fun e W => e = .returned (.string (nameD names i)) ∧ W = w := by
  have hm : names.length ≤ cap ∧ cap ≤ 9223372036854775807 := ⟨by have := h.le; rwa [List.length_map] at this, h.max⟩
  obtain ⟨R, HR⟩ : ∃ q, Hid (nameD names i = q) := ⟨_, Lib.hid rfl⟩
  rw [HR.out]
  by_cases hlt : i < (names.length : Int)
  · obtain ⟨k, rfl⟩ : ∃ k : Nat, i = (k : Int) := ⟨i.toNat, by omega⟩
    have hk : k < names.length := by omega
    obtain ⟨b, off, e⟩ := h.at_ k (by rw [List.length_map]; exact hk)
    have hc := h.cell b off e k (by rw [List.length_map]; exact hk)
    rw [List.getElem_map] at hc
    subst e
    have HR2 : Hid (names[k] = R) := Lib.hid (by rw [← HR.out]; unfold nameD; rw [Int.toNat_natCast, List.getElem?_eq_getElem hk]; rfl)
    rw [HR2.out] at hc
    obtain ⟨L, HL⟩ : ∃ q, Hid (names.length = q) := ⟨_, Lib.hid rfl⟩
    rw [HL.out] at hm hlt ⊢
    clear HR2 HR h hk
    go_enter Try.func127, Try.ntmps127
    go_wp2_with (fail)
    first | exact ⟨rfl, rfl⟩ | exact bodyPost_ret (v := .string R) (by simp [results, Try.results127, go_sem]; try first | rfl | assumption | omega) rfl ⟨rfl, rfl⟩
  · have HR2 : Hid (R = ⟨#[63]⟩) := Lib.hid (by rw [← HR.out]; unfold nameD; rw [List.getElem?_eq_none (by omega)]; rfl)
    obtain ⟨L, HL⟩ : ∃ q, Hid (names.length = q) := ⟨_, Lib.hid rfl⟩
    rw [HL.out] at hm hlt ⊢
    rw [HR2.out]
    have hge : (L : Int) ≤ i := by omega
    clear HR2 HR h hlt
    go_enter Try.func127, Try.ntmps127
    go_wp2_with (fail)
    first | exact ⟨rfl, rfl⟩ | exact bodyPost_ret (v := .string ⟨#[63]⟩) (by simp [results, Try.results127, go_sem]; try first | rfl | assumption | omega) rfl ⟨rfl, rfl⟩
/-- A byte is written. -/
theorem txb_any (B : Nat) (c : List UInt8) (x : UInt8) (v : Int) (hv : v = (x.toNat : Int)) (w : World) (h : BuF B B (Lib.byteCells c) w) (hlen : c.length ≤ 1000000) (hB : B ≤ w.heap.size) :
    Calls Try.prog 125 #[.pointer (some ⟨B, 0, none⟩), .int .u8 v] w fun e w' => e = .returned .nilIface ∧ BuF B B (Lib.byteCells (c ++ [x])) w' ∧ Below B w w' ∧ OthK B w w' := by
  subst hv
  refine (wbyte_any B B (Lib.byteCells c) (x.toNat : Int) w h (by rw [Lib.byteCells_length]; omega) hB).mono ?_
  rintro e w' ⟨rfl, h1, h2, h3⟩
  refine ⟨rfl, .inr ?_, h2, h3⟩
  rw [Lib.byteCells_append]
  exact h1
/-- A string is written. -/
theorem txw_any (B : Nat) (c : List UInt8) (s : ByteArray) (w : World) (h : BuF B B (Lib.byteCells c) w) (hlen : c.length + s.size ≤ 1000000) (hB : B ≤ w.heap.size) :
    Calls Try.prog 126 #[.pointer (some ⟨B, 0, none⟩), .string s] w fun e w' => e = .returned (.tuple #[.int .i64 s.size, .nilIface]) ∧ BuF B B (Lib.byteCells (c ++ s.data.toList)) w' ∧ Below B w w' ∧ OthK B w w' := by
  refine (write_any B B (Lib.byteCells c) s w h (by rw [Lib.byteCells_length]; omega) hB).mono ?_
  rintro e w' ⟨rfl, h1, h2, h3⟩
  refine ⟨rfl, .inr ?_, h2, h3⟩
  rw [Lib.byteCells_append, ← Lib.strCells_eq]
  exact h1
theorem bu_newT (w : World) : BuF w.heap.size w.heap.size (Lib.byteCells []) (w.alloc (.cells #[.pointer none, .slice none 0 0] 163)) :=
  .inl ⟨Nat.le_refl _, .slice none 0 0, heap_alloc_new w _, World.ownsRowF_nil _ _ _ _, by simp [Value.ownBlock]⟩
theorem BuA.turned {B b : Nat} {p : Value} {bs : List Value} {W W' : World} {row : Option Nat} (h : BuA B b p bs W) (hg : W.grownBy W' row) (hr : ∀ r, row = some r → ∃ o, W.heap[r]? = some o ∧ Turns itTT o) : BuA B b p bs W' := by
  obtain ⟨hB, v, hb, hown, hne⟩ := h
  refine ⟨hB, v, (hg.block b (Array.getElem?_eq_some_iff.1 hb).1 (fun e => ?_)).trans hb, hown.kept hg ?_, hne⟩
  · obtain ⟨o, ho, hT⟩ := hr b e.symm
    rw [hb] at ho
    cases ho
    rcases hT with hc | ⟨cs', t', fr', e2, ht'⟩
    · cases hc
    · cases e2; revert ht'; decide
  · cases hv : v.ownBlock with
    | none => exact .inl rfl
    | some g =>
      refine .inr fun e => ?_
      obtain ⟨o, ho, hT⟩ := hr g e.symm
      obtain ⟨c, fz, hc⟩ := Lib.ownsRowF_kind hown g hv
      rw [hc] at ho
      cases ho
      rcases hT with hc | ⟨cs', t', fr', e2, ht'⟩
      · cases hc
      · cases e2; revert ht'; decide
theorem BuF.turned {B b : Nat} {bs : List Value} {W W' : World} {row : Option Nat} (h : BuF B b bs W) (hg : W.grownBy W' row) (hr : ∀ r, row = some r → ∃ o, W.heap[r]? = some o ∧ Turns itTT o) : BuF B b bs W' :=
  h.elim (fun x => .inl (BuA.turned x hg hr)) (fun x => .inr (BuA.turned x hg hr))
/-- A block that is no row of bytes is as it was. -/
theorem OthK.blk {B b : Nat} {W W' : World} {cs : Array Value} {t : TypeId} {fr : Nat × Nat} (h : OthK B W W') (hb : W.heap[b]? = some (.cells cs t fr)) (hne : b ≠ B) (ht : t ≠ 5) : W'.heap[b]? = some (.cells cs t fr) :=
  h b _ hb (fun e => hne (Option.some.inj e)) (fun c fz e => by cases e; exact ht rfl)
theorem OthK.keeps {B K : Nat} {W W' : World} (h : OthK B W W') (hs : W.heap.size ≤ W'.heap.size) (hB : B < K) : KeepsFrom K W W' :=
  ⟨hs, fun k o hk ho hc => h k o ho (fun e => by have := Option.some.inj e; omega) (fun c fz e => by subst e; cases hc)⟩
theorem OthK.spares {B n0 : Nat} {bs : List Value} {W W' : World} (h : OthK B W W') (hb : Below n0 W W') (hu : BuF B B bs W) : Spares n0 itTT W W' := by
  refine ⟨hb, fun k cs t fr hk ht => h.blk hk (fun e => ?_) (fun e => ?_)⟩
  · subst e
    have : ∃ p v, W.heap[k]? = some (.cells #[p, v] 163 (0, 0)) := by
      rcases hu with ⟨_, v, hv, _⟩ | ⟨_, v, hv, _⟩
      · exact ⟨_, v, hv⟩
      · exact ⟨_, v, hv⟩
    obtain ⟨p, v, hv⟩ := this
    rw [hv] at hk
    cases hk
    revert ht; decide
  · subst e; revert ht; decide
/-- What lies in memory between two rounds. -/
structure TxM (w W : World) (cv : Array Value) (bs : List UInt8) : Prop where
  bel : Below w.heap.size w W
  cfg : W.heap[w.heap.size]? = some (.cells cv 25 (0, 0))
  bui : BuF (w.heap.size + 1 + 1) (w.heap.size + 1 + 1) (Lib.byteCells bs) W
theorem TxM.turned {w W W' : World} {cv : Array Value} {bs : List UInt8} {row : Option Nat} (h : TxM w W cv bs) (hg : W.grownBy W' row) (hr : ∀ r, row = some r → w.heap.size ≤ r ∧ ∃ o, W.heap[r]? = some o ∧ Turns itTT o) : TxM w W' cv bs :=
  ⟨h.bel.grown hg h.bel.size (fun k e => (hr k e).1), keep_heap (B := w.heap.size) h.cfg (by decide) hg hr, h.bui.turned hg (fun r e => (hr r e).2)⟩
theorem TxM.wrote {w W W' : World} {cv : Array Value} {bs : List UInt8} {c : List UInt8} (h : TxM w W cv bs) (hb : BuF (w.heap.size + 1 + 1) (w.heap.size + 1 + 1) (Lib.byteCells (bs ++ c)) W') (hB : Below (w.heap.size + 1 + 1) W W') (hk : OthK (w.heap.size + 1 + 1) W W') : TxM w W' cv (bs ++ c) :=
  ⟨h.bel.trans (hB.mono (by omega)), hk.blk h.cfg (by omega) (by decide), hb⟩
theorem BuA.set {B b b' : Nat} {p : Value} {bs : List Value} {W : World} {v : Value} (h : BuA B b p bs W) (hb : b' ≠ b) (hv : Boxed W b' 3 v) (x : Value) : BuA B b p bs (W.setCell ⟨b', 0, none⟩ x) := by
  obtain ⟨hB, v, hb0, hown, hne⟩ := h
  have hg := grownBy_set W b' 0 x
  refine ⟨hB, v, (hg.block b (Array.getElem?_eq_some_iff.1 hb0).1 (fun e => hb (Option.some.inj e).symm)).trans hb0, hown.kept hg ?_, hne⟩
  cases hv2 : v.ownBlock with
  | none => exact .inl rfl
  | some g =>
    refine .inr fun e => ?_
    obtain ⟨c, fz, hc⟩ := Lib.ownsRowF_kind hown g hv2
    have e := Option.some.inj e
    subst e
    rw [show W.heap[g]? = _ from hv] at hc
    cases hc
theorem TxM.set {w W : World} {cv : Array Value} {bs : List UInt8} {b' : Nat} {v : Value} (h : TxM w W cv bs) (hb : w.heap.size + 1 + 1 < b') (hv : Boxed W b' 3 v) (x : Value) : TxM w (W.setCell ⟨b', 0, none⟩ x) cv bs := by
  have hg := grownBy_set W b' 0 x
  exact ⟨h.bel.setCell (p := ⟨b', 0, none⟩) (by simp; omega) _, (hg.block _ (Array.getElem?_eq_some_iff.1 h.cfg).1 (fun e => by have := Option.some.inj e; omega)).trans h.cfg, h.bui.elim (fun q => .inl (BuA.set q (by omega) hv x)) (fun q => .inr (BuA.set q (by omega) hv x))⟩
/-- Between two rounds. -/
def TxI (d : CfD) (w : World) (cv : Array Value) (pre : List NxT) (W : World) : Prop :=
  TxM w W cv (txAll d (pre.map (·.nd))).out ∧ W.heap[w.heap.size + 1 + 1 + 1]? = some (.cells #[.int .i64 ((txAll d (pre.map (·.nd))).ahead : Int)] 3 (0, 0)) ∧ W.heap[w.heap.size + 1 + 1 + 1 + 1]? = some (.cells #[.int .i64 ((txAll d (pre.map (·.nd))).opn : Int)] 3 (0, 0))
theorem bears_tx (d : CfD) (w : World) (cv : Array Value) (B : Nat) (hB : w.heap.size ≤ B) : Bears B itTT (TxI d w cv) := by
  rintro s W W' row ⟨h1, h2, h3⟩ hg hr
  exact ⟨h1.turned hg (fun r e => ⟨Nat.le_trans hB (hr r e).1, (hr r e).2⟩), keep_heap h2 (by decide) hg hr, keep_heap h3 (by decide) hg hr⟩
end Go.Proofs.Ythogiakfbgehnaa

namespace Go.Proofs.Ythogiakfbgehnaa
open Go.RowKit Go.Maps

attribute [local go_sem] Oper.semAt_some

/-- What lies in memory within a round. -/
structure TxL (w W2 : World) (cv : Array Value) (K nb : Nat) (nd : List Value) (bs : List UInt8) (a0 o : Nat) (wr : World) : Prop where
  mem : TxM w wr cv bs
  ah : Boxed wr (w.heap.size + 1 + 1 + 1) 3 (.int .i64 (a0 : Int))
  op : Boxed wr (w.heap.size + 1 + 1 + 1 + 1) 3 (.int .i64 (o : Int))
  blk : Blk wr nb 51 nd
  kf : KeepsFrom K W2 wr
  sp : Spares w.heap.size itTT W2 wr
  szK : w.heap.size + 8 ≤ K
  szn : K ≤ nb
section
variable {w W2 wr w' : World} {cv : Array Value} {K nb : Nat} {nd : List Value} {bs c : List UInt8} {a0 o : Nat}
theorem TxL.wrote (h : TxL w W2 cv K nb nd bs a0 o wr) (hu : BuF (w.heap.size + 1 + 1) (w.heap.size + 1 + 1) (Lib.byteCells (bs ++ c)) w') (hB : Below (w.heap.size + 1 + 1) wr w') (hk : OthK (w.heap.size + 1 + 1) wr w') : TxL w W2 cv K nb nd (bs ++ c) a0 o w' := by
  have h1 := h.szK
  have h2 := h.szn
  exact ⟨h.mem.wrote hu hB hk, OthK.blk hk h.ah (by omega) (by decide), OthK.blk hk h.op (by omega) (by decide), OthK.blk hk h.blk (by omega) (by decide), h.kf.trans (OthK.keeps hk hB.size (by omega)), h.sp.trans (OthK.spares hk (hB.mono (by omega)) h.mem.bui), h1, h2⟩
theorem TxL.quiet (h : TxL w W2 cv K nb nd bs a0 o wr) (hb : Below wr.heap.size wr w') : TxL w W2 cv K nb nd bs a0 o w' := by
  have hg := below_grownBy hb none
  exact ⟨h.mem.turned hg (fun r e => by cases e), keep_heap (B := 0) h.ah (by decide) hg (fun r e => by cases e), keep_heap (B := 0) h.op (by decide) hg (fun r e => by cases e), h.blk.below hb h.blk.lt, h.kf.trans (KeepsFrom.of_grownBy hg (fun r e => by cases e)), h.sp.trans (Spares.grown hg h.mem.bel.size (fun r e => by cases e)), h.szK, h.szn⟩
theorem TxL.setA (h : TxL w W2 cv K nb nd bs a0 o wr) (v : Nat) : TxL w W2 cv K nb nd bs v o (wr.setCell ⟨w.heap.size + 1 + 1 + 1, 0, none⟩ (.int .i64 (v : Int))) := by
  have h1 := h.szK
  have h2 := h.szn
  have hg := grownBy_set wr (w.heap.size + 1 + 1 + 1) 0 (.int .i64 (v : Int))
  refine ⟨h.mem.set (by omega) h.ah _, h.ah.set _, h.op.kept hg (by simp), h.blk.kept hg (by simp; omega), h.kf.trans ((KeepsOthers.setCell wr _ _).from _), h.sp.trans (Spares.grown hg h.mem.bel.size (fun r e => by cases e; exact ⟨by omega, fun cs t fr hcs => by rw [show wr.heap[w.heap.size + 1 + 1 + 1]? = _ from h.ah] at hcs; cases hcs; decide⟩)), h1, h2⟩
theorem TxL.setO (h : TxL w W2 cv K nb nd bs a0 o wr) (v : Nat) : TxL w W2 cv K nb nd bs a0 v (wr.setCell ⟨w.heap.size + 1 + 1 + 1 + 1, 0, none⟩ (.int .i64 (v : Int))) := by
  have h1 := h.szK
  have h2 := h.szn
  have hg := grownBy_set wr (w.heap.size + 1 + 1 + 1 + 1) 0 (.int .i64 (v : Int))
  refine ⟨h.mem.set (by omega) h.op _, h.ah.kept hg (by simp), h.op.set _, h.blk.kept hg (by simp; omega), h.kf.trans ((KeepsOthers.setCell wr _ _).from _), h.sp.trans (Spares.grown hg h.mem.bel.size (fun r e => by cases e; exact ⟨by omega, fun cs t fr hcs => by rw [show wr.heap[w.heap.size + 1 + 1 + 1 + 1]? = _ from h.op] at hcs; cases hcs; decide⟩)), h1, h2⟩
theorem TxL.tx (h : TxL w W2 cv K nb nd bs a0 o wr) {d : CfD} {pre : List NxT} (he : txAll d (pre.map (·.nd)) = ⟨bs, a0, o⟩) : KeepsFrom K W2 wr ∧ Spares w.heap.size itTT W2 wr ∧ TxI d w cv pre wr := by
  refine ⟨h.kf, h.sp, ?_, ?_, ?_⟩
  · rw [he]; exact h.mem
  · rw [he]; exact h.ah
  · rw [he]; exact h.op
end
theorem repl_1 : ∀ n : Nat, Lib.repeatL [(41 : UInt8)] n = List.replicate n 41
  | 0 => rfl
  | n + 1 => by
    show [41] ++ Lib.repeatL [41] n = _
    rw [repl_1 n]
    rfl
set_option maxRecDepth 100000 in
set_option maxHeartbeats 16000000 in
theorem ttext_any (d : CfD) (h : TrH) (kids : TrF) (a : Option Addr) (cap : Nat) (w : World) (hd : CfAt w d) (hI : TrS w (fun _ => True) a cap kids) (hN : kids.size ≤ 1099511627770)
    (hlo : ∀ x ∈ (TrF.cons h kids .nil).pre true 1, -9223372036854775808 ≤ x.h.k ∧ 1 ≤ x.d ∧ x.d ≤ 1000) (hok : ∀ q r, q ++ r = (TrF.cons h kids .nil).pre true 1 → TxOk (txAll d q)) :
    Calls Try.prog 93 #[d.v, treV h a kids.len cap] w fun e W => e = .returned (.string ⟨(txT d ((TrF.cons h kids .nil).pre true 1)).toArray⟩) ∧ Below w.heap.size w W := by
  obtain ⟨hk, hi, ha⟩ := h
  have hlm : kids.len ≤ cap ∧ cap ≤ 9223372036854775807 := ⟨hI.le, hI.max⟩
  obtain ⟨X, hX⟩ : ∃ q, Hid (txT d (TrF.pre true 1 (.cons ⟨hk, hi, ha⟩ kids .nil)) = q) := ⟨_, Lib.hid rfl⟩
  rw [hX.out]
  have HNT := Lib.hid (fun (i : Int) (V : World) (hV : Below w.heap.size w V) (h0 : 0 ≤ i) => tname_any d.toks d.ta d.tc i V (hd.grown hV).toks h0)
  have HNN := Lib.hid (fun (i : Int) (V : World) (hV : Below w.heap.size w V) (h0 : 0 ≤ i) => tname_any d.names d.na d.nc i V (hd.grown hV).names h0)
  have HI := Lib.hid hI
  have hdv : d.v = .agg #[.slice d.ta d.toks.length d.tc, .slice d.na d.names.length d.nc, .slice d.aa d.alts.length d.ac] := rfl
  obtain ⟨xta, hxta⟩ : ∃ q, Hid (d.ta = q) := ⟨_, Lib.hid rfl⟩
  obtain ⟨xna, hxna⟩ : ∃ q, Hid (d.na = q) := ⟨_, Lib.hid rfl⟩
  obtain ⟨xaa, hxaa⟩ : ∃ q, Hid (d.aa = q) := ⟨_, Lib.hid rfl⟩
  obtain ⟨xtc, hxtc⟩ : ∃ q, Hid (d.tc = q) := ⟨_, Lib.hid rfl⟩
  obtain ⟨xnc, hxnc⟩ : ∃ q, Hid (d.nc = q) := ⟨_, Lib.hid rfl⟩
  obtain ⟨xac, hxac⟩ : ∃ q, Hid (d.ac = q) := ⟨_, Lib.hid rfl⟩
  obtain ⟨T, HT⟩ : ∃ q, Hid (d.toks.length = q) := ⟨_, Lib.hid rfl⟩
  obtain ⟨N, HN⟩ : ∃ q, Hid (d.names.length = q) := ⟨_, Lib.hid rfl⟩
  obtain ⟨L, HL⟩ : ∃ q, Hid (d.alts.length = q) := ⟨_, Lib.hid rfl⟩
  rw [hxta.out, hxna.out, hxaa.out, hxtc.out, hxnc.out, hxac.out, HT.out, HN.out, HL.out] at hdv
  rw [hxta.out, hxtc.out, HT.out] at HNT
  rw [hxna.out, hxnc.out, HN.out] at HNN
  obtain ⟨KL, HKL⟩ : ∃ q, Hid (kids.len = q) := ⟨_, Lib.hid rfl⟩
  rw [HKL.out] at hlm ⊢
  have HD := Lib.hid (fun V => derived_any ⟨hk, hi, ha⟩ a KL cap V)
  have Hlo := Lib.hid hlo
  have Hok := Lib.hid hok
  rw [hdv]
  clear hd hI hdv hlo hok
  refine (callsIn_wide (n := 0)).1 ?_
  refine callsIn_of_wp_marks Try.func93 rfl trivial ?_ rfl
  simp only [Try.ntmps93, List.size_toArray, List.length_cons, List.length_nil, Nat.reduceAdd, Nat.reduceSub, Array.replicate_succ, Array.replicate_zero, List.push_toArray, List.append_toArray, List.nil_append, List.cons_append]
  gi_wp2_with (fail)
  refine ⟨trivial, rfl, ((callsIn_wide (n := 0)).2 (HD.out _)).mono ?_⟩
  rintro e w' ⟨rfl, rfl⟩
  gi_wp2_with (fail)
  unfold derW
  clear HD
  have hbel : Below w.heap.size w ((((((((w.alloc (.cells #[.slice xta T xtc, .slice xna N xnc, .slice xaa L xac] 25)).alloc (.cells #[.int .i64 hk, .int .i64 hi, .int .i64 ha, .slice a KL cap] 51)).alloc (.cells #[.pointer none, .slice none 0 0] 163)).alloc (.cells #[.int .i64 0] 3)).alloc (.cells #[.int .i64 0] 3)).alloc (.cells #[.int .i64 hk, .int .i64 hi, .int .i64 ha, .slice a KL cap] 51)).alloc (.cells #[.int .i64 hk, .int .i64 hi, .int .i64 ha, .slice a KL cap] 51)).alloc (.cells #[inVT 131] 135)) := ((((((((Below.refl _ w).alloc (Nat.le_refl _) _).alloc (by simp) _).alloc (by simp; omega) _).alloc (by simp; omega) _).alloc (by simp; omega) _).alloc (by simp; omega) _).alloc (by simp; omega) _).alloc (by simp; omega) _
  have hB3 := (Blk.new ((((((w.alloc (.cells #[.slice xta T xtc, .slice xna N xnc, .slice xaa L xac] 25)).alloc (.cells #[.int .i64 hk, .int .i64 hi, .int .i64 ha, .slice a KL cap] 51)).alloc (.cells #[.pointer none, .slice none 0 0] 163)).alloc (.cells #[.int .i64 0] 3)).alloc (.cells #[.int .i64 0] 3)).alloc (.cells #[.int .i64 hk, .int .i64 hi, .int .i64 ha, .slice a KL cap] 51)) 51 #[.int .i64 hk, .int .i64 hi, .int .i64 ha, .slice a KL cap]).alloc (.cells #[inVT 131] 135)
  have hBi := World.alloc_heap_new (((((((w.alloc (.cells #[.slice xta T xtc, .slice xna N xnc, .slice xaa L xac] 25)).alloc (.cells #[.int .i64 hk, .int .i64 hi, .int .i64 ha, .slice a KL cap] 51)).alloc (.cells #[.pointer none, .slice none 0 0] 163)).alloc (.cells #[.int .i64 0] 3)).alloc (.cells #[.int .i64 0] 3)).alloc (.cells #[.int .i64 hk, .int .i64 hi, .int .i64 ha, .slice a KL cap] 51)).alloc (.cells #[.int .i64 hk, .int .i64 hi, .int .i64 ha, .slice a KL cap] 51)) (.cells #[inVT 131] 135)
  simp only [World.size_alloc] at hB3 hBi
  have hM : TxM w ((((((((w.alloc (.cells #[.slice xta T xtc, .slice xna N xnc, .slice xaa L xac] 25)).alloc (.cells #[.int .i64 hk, .int .i64 hi, .int .i64 ha, .slice a KL cap] 51)).alloc (.cells #[.pointer none, .slice none 0 0] 163)).alloc (.cells #[.int .i64 0] 3)).alloc (.cells #[.int .i64 0] 3)).alloc (.cells #[.int .i64 hk, .int .i64 hi, .int .i64 ha, .slice a KL cap] 51)).alloc (.cells #[.int .i64 hk, .int .i64 hi, .int .i64 ha, .slice a KL cap] 51)).alloc (.cells #[inVT 131] 135)) #[.slice xta T xtc, .slice xna N xnc, .slice xaa L xac] [] := by
    refine ⟨hbel, ?_, ?_⟩
    · exact ((((((((Blk.new w 25 #[.slice xta T xtc, .slice xna N xnc, .slice xaa L xac]).alloc _).alloc _).alloc _).alloc _).alloc _).alloc _).alloc _)
    · have := bu_newT ((w.alloc (.cells #[.slice xta T xtc, .slice xna N xnc, .slice xaa L xac] 25)).alloc (.cells #[.int .i64 hk, .int .i64 hi, .int .i64 ha, .slice a KL cap] 51))
      simp only [World.size_alloc] at this
      exact ((((this.alloc _).alloc _).alloc _).alloc _).alloc _
  have hc0 : Boxed ((((((((w.alloc (.cells #[.slice xta T xtc, .slice xna N xnc, .slice xaa L xac] 25)).alloc (.cells #[.int .i64 hk, .int .i64 hi, .int .i64 ha, .slice a KL cap] 51)).alloc (.cells #[.pointer none, .slice none 0 0] 163)).alloc (.cells #[.int .i64 0] 3)).alloc (.cells #[.int .i64 0] 3)).alloc (.cells #[.int .i64 hk, .int .i64 hi, .int .i64 ha, .slice a KL cap] 51)).alloc (.cells #[.int .i64 hk, .int .i64 hi, .int .i64 ha, .slice a KL cap] 51)).alloc (.cells #[inVT 131] 135)) (w.heap.size + 1 + 1 + 1) 3 (.int .i64 0) := by
    have := (Boxed.new (((w.alloc (.cells #[.slice xta T xtc, .slice xna N xnc, .slice xaa L xac] 25)).alloc (.cells #[.int .i64 hk, .int .i64 hi, .int .i64 ha, .slice a KL cap] 51)).alloc (.cells #[.pointer none, .slice none 0 0] 163)) 3 (.int .i64 0))
    simp only [World.size_alloc] at this
    exact (((this.alloc _).alloc _).alloc _).alloc _
  have hc1 : Boxed ((((((((w.alloc (.cells #[.slice xta T xtc, .slice xna N xnc, .slice xaa L xac] 25)).alloc (.cells #[.int .i64 hk, .int .i64 hi, .int .i64 ha, .slice a KL cap] 51)).alloc (.cells #[.pointer none, .slice none 0 0] 163)).alloc (.cells #[.int .i64 0] 3)).alloc (.cells #[.int .i64 0] 3)).alloc (.cells #[.int .i64 hk, .int .i64 hi, .int .i64 ha, .slice a KL cap] 51)).alloc (.cells #[.int .i64 hk, .int .i64 hi, .int .i64 ha, .slice a KL cap] 51)).alloc (.cells #[inVT 131] 135)) (w.heap.size + 1 + 1 + 1 + 1) 3 (.int .i64 0) := by
    have := (Boxed.new ((((w.alloc (.cells #[.slice xta T xtc, .slice xna N xnc, .slice xaa L xac] 25)).alloc (.cells #[.int .i64 hk, .int .i64 hi, .int .i64 ha, .slice a KL cap] 51)).alloc (.cells #[.pointer none, .slice none 0 0] 163)).alloc (.cells #[.int .i64 0] 3)) 3 (.int .i64 0))
    simp only [World.size_alloc] at this
    exact ((this.alloc _).alloc _).alloc _
  have hws : (((((((((w.alloc (.cells #[.slice xta T xtc, .slice xna N xnc, .slice xaa L xac] 25)).alloc (.cells #[.int .i64 hk, .int .i64 hi, .int .i64 ha, .slice a KL cap] 51)).alloc (.cells #[.pointer none, .slice none 0 0] 163)).alloc (.cells #[.int .i64 0] 3)).alloc (.cells #[.int .i64 0] 3)).alloc (.cells #[.int .i64 hk, .int .i64 hi, .int .i64 ha, .slice a KL cap] 51)).alloc (.cells #[.int .i64 hk, .int .i64 hi, .int .i64 ha, .slice a KL cap] 51)).alloc (.cells #[inVT 131] 135))).heap.size = w.heap.size + 1 + 1 + 1 + 1 + 1 + 1 + 1 + 1 := by simp
  rw [show derV (((((w.alloc (.cells #[.slice xta T xtc, .slice xna N xnc, .slice xaa L xac] 25)).alloc (.cells #[.int .i64 hk, .int .i64 hi, .int .i64 ha, .slice a KL cap] 51)).alloc (.cells #[.pointer none, .slice none 0 0] 163)).alloc (.cells #[.int .i64 0] 3)).alloc (.cells #[.int .i64 0] 3)) = .func (.func 143) #[] #[.pointer (some ⟨w.heap.size + 1 + 1 + 1 + 1 + 1 + 1, 0, none⟩), .pointer (some ⟨w.heap.size + 1 + 1 + 1 + 1 + 1 + 1 + 1, 0, none⟩)] from by unfold derV; simp only [World.size_alloc]]
  generalize ((((((((w.alloc (.cells #[.slice xta T xtc, .slice xna N xnc, .slice xaa L xac] 25)).alloc (.cells #[.int .i64 hk, .int .i64 hi, .int .i64 ha, .slice a KL cap] 51)).alloc (.cells #[.pointer none, .slice none 0 0] 163)).alloc (.cells #[.int .i64 0] 3)).alloc (.cells #[.int .i64 0] 3)).alloc (.cells #[.int .i64 hk, .int .i64 hi, .int .i64 ha, .slice a KL cap] 51)).alloc (.cells #[.int .i64 hk, .int .i64 hi, .int .i64 ha, .slice a KL cap] 51)).alloc (.cells #[inVT 131] 135)) = wl at hbel hB3 hBi hM hc0 hc1 hws ⊢
  have Hws := Lib.hid hws
  clear hws
  refine range_law (T := itTT) (n₀ := w.heap.size) (encs := encsT) (Good := GoodT w (TrF.pre true 1 (.cons ⟨hk, hi, ha⟩ kids .nil))) (Full := FullT (TrF.pre true 1 (.cons ⟨hk, hi, ha⟩ kids .nil))) (gf := 143) (lb := #[.pointer (some ⟨w.heap.size + 1 + 1 + 1 + 1 + 1 + 1, 0, none⟩), .pointer (some ⟨w.heap.size + 1 + 1 + 1 + 1 + 1 + 1 + 1, 0, none⟩)]) rfl (enters_of Try.func143 (by kernel_rfl) rfl)
    hbel.size (all_walksD w wl (w.heap.size + 1 + 1 + 1 + 1 + 1 + 1) (w.heap.size + 1 + 1 + 1 + 1 + 1 + 1 + 1) ⟨hk, hi, ha⟩ kids a cap HI.out hbel (by omega) (hB3.cell 0) (hB3.cell 1) (hB3.cell 2) (by rw [HKL.out]; exact hB3.cell 3) hBi) (fun _ => rfl)
    (TxI d w #[.slice xta T xtc, .slice xna N xnc, .slice xaa L xac]) (fun _ _ => False)
    ?bI ?bIx ?h0 ?round ?done ?stop
  case bI => exact bears_tx d w _ _ hbel.size
  case bIx => exact fun _ _ _ _ h => h.elim
  case h0 => exact ⟨hM, hc0, hc1⟩
  case stop => rintro D pre W hD hgood hI; exact hI.elim
  case round =>
    rintro l pre ⟨⟨dd, nh, kf⟩, xa, xcap⟩ W hl ⟨r, hr⟩ hI0 hgood
    have hpre : ∃ r, (pre.map (·.nd) ++ [⟨dd, nh, kf⟩]) ++ r = (TrF.pre true 1 (.cons ⟨hk, hi, ha⟩ kids .nil)) := by
      obtain ⟨⟨q, hq⟩, -⟩ := hgood
      exact ⟨q, by rw [← hq, List.map_append]; rfl⟩
    have hmem := Hlo.out ⟨dd, nh, kf⟩ (by obtain ⟨r, hr⟩ := hpre; rw [← hr]; simp)
    have hok1 : TxOk (txAll d (pre.map (·.nd))) := by obtain ⟨r, hr⟩ := hpre; exact Hok.out _ ([⟨dd, nh, kf⟩] ++ r) (by rw [← hr, List.append_assoc])
    have hok2 : TxOk (txStep d (txAll d (pre.map (·.nd))) ⟨dd, nh, kf⟩) := by obtain ⟨r, hr⟩ := hpre; rw [← txAll_snoc]; exact Hok.out _ r hr
    obtain ⟨nk, ni, na⟩ := nh
    obtain ⟨hlk, hd1, hd2⟩ := hmem
    dsimp only at hlk hd1 hd2
    have hnx : txAll d ((pre ++ [(⟨⟨dd, ⟨nk, ni, na⟩, kf⟩, xa, xcap⟩ : NxT)]).map (·.nd)) = txStep d (txAll d (pre.map (·.nd))) ⟨dd, ⟨nk, ni, na⟩, kf⟩ := by rw [List.map_append]; exact txAll_snoc _ _ _
    clear hpre hgood
    have hws : w.heap.size + 8 ≤ wl.heap.size := by have := Hws.out; omega
    have hlW : l < W.heap.size := (Array.getElem?_eq_some_iff.1 hr).1
    dsimp only [encsT, treV]
    obtain ⟨ln, hln⟩ : ∃ q, Hid (kf.len = q) := ⟨_, Lib.hid rfl⟩
    rw [hln.out]
    have HIT := Lib.hid (fun V => isTok_any ⟨nk, ni, na⟩ xa ln xcap V)
    have Hnx := Lib.hid hnx
    have Hok2 := Lib.hid hok2
    clear hnx hok2
    gi_wp2_with (fail)
    refine ⟨(KeepsOthers.alloc W _).from _, Spares.grown (World.grownBy_alloc W _ none) hI0.1.bel.size (fun r e => by cases e), fun W2 hg2 => ?_⟩
    have hJ : TxI d w #[.slice xta T xtc, .slice xna N xnc, .slice xaa L xac] pre W2 := by
      refine bears_tx d w _ _ hbel.size pre _ _ (some l) ((bears_tx d w _ _ hbel.size).alloc _ hI0) hg2 (fun r e => ?_)
      cases e
      exact ⟨hl, _, (Below.heap_alloc _ _ _ hlW).trans hr, .inl rfl⟩
    have hx : Blk W2 W.heap.size 51 [.int .i64 nk, .int .i64 ni, .int .i64 na, .slice xa ln xcap] := (Blk.new W 51 #[.int .i64 nk, .int .i64 ni, .int .i64 na, .slice xa ln xcap]).kept hg2 (by simp; omega)
    obtain ⟨hM, hA, hO⟩ := hJ
    obtain ⟨S0, hS0⟩ : ∃ q, Hid (txAll d (pre.map (·.nd)) = q) := ⟨_, Lib.hid rfl⟩
    rw [hS0.out] at hM hA hO hok1 Hok2 Hnx
    obtain ⟨o0, a0, p0⟩ := S0
    obtain ⟨hok1, -, hp0⟩ := hok1
    dsimp only at hM hA hO hok1 hp0
    have HL0 : Hid (TxL w W2 #[.slice xta T xtc, .slice xna N xnc, .slice xaa L xac] wl.heap.size W.heap.size [.int .i64 nk, .int .i64 ni, .int .i64 na, .slice xa ln xcap] (o0 ++ List.replicate 0 41) a0 p0 W2) := Lib.hid ⟨by rw [List.replicate_zero, List.append_nil]; exact hM, hA, hO, hx, KeepsFrom.refl _ _, Spares.refl _ _ _, hws, by omega⟩
    clear hM hA hO hx hg2 hr hI0 hlW
    gi_wp2_with (fail)
    gi_loopg [] p0 (fun g wr => ∃ o j : Nat, g = o ∧ Hid (o + j = p0 ∧ (j = 0 ∨ dd ≤ o + 1)) ∧ Hid (TxL w W2 #[.slice xta T xtc, .slice xna N xnc, .slice xaa L xac] wl.heap.size W.heap.size [.int .i64 nk, .int .i64 ni, .int .i64 na, .slice xa ln xcap] (o0 ++ List.replicate j 41) a0 o wr))
    case atStart => exact ⟨p0, 0, rfl, Lib.hid ⟨by omega, .inl rfl⟩, HL0⟩
    case round =>
      obtain ⟨o, j, hgo, hoj, HLr⟩ := hrel
      obtain rfl := hgo.symm
      have hojo := hoj.out
      have ho1 : o ≤ 1000 := by omega
      have hj1 : j ≤ 1000 := by omega
      have HS := HLr.out
      have k4 := HS.op.cell
      have f4 := HS.op.frozen
      by_cases hge : dd ≤ o
      · have HW := Lib.hid (txb_any (w.heap.size + 1 + 1) (o0 ++ List.replicate j 41) 41 41 rfl wr HS.mem.bui (by rw [List.length_append, List.length_replicate]; omega) (by have := HS.mem.bel.size; have := HS.szK; have := HS.blk.lt; have := HS.szn; omega))
        clear HS hojo
        gi_wp2_with (fail)
        refine ⟨trivial, rfl, ((callsIn_wide (n := 0)).2 HW.out).mono ?_⟩
        rintro e w5 ⟨rfl, hu5, hb5, hk5⟩
        have HS5 := HLr.out.wrote hu5 hb5 hk5
        rw [List.append_assoc, show List.replicate j (41 : UInt8) ++ [41] = List.replicate (j + 1) 41 from (List.replicate_succ').symm] at HS5
        have k5 := HS5.op.cell
        have f5 := HS5.op.frozen
        have HL6 := Lib.hid (HS5.setO (o - 1))
        rw [show ((o - 1 : Nat) : Int) = (o : Int) - 1 by omega] at HL6
        clear HS5 hu5 hb5 hk5 k4 f4 HW
        gi_wp2_with (fail)
        gi_roundg (o - 1)
        case measure => omega
        case rel => exact ⟨o - 1, j + 1, rfl, Lib.hid (by have := hoj.out; omega), HL6⟩
      · have HC : Hid (j = TxS.cl ⟨o0, a0, p0⟩ dd) := Lib.hid (by unfold TxS.cl; show j = p0 + 1 - dd; omega)
        have hlt : o < dd := by omega
        clear hge hojo
        have k3 := HS.ah.cell
        clear HS
        by_cases hle : dd ≤ a0
        · have HW := Lib.hid (txb_any (w.heap.size + 1 + 1) (o0 ++ List.replicate j 41) 32 32 rfl wr HLr.out.mem.bui (by rw [List.length_append, List.length_replicate]; omega) (by have := HLr.out.mem.bel.size; have := HLr.out.szK; have := HLr.out.blk.lt; have := HLr.out.szn; omega))
          gi_wp2_with (fail)
          refine ⟨trivial, rfl, ((callsIn_wide (n := 0)).2 HW.out).mono ?_⟩
          rintro e w5 ⟨rfl, hu5, hb5, hk5⟩
          have HLb := Lib.hid (HLr.out.wrote hu5 hb5 hk5)
          clear hu5 hb5 hk5 HW k3 k4 f4
          have HS := HLb.out
          have k3 := HS.ah.cell
          have f3 := HS.ah.frozen
          have HLc := Lib.hid (HS.setA dd)
          clear HS HLb
          gi_upto_region 13 with fail
          generalize World.setCell w5 _ _ = w6 at HLc ⊢
          clear k3 f3
          have HS := HLc.out
          have y0 := HS.blk.cell 0
          have y1 := HS.blk.cell 1
          have y2 := HS.blk.cell 2
          have y3 := HS.blk.cell 3
          have yl := HS.blk.lt
          simp only [List.getElem?_cons_zero, List.getElem?_cons_succ] at y0 y1 y2 y3
          clear HS
          gi_wp2_with (fail)
          refine ⟨trivial, rfl, ((callsIn_wide (n := 0)).2 (HIT.out _)).mono ?_⟩
          rintro e w7 ⟨rfl, hb7⟩
          have HLd := Lib.hid (HLc.out.quiet hb7)
          clear y0 y1 y2 y3 yl hb7 HLc
          have HS := HLd.out
          have hC2 : Blk w7 (w.heap.size) 25 [.slice xta T xtc, .slice xna N xnc, .slice xaa L xac] := HS.mem.cfg
          have z0 := hC2.cell 0
          have z1 := hC2.cell 1
          have zl := hC2.lt
          have y0 := HS.blk.cell 0
          have yl := HS.blk.lt
          simp only [List.getElem?_cons_zero, List.getElem?_cons_succ] at y0 z0 z1
          have hsz := HS.mem.bel.size
          have hK8 := HS.szK
          have hKn := HS.szn
          clear hC2
          have ho9 : p0 - j = o := by have := hoj.out.1; omega
          have Hok3 := Lib.hid Hok2.out.1
          have Hnx3 := Lib.hid Hnx.out
          by_cases h0 : 0 ≤ nk
          · have e0 : decide (0 ≤ nk) = true := decide_eq_true h0
            dsimp only
            rw [e0]
            clear e0
            obtain ⟨nm, hnm⟩ : ∃ q, Hid (nameD d.toks nk = q) := ⟨_, Lib.hid rfl⟩
            have hst : txStep d ⟨o0, a0, p0⟩ ⟨dd, ⟨nk, ni, na⟩, kf⟩ = ⟨((o0 ++ List.replicate j 41) ++ [32]) ++ nm.data.toList, dd, o⟩ := by
              unfold txStep
              dsimp only
              rw [if_pos h0, ← HC.out, if_pos hle, hnm.out, ho9]
            have hbd := Hok3.out
            rw [hst] at hbd
            dsimp only at hbd
            rw [List.length_append] at hbd
            have Hst := Lib.hid (Hnx3.out.trans hst)
            have HW2 := Lib.hid (txw_any (w.heap.size + 1 + 1) ((o0 ++ List.replicate j 41) ++ [32]) nm w7 HS.mem.bui (by have : nm.size = nm.data.toList.length := rfl; omega) (by omega))
            have HN1 := HNT.out nk w7 HS.mem.bel h0
            rw [hnm.out] at HN1
            have HN1 := Lib.hid HN1
            clear hst hbd HS Hok3 Hnx3 ho9
            gi_wp2_with (fail)
            refine ⟨trivial, rfl, ((callsIn_wide (n := 0)).2 HN1.out).mono ?_⟩
            rintro e w8 ⟨rfl, rfl⟩
            gi_wp2_with (fail)
            refine ⟨trivial, rfl, ((callsIn_wide (n := 0)).2 HW2.out).mono ?_⟩
            rintro e w9 ⟨rfl, hu9, hb9, hk9⟩
            have HE := Lib.hid ((HLd.out.wrote hu9 hb9 hk9).tx Hst.out)
            clear y0 z0 z1 hu9 hb9 hk9
            gi_wp2_with (fail)
            exact HE.out
          · have e0 : decide (0 ≤ nk) = false := decide_eq_false h0
            dsimp only
            rw [e0]
            clear e0
            obtain ⟨nm, hnm⟩ : ∃ q, Hid (nameD d.names (-1 - nk) = q) := ⟨_, Lib.hid rfl⟩
            have hst : txStep d ⟨o0, a0, p0⟩ ⟨dd, ⟨nk, ni, na⟩, kf⟩ = ⟨(((o0 ++ List.replicate j 41) ++ [32]) ++ nm.data.toList) ++ [40], dd, dd⟩ := by
              unfold txStep
              dsimp only
              rw [if_neg h0, ← HC.out, if_pos hle, hnm.out]
            have hbd := Hok3.out
            rw [hst] at hbd
            dsimp only at hbd
            rw [List.length_append, List.length_append] at hbd
            have Hst := Lib.hid (Hnx3.out.trans hst)
            have HLe : Hid (TxL w W2 #[.slice xta T xtc, .slice xna N xnc, .slice xaa L xac] wl.heap.size W.heap.size [.int .i64 nk, .int .i64 ni, .int .i64 na, .slice xa ln xcap] ((o0 ++ List.replicate j 41) ++ [32]) dd o w7.drew) := Lib.hid (HLd.out.quiet (Below.refl _ w7).drew)
            have HW2 := Lib.hid (txw_any (w.heap.size + 1 + 1) ((o0 ++ List.replicate j 41) ++ [32]) nm w7.drew HLe.out.mem.bui (by have : nm.size = nm.data.toList.length := rfl; omega) (by show _ ≤ w7.heap.size; omega))
            have HRU := Lib.hid (truleOf_any nk w7.drew ⟨hlk, by omega⟩)
            have HN1 := HNN.out (-1 - nk) w7.drew HLe.out.mem.bel (by omega)
            rw [hnm.out] at HN1
            have HN1 := Lib.hid HN1
            have Hbd := Lib.hid hbd
            clear hst hbd HS Hok3 Hnx3 ho9
            gi_wp2_with (fail)
            refine wpInR_region_still_tailT 6 (by kernel_rfl) (by kernel_rfl) (by kernel_rfl) ?_
            simp only [List.take_succ_cons, List.take_zero, List.drop_succ_cons, List.drop_zero]
            still_step
            still_step
            still_step
            still_step
            still_call HRU.out
            still_call HN1.out
            refine wpStill_nil ?_
            gi_wp2_with (fail)
            refine ⟨trivial, rfl, ((callsIn_wide (n := 0)).2 HW2.out).mono ?_⟩
            rintro e w9 ⟨rfl, hu9, hb9, hk9⟩
            have HLf := Lib.hid (HLe.out.wrote hu9 hb9 hk9)
            have HW3 := Lib.hid (txb_any (w.heap.size + 1 + 1) (((o0 ++ List.replicate j 41) ++ [32]) ++ nm.data.toList) 40 40 rfl w9 HLf.out.mem.bui (by rw [List.length_append]; have := Hbd.out; omega) (by have := HLf.out.mem.bel.size; have := HLf.out.szK; have := HLf.out.blk.lt; have := HLf.out.szn; omega))
            clear y0 z0 z1 yl zl hu9 hb9 hk9 HW2
            gi_wp2_with (fail)
            refine ⟨trivial, rfl, ((callsIn_wide (n := 0)).2 HW3.out).mono ?_⟩
            rintro e w10 ⟨rfl, hu10, hb10, hk10⟩
            have HLg := Lib.hid (HLf.out.wrote hu10 hb10 hk10)
            have k4 := HLg.out.op.cell
            have f4 := HLg.out.op.frozen
            have HE := Lib.hid ((HLg.out.setO dd).tx Hst.out)
            clear hu10 hb10 hk10
            gi_wp2_with (fail)
            exact HE.out
        · have hle2 : a0 < dd := by omega
          have HLb := HLr
          clear hle
          have HS := HLb.out
          have k3 := HS.ah.cell
          have f3 := HS.ah.frozen
          have HLc := Lib.hid (HS.setA dd)
          clear HS HLb
          gi_upto_region 13 with fail
          generalize World.setCell wr _ _ = w6 at HLc ⊢
          clear k3 f3
          have HS := HLc.out
          have y0 := HS.blk.cell 0
          have y1 := HS.blk.cell 1
          have y2 := HS.blk.cell 2
          have y3 := HS.blk.cell 3
          have yl := HS.blk.lt
          simp only [List.getElem?_cons_zero, List.getElem?_cons_succ] at y0 y1 y2 y3
          clear HS
          gi_wp2_with (fail)
          refine ⟨trivial, rfl, ((callsIn_wide (n := 0)).2 (HIT.out _)).mono ?_⟩
          rintro e w7 ⟨rfl, hb7⟩
          have HLd := Lib.hid (HLc.out.quiet hb7)
          clear y0 y1 y2 y3 yl hb7 HLc
          have HS := HLd.out
          have hC2 : Blk w7 (w.heap.size) 25 [.slice xta T xtc, .slice xna N xnc, .slice xaa L xac] := HS.mem.cfg
          have z0 := hC2.cell 0
          have z1 := hC2.cell 1
          have zl := hC2.lt
          have y0 := HS.blk.cell 0
          have yl := HS.blk.lt
          simp only [List.getElem?_cons_zero, List.getElem?_cons_succ] at y0 z0 z1
          have hsz := HS.mem.bel.size
          have hK8 := HS.szK
          have hKn := HS.szn
          clear hC2
          have ho9 : p0 - j = o := by have := hoj.out.1; omega
          have Hok3 := Lib.hid Hok2.out.1
          have Hnx3 := Lib.hid Hnx.out
          by_cases h0 : 0 ≤ nk
          · have e0 : decide (0 ≤ nk) = true := decide_eq_true h0
            dsimp only
            rw [e0]
            clear e0
            obtain ⟨nm, hnm⟩ : ∃ q, Hid (nameD d.toks nk = q) := ⟨_, Lib.hid rfl⟩
            have hst : txStep d ⟨o0, a0, p0⟩ ⟨dd, ⟨nk, ni, na⟩, kf⟩ = ⟨(o0 ++ List.replicate j 41) ++ nm.data.toList, dd, o⟩ := by
              unfold txStep
              dsimp only
              rw [if_pos h0, ← HC.out, if_neg (Nat.not_le.2 hle2), List.append_nil, hnm.out, ho9]
            have hbd := Hok3.out
            rw [hst] at hbd
            dsimp only at hbd
            rw [List.length_append] at hbd
            have Hst := Lib.hid (Hnx3.out.trans hst)
            have HW2 := Lib.hid (txw_any (w.heap.size + 1 + 1) (o0 ++ List.replicate j 41) nm w7 HS.mem.bui (by have : nm.size = nm.data.toList.length := rfl; omega) (by omega))
            have HN1 := HNT.out nk w7 HS.mem.bel h0
            rw [hnm.out] at HN1
            have HN1 := Lib.hid HN1
            clear hst hbd HS Hok3 Hnx3 ho9
            gi_wp2_with (fail)
            refine ⟨trivial, rfl, ((callsIn_wide (n := 0)).2 HN1.out).mono ?_⟩
            rintro e w8 ⟨rfl, rfl⟩
            gi_wp2_with (fail)
            refine ⟨trivial, rfl, ((callsIn_wide (n := 0)).2 HW2.out).mono ?_⟩
            rintro e w9 ⟨rfl, hu9, hb9, hk9⟩
            have HE := Lib.hid ((HLd.out.wrote hu9 hb9 hk9).tx Hst.out)
            clear y0 z0 z1 hu9 hb9 hk9
            gi_wp2_with (fail)
            exact HE.out
          · have e0 : decide (0 ≤ nk) = false := decide_eq_false h0
            dsimp only
            rw [e0]
            clear e0
            obtain ⟨nm, hnm⟩ : ∃ q, Hid (nameD d.names (-1 - nk) = q) := ⟨_, Lib.hid rfl⟩
            have hst : txStep d ⟨o0, a0, p0⟩ ⟨dd, ⟨nk, ni, na⟩, kf⟩ = ⟨((o0 ++ List.replicate j 41) ++ nm.data.toList) ++ [40], dd, dd⟩ := by
              unfold txStep
              dsimp only
              rw [if_neg h0, ← HC.out, if_neg (Nat.not_le.2 hle2), List.append_nil, hnm.out]
            have hbd := Hok3.out
            rw [hst] at hbd
            dsimp only at hbd
            rw [List.length_append, List.length_append] at hbd
            have Hst := Lib.hid (Hnx3.out.trans hst)
            have HLe : Hid (TxL w W2 #[.slice xta T xtc, .slice xna N xnc, .slice xaa L xac] wl.heap.size W.heap.size [.int .i64 nk, .int .i64 ni, .int .i64 na, .slice xa ln xcap] (o0 ++ List.replicate j 41) dd o w7.drew) := Lib.hid (HLd.out.quiet (Below.refl _ w7).drew)
            have HW2 := Lib.hid (txw_any (w.heap.size + 1 + 1) (o0 ++ List.replicate j 41) nm w7.drew HLe.out.mem.bui (by have : nm.size = nm.data.toList.length := rfl; omega) (by show _ ≤ w7.heap.size; omega))
            have HRU := Lib.hid (truleOf_any nk w7.drew ⟨hlk, by omega⟩)
            have HN1 := HNN.out (-1 - nk) w7.drew HLe.out.mem.bel (by omega)
            rw [hnm.out] at HN1
            have HN1 := Lib.hid HN1
            have Hbd := Lib.hid hbd
            clear hst hbd HS Hok3 Hnx3 ho9
            gi_wp2_with (fail)
            refine wpInR_region_still_tailT 6 (by kernel_rfl) (by kernel_rfl) (by kernel_rfl) ?_
            simp only [List.take_succ_cons, List.take_zero, List.drop_succ_cons, List.drop_zero]
            still_step
            still_step
            still_step
            still_step
            still_call HRU.out
            still_call HN1.out
            refine wpStill_nil ?_
            gi_wp2_with (fail)
            refine ⟨trivial, rfl, ((callsIn_wide (n := 0)).2 HW2.out).mono ?_⟩
            rintro e w9 ⟨rfl, hu9, hb9, hk9⟩
            have HLf := Lib.hid (HLe.out.wrote hu9 hb9 hk9)
            have HW3 := Lib.hid (txb_any (w.heap.size + 1 + 1) ((o0 ++ List.replicate j 41) ++ nm.data.toList) 40 40 rfl w9 HLf.out.mem.bui (by rw [List.length_append]; have := Hbd.out; omega) (by have := HLf.out.mem.bel.size; have := HLf.out.szK; have := HLf.out.blk.lt; have := HLf.out.szn; omega))
            clear y0 z0 z1 yl zl hu9 hb9 hk9 HW2
            gi_wp2_with (fail)
            refine ⟨trivial, rfl, ((callsIn_wide (n := 0)).2 HW3.out).mono ?_⟩
            rintro e w10 ⟨rfl, hu10, hb10, hk10⟩
            have HLg := Lib.hid (HLf.out.wrote hu10 hb10 hk10)
            have k4 := HLg.out.op.cell
            have f4 := HLg.out.op.frozen
            have HE := Lib.hid ((HLg.out.setO dd).tx Hst.out)
            clear hu10 hb10 hk10
            gi_wp2_with (fail)
            exact HE.out
  case done =>
    rintro D xs W hD hfull hI hK
    obtain ⟨hM, hA, hO⟩ := hI
    rw [show xs.map (·.nd) = _ from hfull] at hM hA hO
    have hbd := Hok.out (TrF.pre true 1 (.cons ⟨hk, hi, ha⟩ kids .nil)) [] (List.append_nil _)
    obtain ⟨S0, hS0⟩ : ∃ q, Hid (txAll d (TrF.pre true 1 (.cons ⟨hk, hi, ha⟩ kids .nil)) = q) := ⟨_, Lib.hid rfl⟩
    rw [hS0.out] at hM hA hO hbd
    obtain ⟨o0, a0, p0⟩ := S0
    obtain ⟨hbd, -, hp0⟩ := hbd
    dsimp only at hM hO hbd hp0
    have hXe : Hid (X = o0 ++ List.replicate p0 41) := Lib.hid (by rw [← hX.out]; unfold txT; rw [hS0.out])
    have hws : w.heap.size + 8 ≤ wl.heap.size := by have := Hws.out; omega
    have hO4 : Boxed W (w.heap.size + 1 + 1 + 1 + 1) 3 (.int .i64 (p0 : Int)) := hO
    have HM := Lib.hid hM
    have HO := Lib.hid hO4
    have HKD := Lib.hid hK
    clear hfull hM hA hO hO4 hK hS0
    obtain ⟨s1, hs1⟩ : ∃ q : ByteArray, Hid ((⟨o0.toArray⟩ : ByteArray) = q) := ⟨_, Lib.hid rfl⟩
    obtain ⟨s2, hs2⟩ : ∃ q : ByteArray, Hid ((⟨(Lib.repeatL (⟨#[41]⟩ : ByteArray).data.toList p0).toArray⟩ : ByteArray) = q) := ⟨_, Lib.hid rfl⟩
    have hz1 : s1.size ≤ 100000 := by rw [← hs1.out]; show o0.toArray.size ≤ _; simpa using hbd
    have hz2 : s2.size ≤ 1000 := by rw [← hs2.out]; show (Lib.repeatL [41] p0).toArray.size ≤ _; rw [repl_1]; simpa using hp0
    have HXs : Hid (s1 ++ s2 = ⟨X.toArray⟩) := Lib.hid (by
      rw [← hs1.out, ← hs2.out, hXe.out]
      show ((⟨o0.toArray⟩ : ByteArray) ++ (⟨(Lib.repeatL [41] p0).toArray⟩ : ByteArray)) = _
      rw [repl_1]
      apply ByteArray.ext
      simp)
    have HB0 := Lib.hid ((Below.refl W.heap.size W).drew)
    have hO0 : Boxed W.drew (w.heap.size + 1 + 1 + 1 + 1) 3 (.int .i64 (p0 : Int)) := HO.out
    have HO0 := Lib.hid hO0
    have hstr := Any.Builder_String_any_k Try.laysBS Try.Builder_ExtraBS (w.heap.size + 1 + 1) (w.heap.size + 1 + 1) o0 W.drew HM.out.bui (by have := HM.out.bel.size; have := HO.out.lt; show _ ≤ W.heap.size; omega)
    rw [hs1.out] at hstr
    change Calls Try.prog 129 _ _ _ at hstr
    have Hstr := Lib.hid hstr
    have hDW : D < W.heap.size := (Array.getElem?_eq_some_iff.1 HKD.out).1
    clear hstr hO0 hbd
    gi_wp2_with (fail)
    refine wpIn_wide.2 ?_
    refine wp_region_held_drew (S := fun w' => w'.cell? ⟨w.heap.size + 1 + 1 + 1 + 1, 0, none⟩ = some (.int .i64 (p0 : Int))) (by kernel_rfl) ?_ (fun hHeld => ?_)
    · exact HO0.out.cell
    refine wpAnyH_ready (rs := [0, 1]) (by kernel_rfl) (by simp) ?_
    refine AllReadyH.cons (iatLS iatZS) (fun K hK => ?_) (AllReadyH.cons (iatLS (iatSS iatZS)) (fun K hK => ?_) (AllReadyH.nil))
    ·
      go_simp
      refine Hstr.out.mono ?_
      rintro e9 K1 ⟨rfl, hu, hb, hk⟩
      have hk : OthK (w.heap.size + 1 + 1) W.drew K1 := hk
      have HO1 : Hid (Boxed K1 (w.heap.size + 1 + 1 + 1 + 1) 3 (.int .i64 (p0 : Int))) := Lib.hid (OthK.blk hk HO0.out (by omega) (by decide))
      have HK1 : Hid (K1.heap[D]? = some (.deferred (some []))) := Lib.hid (hk D _ HKD.out (fun e => by have := Option.some.inj e; omega) (fun c fz e => by cases e))
      have Hb1 := Lib.hid ((HM.out.bel.trans ((Below.refl W.heap.size W).drew.mono HM.out.bel.size)).trans (hb.mono (by omega)))
      have HRP := repeat_any ⟨#[41]⟩ p0 K1 (by omega) (by show 1 * p0 ≤ _; omega)
      rw [hs2.out] at HRP
      have HRP := Lib.hid HRP
      clear hu hb hk
      try dsimp only
      refine hK.out _ _ ?_ (fun hHeld => ?_)
      · exact HO1.out.cell
      clear hK K
      try simp only [Act.put, List.setIfInBounds_toArray, List.set_cons_zero, List.set_cons_succ]
      refine wpAnyH_ready (rs := [1]) (by kernel_rfl) (by simp) ?_
      refine AllReadyH.cons (iatLS (iatSS iatZS)) (fun K hK => ?_) AllReadyH.nil
      have c0 := HO1.out.cell
      go_simp
      clear c0
      refine hK.out _ _ ?_ (fun hHeld => ?_)
      · exact HO1.out.cell
      clear hK K
      try simp only [Act.put, List.setIfInBounds_toArray, List.set_cons_zero, List.set_cons_succ]
      refine wpAnyH_ready (rs := [2]) (by kernel_rfl) (by simp) ?_
      refine AllReadyH.cons (iatLS (iatSS (iatSS iatZS))) (fun K hK => ?_) AllReadyH.nil
      go_simp
      refine HRP.out.mono ?_
      rintro e9 K2 ⟨rfl, hb⟩
      have HO2 : Hid (Boxed K2 (w.heap.size + 1 + 1 + 1 + 1) 3 (.int .i64 (p0 : Int))) := Lib.hid (HO1.out.kept (below_grownBy hb none) (by simp))
      have HK2 : Hid (K2.heap[D]? = some (.deferred (some []))) := Lib.hid ((hb.block D (Array.getElem?_eq_some_iff.1 HK1.out).1).trans HK1.out)
      have Hb2 := Lib.hid (Hb1.out.trans (hb.mono Hb1.out.size))
      clear hb
      try dsimp only
      refine hK.out _ _ ?_ (fun hHeld => ?_)
      · exact HO2.out.cell
      clear hK K
      try simp only [Act.put, List.setIfInBounds_toArray, List.set_cons_zero, List.set_cons_succ]
      refine wpAnyH_ready (rs := [3]) (by kernel_rfl) (by simp) ?_
      refine AllReadyH.cons (iatLS (iatSS (iatSS (iatSS iatZS)))) (fun K hK => ?_) AllReadyH.nil
      have hzz : ¬ 9223372036854775807 < s1.size + s2.size := by omega
      go_simp
      clear hzz
      refine hK.out _ _ ?_ (fun hHeld => ?_)
      · exact HO2.out.cell
      clear hK K
      try simp only [Act.put, List.setIfInBounds_toArray, List.set_cons_zero, List.set_cons_succ]
      refine wpAnyH_ready (rs := [4]) (by kernel_rfl) (by simp) ?_
      refine AllReadyH.cons (iatLS (iatSS (iatSS (iatSS (iatSS iatZS))))) (fun K hK => ?_) AllReadyH.nil
      go_simp
      refine hK.out _ _ ?_ (fun hHeld => ?_)
      · exact HO2.out.cell
      clear hK K
      try simp only [Act.put, List.setIfInBounds_toArray, List.set_cons_zero, List.set_cons_succ]
      refine wpAnyH_done (by kernel_rfl) ?_ _
      gi_wp2_with (fail)
      refine ⟨by simp, .inl ⟨_, _, rfl, run_takeDeferred HK2.out, ?_⟩⟩
      refine ⟨.string (s1 ++ s2), ?_, ?_, Hb2.out.trans ((Below.refl w.heap.size _).grown (grownBy_putObj' _ D (.deferred none)) (by have := Hb2.out.size; omega) (fun k e => by cases e; omega))⟩
      · simp [results, Try.f93, go_sem]
      · rw [HXs.out]
    ·
      have c0 := HO0.out.cell
      go_simp
      clear c0
      refine hK.out _ _ ?_ (fun hHeld => ?_)
      · exact HO0.out.cell
      clear hK K
      try simp only [Act.put, List.setIfInBounds_toArray, List.set_cons_zero, List.set_cons_succ]
      refine wpAnyH_ready (rs := [0]) (by kernel_rfl) (by simp) ?_
      refine AllReadyH.cons (iatLS iatZS) (fun K hK => ?_) AllReadyH.nil
      go_simp
      refine Hstr.out.mono ?_
      rintro e9 K1 ⟨rfl, hu, hb, hk⟩
      have hk : OthK (w.heap.size + 1 + 1) W.drew K1 := hk
      have HO1 : Hid (Boxed K1 (w.heap.size + 1 + 1 + 1 + 1) 3 (.int .i64 (p0 : Int))) := Lib.hid (OthK.blk hk HO0.out (by omega) (by decide))
      have HK1 : Hid (K1.heap[D]? = some (.deferred (some []))) := Lib.hid (hk D _ HKD.out (fun e => by have := Option.some.inj e; omega) (fun c fz e => by cases e))
      have Hb1 := Lib.hid ((HM.out.bel.trans ((Below.refl W.heap.size W).drew.mono HM.out.bel.size)).trans (hb.mono (by omega)))
      have HRP := repeat_any ⟨#[41]⟩ p0 K1 (by omega) (by show 1 * p0 ≤ _; omega)
      rw [hs2.out] at HRP
      have HRP := Lib.hid HRP
      clear hu hb hk
      try dsimp only
      refine hK.out _ _ ?_ (fun hHeld => ?_)
      · exact HO1.out.cell
      clear hK K
      try simp only [Act.put, List.setIfInBounds_toArray, List.set_cons_zero, List.set_cons_succ]
      refine wpAnyH_ready (rs := [2]) (by kernel_rfl) (by simp) ?_
      refine AllReadyH.cons (iatLS (iatSS (iatSS iatZS))) (fun K hK => ?_) AllReadyH.nil
      go_simp
      refine HRP.out.mono ?_
      rintro e9 K2 ⟨rfl, hb⟩
      have HO2 : Hid (Boxed K2 (w.heap.size + 1 + 1 + 1 + 1) 3 (.int .i64 (p0 : Int))) := Lib.hid (HO1.out.kept (below_grownBy hb none) (by simp))
      have HK2 : Hid (K2.heap[D]? = some (.deferred (some []))) := Lib.hid ((hb.block D (Array.getElem?_eq_some_iff.1 HK1.out).1).trans HK1.out)
      have Hb2 := Lib.hid (Hb1.out.trans (hb.mono Hb1.out.size))
      clear hb
      try dsimp only
      refine hK.out _ _ ?_ (fun hHeld => ?_)
      · exact HO2.out.cell
      clear hK K
      try simp only [Act.put, List.setIfInBounds_toArray, List.set_cons_zero, List.set_cons_succ]
      refine wpAnyH_ready (rs := [3]) (by kernel_rfl) (by simp) ?_
      refine AllReadyH.cons (iatLS (iatSS (iatSS (iatSS iatZS)))) (fun K hK => ?_) AllReadyH.nil
      have hzz : ¬ 9223372036854775807 < s1.size + s2.size := by omega
      go_simp
      clear hzz
      refine hK.out _ _ ?_ (fun hHeld => ?_)
      · exact HO2.out.cell
      clear hK K
      try simp only [Act.put, List.setIfInBounds_toArray, List.set_cons_zero, List.set_cons_succ]
      refine wpAnyH_ready (rs := [4]) (by kernel_rfl) (by simp) ?_
      refine AllReadyH.cons (iatLS (iatSS (iatSS (iatSS (iatSS iatZS))))) (fun K hK => ?_) AllReadyH.nil
      go_simp
      refine hK.out _ _ ?_ (fun hHeld => ?_)
      · exact HO2.out.cell
      clear hK K
      try simp only [Act.put, List.setIfInBounds_toArray, List.set_cons_zero, List.set_cons_succ]
      refine wpAnyH_done (by kernel_rfl) ?_ _
      gi_wp2_with (fail)
      refine ⟨by simp, .inl ⟨_, _, rfl, run_takeDeferred HK2.out, ?_⟩⟩
      refine ⟨.string (s1 ++ s2), ?_, ?_, Hb2.out.trans ((Below.refl w.heap.size _).grown (grownBy_putObj' _ D (.deferred none)) (by have := Hb2.out.size; omega) (fun k e => by cases e; omega))⟩
      · simp [results, Try.f93, go_sem]
      · rw [HXs.out]
end Go.Proofs.Ythogiakfbgehnaa

