/- Texts joined: Dk. -/
import Derived.Test.YtngbfjimmdkfeaaPXD4
import Derived.Deep.MidRow
import Derived.Deep.RegionHeld3
import Derived.Deep.AppendLies
import Derived.Great.BuildSlice
set_option linter.unusedVariables false
set_option linter.unusedSimpArgs false
namespace Go.Proofs.Ytngbfjimmdkfeaa
open Go.RowKit Go.Shelf Go.Maps

attribute [local go_sem] Oper.semAt_some

abbrev zeroW : WSet := fun _ => 0#64
theorem range_wd {w : World} {b off : Nat} {f : WSet} (h : Wd32 w b off f) : w.rangeAt b off (wordsL f) := fun j v hj => by
  have hl : j < 32 := by
    rcases Nat.lt_or_ge j 32 with h | h
    · exact h
    · rw [List.getElem?_eq_none (by rw [wordsL_len]; exact h)] at hj
      cases hj
  rw [wordsL_at f hl] at hj
  cases hj
  exact h j hl
theorem load_wd {w : World} {b off : Nat} {f : WSet} (h : Wd32 w b off f) : (Instr.loadAt 74 (.pointer (some ⟨b, off, none⟩))).run Try.prog w = .ok (.agg (wordsL f).toArray) w :=
  run_loadAt_mid w b off _ _ _ (range_wd h) Try.underlying74 rfl (by rw [wordsL_len]; kernel_rfl)
theorem info_wset : (Try.prog.info? 74).map (fun i => (i.zero, i.size, i.bytes)) = some (some (.agg (wordsL zeroW).toArray), 32, 256) := by kernel_rfl
/-- A value is put onto an own row; where the row then lies. -/
theorem run_pushL (w : World) (sT ty eT : TypeId) (zv : Value) (sz by_ : Nat) (hu : Try.prog.underlying sT = some (.slice eT)) (hinfo : (Try.prog.info? eT).map (fun i => (i.zero, i.size, i.bytes)) = some (some zv, sz, by_)) (hzs : zv.cells.size = sz) (hsz : 0 < sz) (cs : List Value) (hcl : cs.length = sz) (h1 : ∀ u ∈ cs, u.oneCell' = true)
    {base n cap : Nat} {a : Option Addr} {xs : List Value} (hown : w.ownsRow base eT sz (.slice a n cap) n xs) (hn : (n + 1) * by_ ≤ 140737488355328) (hn2 : n + 1 ≤ maxLen) (hbase : base ≤ w.heap.size) :
    ∃ g cap' w', (Builtin.append_ #[sT, sT] ty #[.slice a n cap, .slice (some ⟨w.heap.size, 0, none⟩) 1 1]).run Try.prog (w.alloc (.cells cs.toArray eT)) = .ok (.slice (some ⟨g, 0, none⟩) (n + 1) cap') w' ∧
      w'.ownsRow base eT sz (.slice (some ⟨g, 0, none⟩) (n + 1) cap') (n + 1) (xs ++ cs) ∧ w.grownBy w' (Value.slice a n cap).ownBlock ∧ ((Value.slice a n cap).ownBlock = some g ∨ w.heap.size ≤ g) ∧ g < w'.heap.size := by
  obtain ⟨i0, hi, hz0, hz1, hz2⟩ := info_parts hinfo
  have hnew : ∀ j u, cs[j]? = some u → (w.alloc (.cells cs.toArray eT)).cell? ((⟨w.heap.size, 0, none⟩ : Addr).add j) = some u := by
    intro j u hj
    have := World.alloc_heap_new w (.cells cs.toArray eT)
    have e : ((⟨w.heap.size, 0, none⟩ : Addr).add j) = ⟨w.heap.size, j, none⟩ := by simp [Addr.add]; exact Eq.symm
    rw [e]
    unfold World.cell?
    rw [show ((⟨w.heap.size, j, none⟩ : Addr).block) = w.heap.size from rfl, this]
    simp only [Option.bind_some]
    simpa using hj
  obtain ⟨g, cap', w', hrun, ho, hg, hlies, hlt⟩ := run_append_lies (P := Try.prog) (w.alloc (.cells cs.toArray eT)) sT ty base eT i0 zv sz by_ hu hi hz0 hz1 hz2 hzs hsz _ n _ (hown.alloc _) ⟨w.heap.size, 0, none⟩ 1 1 cs (by rw [hcl]; omega) hnew h1 (by omega) hn2 hn (by simp; omega) _ rfl
  exact ⟨g, cap', w', hrun, ho, grownBy_trans (World.grownBy_alloc w _ _) hg (fun i e => .inl e), hlies.imp id (fun e => by rw [e]; simp), hlt⟩
theorem step_buildS {P : Program} {ops : Array Oper} {o : Oper} {a : Act} {w : World} {K : Act → World → Prop} {Q : Exit → Act → World → Prop} {E : Prop} (hgd : o.guard = none) (t e : TypeId) (len : Nat) (x : Operand) (v : Value) (ho : o.op = .buildSlice t len #[(0, x)]) (hx : a.eval x = v)
    (cells : Array Value) (ie : TypeInfo) (z : Value) (hu : P.underlying t = some (.slice e)) (hie : P.info? e = some ie) (hz : ie.zero = some z) (hsmall : ¬ len * ie.size > 2 ^ 24) (hpos : ¬ len * ie.size = 0)
    (hf : Instr.fill (fun i => some (i * ie.size, ie.size)) ((Array.range (len * ie.size)).map (z.cells[· % z.cells.size]!)) [(0, v)] = some cells)
    (h : K (a.put o.dst (.slice (some ⟨w.heap.size, 0, none⟩) len len)) (w.alloc (.cells cells e))) :
    if Region.wanted o (yielded ops a.tmps) = true then Oper.wp P o a w K Q else E := by
  rw [if_pos (by simp [Region.wanted, hgd])]
  exact wp_buildSlice t e len _ ho cells ie z hu hie hz hsmall hpos (by rw [show ((#[(0, x)] : Array (Nat × Operand)).map fun (i, x) => (i, a.eval x)).toList = [(0, v)] from by simp [hx]]; exact hf) h
theorem fill_set (f : WSet) : Instr.fill (fun i => some (i * 32, 32)) ((Array.range (1 * 32)).map ((Value.agg (wordsL zeroW).toArray).cells[· % (Value.agg (wordsL zeroW).toArray).cells.size]!)) [(0, .agg (wordsL f).toArray)] = some (wordsL f).toArray := by kernel_rfl
theorem words_one (f : WSet) : ∀ u ∈ wordsL f, u.oneCell' = true := fun u hu => by
  unfold wordsL at hu
  obtain ⟨i, _, rfl⟩ := List.mem_map.1 hu
  rfl
theorem step_load_mid {P : Program} {ops : Array Oper} {o : Oper} {a : Act} {w : World} {K : Act → World → Prop} {Q : Exit → Act → World → Prop} {E : Prop} (hgd : o.guard = none) (ty : TypeId) (x : Operand) (ho : o.op = .load ty x)
    (b off : Nat) (hx : a.eval x = .pointer (some ⟨b, off, none⟩)) (cs : List Value) (d : TypeDesc) (hc : w.rangeAt b off cs) (hu : P.underlying ty = some d) (hd : d.isRow = true) (hi : (P.info? ty).map (·.size) = some cs.length) (h : K (a.put o.dst (.agg cs.toArray)) w) :
    if Region.wanted o (yielded ops a.tmps) = true then Oper.wp P o a w K Q else E := by
  rw [if_pos (by simp [Region.wanted, hgd])]
  exact wp_load_mid ty x ho b off hx cs d hc hu hd hi h
theorem equal_set (w : World) (f g : WSet) : (Op.equalIn 10000 74 (.agg (wordsL f).toArray) (.agg (wordsL g).toArray)).run Try.prog w = .ok (decide (eqW f g)) w := by
  obtain ⟨r, hr, hi⟩ := run_equalIn_deep (P := Try.prog) 9998 2 74 (arrK.at 0) w 2 2 (.agg (wordsL f).toArray) (.agg (wordsL g).toArray) (litsW f) (litsW g) (formed_set f) (formed_set g) (lits_all 0 f) (lits_all 0 g)
  have : r = decide (eqW f g) := by
    rw [Bool.eq_iff_iff, hi, decide_eq_true_iff, lits_eq]
  rw [← this]
  exact hr
theorem KpM.blk {S : Nat → Prop} {a b : World} (h : KpM S a b) {k n : Nat} {t : TypeId} {g : Nat → Value} (hb : BlkA a k t n g) (hS : ¬ S k) : BlkA b k t n g := by
  have hl := hb.lt
  refine h.ind (P := fun w => BlkA w k t n g) (fun w w' row h hg hr => h.kept hg (fun e => ?_)) hb
  rcases hr k e.symm with h1 | h1
  · exact hS h1
  · omega
theorem KpM.bel {S : Nat → Prop} {a b w0 : World} {B : Nat} (h : KpM S a b) (hb : Below B w0 a) (hB : B ≤ a.heap.size) (hS : ∀ g, S g → B ≤ g) : Below B w0 b := by
  have : Below B w0 b ∧ B ≤ b.heap.size := h.ind (P := fun w => Below B w0 w ∧ B ≤ w.heap.size) (fun w w' row h hg hr => ⟨h.1.grown hg h.2 (fun k e => by
    rcases hr k e with h1 | h1
    · exact hS k h1
    · omega), Nat.le_trans h.2 hg.size⟩) ⟨hb, hB⟩
  exact this.1
theorem KpM.eg {S : Nat → Prop} {a b : World} (h : KpM S a b) {base cap : Nat} {v : Option Addr} {es : List Eg} (he : EgO a base v cap es) (hS : ∀ g, (Value.slice v es.length cap).ownBlock = some g → ¬ S g) : EgO b base v cap es := by
  obtain ⟨vs, ho, hv⟩ := he
  exact ⟨vs, h.own ho hS, hv⟩
theorem own_blkD {w : World} {base e size n cap k m t : Nat} {a : Option Addr} {xs : List Value} {f : Nat → Value} (h : w.ownsRow base e size (.slice a n cap) n xs) (hb : BlkA w k t m f) (hne : e ≠ t) : (Value.slice a n cap).ownBlock ≠ some k := fun e0 => by
  obtain ⟨_, cur, h2⟩ := own_typD h k e0
  obtain ⟨c2, h3⟩ := hb.ty
  rw [h3] at h2
  cases h2
  exact hne rfl
theorem own_mapD {w : World} {base e size n cap k m : Nat} {a : Option Addr} {xs : List Value} {f : WSet → Option Nat} (h : w.ownsRow base e size (.slice a n cap) n xs) (hb : MapS w k m f) : (Value.slice a n cap).ownBlock ≠ some k := fun e0 => by
  obtain ⟨_, cur, h2⟩ := own_typD h k e0
  obtain ⟨es, j, h3⟩ := hb.obj
  rw [h3] at h2
  cases h2
theorem map_blkD {w : World} {k k2 m m2 t : Nat} {f : WSet → Option Nat} {g : Nat → Value} (h : MapS w k m f) (hb : BlkA w k2 t m2 g) : k ≠ k2 := fun e => by
  subst e
  obtain ⟨es, j, h3⟩ := h.obj
  obtain ⟨c2, h2⟩ := hb.ty
  rw [h3] at h2
  cases h2
theorem ownW_le {w : World} {base e size n cap : Nat} {a : Option Addr} {xs : List Value} (h : w.ownsRow base e size (.slice a n cap) n xs) : n ≤ cap ∧ cap ≤ 9223372036854775807 := by
  rcases h.2 with ⟨e1, e0⟩ | ⟨g, cp, cur, e1, hb, hk, hnc, hcm, _⟩
  · injection e1 with e1 e2 e3
    omega
  · injection e1 with e1 e2 e3
    unfold maxLen at hcm
    omega
theorem mkG_six (L : MkL) (n m : Nat) (sa sa' : Option Addr) (sc sc' : Nat) (cu : Nat → Bool) (bh : Nat → WSet) (i : Nat) : (if i = 6 then Value.slice sa' m sc' else mkG L n sa sc cu bh i) = mkG L m sa' sc' cu bh i := by
  by_cases e : i = 6
  · subst e
    rfl
  · rw [if_neg e]
    unfold mkG
    by_cases h : i < 8
    · rw [if_pos h, if_pos h]
      match i, h, e with
      | 0, _, _ => rfl
      | 1, _, _ => rfl
      | 2, _, _ => rfl
      | 3, _, _ => rfl
      | 4, _, _ => rfl
      | 5, _, _ => rfl
      | 7, _, _ => rfl
    · rw [if_neg h, if_neg h]
/-- A set is found: the map, the row, the field. -/
theorem MkrAt.found {w0 w w1 w2 : World} {L : MkL} {cl : Nat → WSet} {cu : Nat → Bool} {bh : Nat → WSet} {all all' : List WSet} {sa sa' : Option Addr} {sc sc' : Nat} (h : MkrAt w0 w L cl cu bh all sa sc) (g1 : w.grownBy w1 (some L.fb)) (hm : MapS w1 L.fb all'.length (idxW all'))
    (g2 : w1.grownBy w2 (Value.slice sa all.length sc).ownBlock) (ho : w2.ownsRow L.M1 74 32 (.slice sa' all'.length sc') all'.length (all'.flatMap wordsL)) (hw' : ∀ g, (Value.slice sa' all'.length sc').ownBlock = some g → L.M1 ≤ g) :
    MkrAt w0 (w2.setCell ⟨L.mb, 6, none⟩ (.slice sa' all'.length sc')) L cl cu bh all' sa' sc' ∧ KpM (MkQ L (.slice sa all.length sc)) w (w2.setCell ⟨L.mb, 6, none⟩ (.slice sa' all'.length sc')) := by
  have hlo := h.lo
  have hhi := h.hi
  have hm1 := h.m1
  have g3 := grownBy_set w2 L.mb 6 (Value.slice sa' all'.length sc')
  have hso : ∀ g, (Value.slice sa all.length sc).ownBlock = some g → L.M1 ≤ g := fun g e => (own_typD h.sets g e).1
  have hs2 : KpM (fun g => g = L.fb ∨ (Value.slice sa all.length sc).ownBlock = some g) w w2 := (KpM.one g1 (fun g e => by injection e with e; exact .inl (.inl e.symm))).step g2 (fun g e => .inl (.inr e))
  have hs3 : KpM (fun g => (g = L.fb ∨ (Value.slice sa all.length sc).ownBlock = some g) ∨ g = L.mb) w (w2.setCell ⟨L.mb, 6, none⟩ (.slice sa' all'.length sc')) := (hs2.mono (fun g e => .inl e)).step g3 (fun g e => by injection e with e; exact .inl (.inr e.symm))
  have hfm := map_blkD h.fnd h.mkr
  refine ⟨⟨hs3.bel h.bel h.bel.size (fun g e => ?_), Nat.le_trans hm1 hs3.size, ?_, hs3.blk h.cb ?_, hs3.blk h.lb ?_, fun d hd => ⟨hs3.own (h.ld d hd).1 (fun g e => ?_), (h.ld d hd).2⟩, ⟨hs3.eg h.eg.1 (fun g e => ?_), h.eg.2⟩, ?_, ?_, hlo, hhi⟩, hs3.mono (fun g e => ?_)⟩
  · rcases e with (e | e) | e
    · omega
    · have := hso g e; omega
    · omega
  · have hk2 := hs2.blk h.mkr (fun e => by
      rcases e with e | e
      · exact hfm e.symm
      · have := hso _ e; omega)
    exact (hk2.set (j := 6) (by omega) _).congr (fun i _ => mkG_six L _ _ _ _ _ _ _ _ i)
  · intro e
    rcases e with (e | e) | e
    · exact map_blkD h.fnd h.cb e.symm
    · have := hso _ e; omega
    · obtain ⟨c1, h1⟩ := h.cb.ty
      obtain ⟨c2, h2⟩ := h.mkr.ty
      rw [e, h2] at h1
      cases h1
  · intro e
    rcases e with (e | e) | e
    · exact map_blkD h.fnd h.lb e.symm
    · have := hso _ e; omega
    · obtain ⟨c1, h1⟩ := h.lb.ty
      obtain ⟨c2, h2⟩ := h.mkr.ty
      rw [e, h2] at h1
      cases h1
  · intro e1
    rcases e1 with (e1 | e1) | e1
    · exact own_mapD (h.ld d hd).1 h.fnd (e1 ▸ e)
    · have := hso _ e1; have := (h.ld d hd).2 g e; omega
    · exact own_blkD (h.ld d hd).1 h.mkr (by decide) (e1 ▸ e)
  · intro e1
    obtain ⟨vs, hoE, _⟩ := h.eg.1
    rcases e1 with (e1 | e1) | e1
    · exact own_mapD hoE h.fnd (e1 ▸ e)
    · have := hso _ e1; have := h.eg.2 g e; omega
    · exact own_blkD hoE h.mkr (by decide) (e1 ▸ e)
  · exact own_keptD ho g3 (fun g e e0 => by
      injection e with e
      have := hw' g e0
      omega)
  · exact (hm.kept g2 (fun e => by have := hso _ e.symm; omega)).kept g3 (fun e => hfm (by injection e))
  · rcases e with (e | e) | e
    · exact .inl (by omega)
    · exact .inr e
    · exact .inl (by omega)
/-- What it answers, and the sets behind. -/
def fidx (all : List WSet) (f : WSet) : Int := if eqW f zeroW then -1 else match idxW all f with | some i => (i : Int) | none => (all.length : Int)
def fall (all : List WSet) (f : WSet) : List WSet := if eqW f zeroW then all else match idxW all f with | some _ => all | none => all ++ [f]

set_option maxRecDepth 100000 in
set_option maxHeartbeats 4000000 in
theorem find_any (w0 w : World) (L : MkL) (cl : Nat → WSet) (cu : Nat → Bool) (bh : Nat → WSet) (all : List WSet) (sa : Option Addr) (sc b off : Nat) (f : WSet) (h : MkrAt w0 w L cl cu bh all sa sc) (hf : Wd32 w b off f) (hal : all.length ≤ 500000) :
    Calls Try.prog 31 #[.pointer (some ⟨L.mb, 0, none⟩), .pointer (some ⟨b, off, none⟩)] w fun e w' => e = .returned (.int .i64 (fidx all f)) ∧ ∃ sa' sc', MkrAt w0 w' L cl cu bh (fall all f) sa' sc' ∧ KpM (MkQ L (.slice sa all.length sc)) w w' ∧ ∀ g, (Value.slice sa' (fall all f).length sc').ownBlock = some g → (Value.slice sa all.length sc).ownBlock = some g ∨ w.heap.size ≤ g := by
  have hl0 := load_wd hf
  have hbl : b < w.heap.size := World.block_lt_of_cell? w _ (hf 0 (by omega))
  have heq := equal_set w f zeroW
  rw [show (wordsL zeroW).toArray = #[Value.int .u64 0, Value.int .u64 0, Value.int .u64 0, Value.int .u64 0, Value.int .u64 0, Value.int .u64 0, Value.int .u64 0, Value.int .u64 0, Value.int .u64 0, Value.int .u64 0, Value.int .u64 0, Value.int .u64 0, Value.int .u64 0, Value.int .u64 0, Value.int .u64 0, Value.int .u64 0, Value.int .u64 0, Value.int .u64 0, Value.int .u64 0, Value.int .u64 0, Value.int .u64 0, Value.int .u64 0, Value.int .u64 0, Value.int .u64 0, Value.int .u64 0, Value.int .u64 0, Value.int .u64 0, Value.int .u64 0, Value.int .u64 0, Value.int .u64 0, Value.int .u64 0, Value.int .u64 0] by kernel_rfl] at heq
  have HM := Lib.hid h
  have HF := Lib.hid hf
  obtain ⟨qz, hqz⟩ : ∃ q, Hid (decide (eqW f zeroW) = q) := ⟨_, Lib.hid rfl⟩
  rw [hqz.out] at heq
  obtain ⟨WF, hWF⟩ : ∃ q, Hid ((wordsL f).toArray = q) := ⟨_, Lib.hid rfl⟩
  rw [hWF.out] at heq
  have HR := Lib.hid (range_wd hf)
  have Hin : Hid ((Try.prog.info? 74).map (·.size) = some (wordsL f).length) := Lib.hid (by rw [wordsL_len]; kernel_rfl)
  clear h hf hl0
  go_enter Try.func31, Try.ntmps31
  cases qz
  case true =>
    go_wp2_with (refine wpList_load_mid rfl 74 _ rfl b off rfl (wordsL f) _ HR.out Try.underlying74 rfl Hin.out ?_; rw [hWF.out])
    have hz : eqW f zeroW := of_decide_eq_true hqz.out
    have hfi : fidx all f = -1 := by simp [fidx, hz]
    exact bodyPost_ret (v := .int .i64 (-1)) (by simp [results, Try.results31, go_sem]; try first | rfl | assumption | omega) rfl ⟨by rw [hfi], sa, sc, by simp only [fall, if_pos hz]; exact HM.out, KpM.refl _, by simp only [fall, if_pos hz]; exact fun g e => .inl e⟩
  case false =>
    have hz : Hid (¬ eqW f zeroW) := Lib.hid (of_decide_eq_false hqz.out)
    have hM1 := HM.out.below (Below.refl _ w).drew
    obtain ⟨c, hrun, hc⟩ := hM1.fnd.look f
    rw [hWF.out] at hrun
    obtain ⟨ix, hix⟩ : ∃ q, Hid (idxW all f = q) := ⟨_, Lib.hid rfl⟩
    rw [hix.out] at hrun
    have HC := Lib.hid hc
    have x7 := hM1.mkr.cell (j := 7) (by omega)
    have x6 := hM1.mkr.cell (j := 6) (by omega)
    simp only [mkG, Nat.reduceLT, if_true, List.getD_cons_zero, List.getD_cons_succ] at x6 x7
    have HF1 := Lib.hid (HF.out.grown (grownBy_drew w none) (by simp))
    have HS1 : Hid ((w.drew.cell? ⟨L.mb, 7, none⟩ = some (.map (some L.fb)) ∧ w.drew.rangeAt b off (wordsL f) ∧ (Instr.lookup 70 (.map (some L.fb)) (.agg WF) true).run Try.prog w.drew = .ok (.tuple #[.int .i64 c, .bool ix.isSome]) w.drew)) := Lib.hid ⟨x7, range_wd HF1.out, hrun⟩
    have xl := hM1.mkr.lt
    have HM1 := Lib.hid hM1
    clear hM1 hc hrun x7
    go_wp2_with (refine wpList_load_mid rfl 74 _ rfl b off rfl (wordsL f) _ HR.out Try.underlying74 rfl Hin.out ?_; rw [hWF.out])
    refine wp_region_held_drew (S := fun w' => (w'.cell? ⟨L.mb, 7, none⟩ = some (.map (some L.fb)) ∧ w'.rangeAt b off (wordsL f) ∧ (Instr.lookup 70 (.map (some L.fb)) (.agg WF) true).run Try.prog w' = .ok (.tuple #[.int .i64 c, .bool ix.isSome]) w')) (by kernel_rfl) ?_ (fun hHeld => ?_)
    · exact HS1.out
    refine wpAnyH_take (i := 0) (v := ?_) (gatL gatZ) (by kernel_rfl) (by kernel_rfl) (by kernel_rfl) (fun _ _ _ h => h) (Or.inl ⟨by rfl, ?_⟩) (by assumption) ?_
    rotate_left
    · intro w hSw
      try dsimp only at hSw
      go_simp
      all_goals with_reducible rfl
    try simp only [Act.put, List.setIfInBounds_toArray, List.set_cons_zero, List.set_cons_succ]
    refine wpAnyH_take (i := 1) (v := ?_) (gatL (gatS gatZ)) (by kernel_rfl) (by kernel_rfl) (by kernel_rfl) (fun _ _ _ h => h) (Or.inl ⟨by rfl, ?_⟩) (by assumption) ?_
    rotate_left
    · intro w hSw
      try dsimp only at hSw
      go_simp
      all_goals with_reducible rfl
    try simp only [Act.put, List.setIfInBounds_toArray, List.set_cons_zero, List.set_cons_succ]
    refine wpAnyH_take (i := 2) (v := ?_) (gatL (gatS (gatS gatZ))) (by kernel_rfl) (by kernel_rfl) (by kernel_rfl) (fun _ _ _ h => h) (Or.inl ⟨by rfl, ?_⟩) (by assumption) ?_
    rotate_left
    · intro w hSw
      try dsimp only at hSw
      go_simp
      all_goals with_reducible rfl
    try simp only [Act.put, List.setIfInBounds_toArray, List.set_cons_zero, List.set_cons_succ]
    refine wpAnyH_take (i := 3) (v := ?_) (gatL (gatS (gatS (gatS gatZ)))) (by kernel_rfl) (by kernel_rfl) (by kernel_rfl) (fun _ _ _ h => h) (Or.inl ⟨by rfl, ?_⟩) (by assumption) ?_
    rotate_left
    · intro w hSw
      try dsimp only at hSw
      go_simp
      all_goals with_reducible rfl
    try simp only [Act.put, List.setIfInBounds_toArray, List.set_cons_zero, List.set_cons_succ]
    refine wpAnyH_take (i := 4) (v := ?_) (gatL (gatS (gatS (gatS (gatS gatZ))))) (by kernel_rfl) (by kernel_rfl) (by kernel_rfl) (fun _ _ _ h => h) (Or.inl ⟨by rfl, ?_⟩) (by assumption) ?_
    rotate_left
    · intro w hSw
      try dsimp only at hSw
      go_simp
      all_goals with_reducible rfl
    try simp only [Act.put, List.setIfInBounds_toArray, List.set_cons_zero, List.set_cons_succ]
    refine wpAnyH_take (i := 5) (v := ?_) (gatL (gatS (gatS (gatS (gatS (gatS gatZ)))))) (by kernel_rfl) (by kernel_rfl) (by kernel_rfl) (fun _ _ _ h => h) (Or.inl ⟨by rfl, ?_⟩) (by assumption) ?_
    rotate_left
    · intro w hSw
      try dsimp only at hSw
      go_simp
      all_goals with_reducible rfl
    try simp only [Act.put, List.setIfInBounds_toArray, List.set_cons_zero, List.set_cons_succ]
    refine wpAnyH_take (i := 6) (v := .agg (wordsL f).toArray) (gatL (gatS (gatS (gatS (gatS (gatS (gatS gatZ))))))) (by kernel_rfl) (by kernel_rfl) (by kernel_rfl) (fun _ _ _ h => h) (yieldsIf_load_mid (by rfl) 74 _ rfl b off rfl (wordsL f) _ (fun _ h => h.2.1) Try.underlying74 rfl Hin.out) (by assumption) ?_
    rw [hWF.out]
    try simp only [Act.put, List.setIfInBounds_toArray, List.set_cons_zero, List.set_cons_succ]
    refine wpAnyH_take (i := 7) (v := ?_) (gatL (gatS (gatS (gatS (gatS (gatS (gatS (gatS gatZ)))))))) (by kernel_rfl) (by kernel_rfl) (by kernel_rfl) (fun _ _ _ h => h) (Or.inl ⟨by rfl, ?_⟩) (by assumption) ?_
    rotate_left
    · intro w hSw
      try dsimp only at hSw
      go_simp
      all_goals with_reducible rfl
    try simp only [Act.put, List.setIfInBounds_toArray, List.set_cons_zero, List.set_cons_succ]
    refine wpAnyH_take (i := 8) (v := ?_) (gatL (gatS (gatS (gatS (gatS (gatS (gatS (gatS (gatS gatZ))))))))) (by kernel_rfl) (by kernel_rfl) (by kernel_rfl) (fun _ _ _ h => h) (Or.inl ⟨by rfl, ?_⟩) (by assumption) ?_
    rotate_left
    · intro w hSw
      try dsimp only at hSw
      go_simp
      all_goals with_reducible rfl
    try simp only [Act.put, List.setIfInBounds_toArray, List.set_cons_zero, List.set_cons_succ]
    refine wpAnyH_take (i := 9) (v := ?_) (gatL (gatS (gatS (gatS (gatS (gatS (gatS (gatS (gatS (gatS gatZ)))))))))) (by kernel_rfl) (by kernel_rfl) (by kernel_rfl) (fun _ _ _ h => h) (Or.inl ⟨by rfl, ?_⟩) (by assumption) ?_
    rotate_left
    · intro w hSw
      try dsimp only at hSw
      go_simp
      all_goals with_reducible rfl
    try simp only [Act.put, List.setIfInBounds_toArray, List.set_cons_zero, List.set_cons_succ]
    refine wpAnyH_take (i := 10) (v := ?_) (gatL (gatS (gatS (gatS (gatS (gatS (gatS (gatS (gatS (gatS (gatS gatZ))))))))))) (by kernel_rfl) (by kernel_rfl) (by kernel_rfl) (fun _ _ _ h => h) (Or.inl ⟨by rfl, ?_⟩) (by assumption) ?_
    rotate_left
    · intro w hSw
      try dsimp only at hSw
      go_simp
      all_goals with_reducible rfl
    try simp only [Act.put, List.setIfInBounds_toArray, List.set_cons_zero, List.set_cons_succ]
    refine wpAnyH_take (i := 11) (v := ?_) (gatL (gatS (gatS (gatS (gatS (gatS (gatS (gatS (gatS (gatS (gatS (gatS gatZ)))))))))))) (by kernel_rfl) (by kernel_rfl) (by kernel_rfl) (fun _ _ _ h => h) (Or.inl ⟨by rfl, ?_⟩) (by assumption) ?_
    rotate_left
    · intro w hSw
      try dsimp only at hSw
      go_simp
      all_goals with_reducible rfl
    try simp only [Act.put, List.setIfInBounds_toArray, List.set_cons_zero, List.set_cons_succ]
    refine wpAnyH_take (i := 12) (v := ?_) (gatL (gatS (gatS (gatS (gatS (gatS (gatS (gatS (gatS (gatS (gatS (gatS (gatS gatZ))))))))))))) (by kernel_rfl) (by kernel_rfl) (by kernel_rfl) (fun _ _ _ h => h) (Or.inl ⟨by rfl, ?_⟩) (by assumption) ?_
    rotate_left
    · intro w hSw
      try dsimp only at hSw
      go_simp
      all_goals with_reducible rfl
    try simp only [Act.put, List.setIfInBounds_toArray, List.set_cons_zero, List.set_cons_succ]
    refine wpAnyH_done (by kernel_rfl) ?_ _
    cases ix with
    | some i =>
      obtain rfl : c = (i : Int) := HC.out i hix.out
      have hfi : fidx all f = (i : Int) := by simp [fidx, hz.out, hix.out]
      have hfa : fall all f = all := by simp [fall, hz.out, hix.out]
      go_wp2_with (fail)
      exact bodyPost_ret (v := .int .i64 (i : Int)) (by simp [results, Try.results31, go_sem]; try first | rfl | assumption | omega) rfl ⟨by rw [hfi], sa, sc, by rw [hfa]; exact HM1.out, KpM.ofB (Below.refl _ w).drew, by rw [hfa]; exact fun g e => .inl e⟩
    | none =>
      have hfi : Hid (fidx all f = (all.length : Int)) := Lib.hid (by simp [fidx, hz.out, hix.out])
      have hfa : Hid (fall all f = all ++ [f]) := Lib.hid (by simp [fall, hz.out, hix.out])
      have hM6 := HM1.out.below (Below.refl _ w.drew).drew
      have HF6 := Lib.hid (HF1.out.grown (grownBy_drew w.drew none) (by simp))
      have hscm : all.length ≤ sc ∧ sc ≤ 9223372036854775807 := ownW_le hM6.sets
      obtain ⟨W1, hst, hm1, g1⟩ := hM6.fnd.store f all.length (by omega) (by unfold maxLen; omega)
      rw [hWF.out] at hst
      have hbf : Hid (b ≠ L.fb) := Lib.hid (fun e => by
        obtain ⟨es, k, h1⟩ := hM6.fnd.obj
        have := HF6.out 0 (by omega)
        rw [e] at this
        simp [World.cell?, h1] at this)
      have x7 := hM6.mkr.cell (j := 7) (by omega)
      have hmf := map_blkD hM6.fnd hM6.mkr
      have hMk1 := hM6.mkr.kept g1 (fun e => hmf (by injection e with e; exact e.symm))
      have x7b := hMk1.cell (j := 7) (by omega)
      simp only [mkG, Nat.reduceLT, if_true, List.getD_cons_zero, List.getD_cons_succ] at x7 x7b
      have HF7 := Lib.hid (HF6.out.grown g1 (fun e => hbf.out (by injection e)))
      have HS6 : Hid (w.drew.drew.cell? ⟨L.mb, 7, none⟩ = some (.map (some L.fb)) ∧ w.drew.drew.rangeAt b off (wordsL f)) := Lib.hid ⟨x7, range_wd HF6.out⟩
      have HS6b : Hid (W1.cell? ⟨L.mb, 7, none⟩ = some (.map (some L.fb)) ∧ W1.rangeAt b off (wordsL f)) := Lib.hid ⟨x7b, range_wd HF7.out⟩
      have HM6 := Lib.hid hM6
      have Hm1 := Lib.hid hm1
      have Hg1 := Lib.hid g1
      have HMk1 := Lib.hid hMk1
      clear hM6 hm1 g1 hMk1 x7 x7b
      go_wp2_with (fail)
      refine wp_region_held_drew (S := fun w' => (w'.cell? ⟨L.mb, 7, none⟩ = some (.map (some L.fb)) ∧ w'.rangeAt b off (wordsL f))) (by kernel_rfl) ?_ (fun hHeld => ?_)
      · exact HS6.out
      refine wpAnyH_take (i := 0) (v := ?_) (gatL gatZ) (by kernel_rfl) (by kernel_rfl) (by kernel_rfl) (fun _ _ _ h => h) (Or.inl ⟨by rfl, ?_⟩) (by assumption) ?_
      rotate_left
      · intro w hSw
        try dsimp only at hSw
        go_simp
        all_goals with_reducible rfl
      try simp only [Act.put, List.setIfInBounds_toArray, List.set_cons_zero, List.set_cons_succ]
      refine wpAnyH_take (i := 1) (v := ?_) (gatL (gatS gatZ)) (by kernel_rfl) (by kernel_rfl) (by kernel_rfl) (fun _ _ _ h => h) (Or.inl ⟨by rfl, ?_⟩) (by assumption) ?_
      rotate_left
      · intro w hSw
        try dsimp only at hSw
        go_simp
        all_goals with_reducible rfl
      try simp only [Act.put, List.setIfInBounds_toArray, List.set_cons_zero, List.set_cons_succ]
      refine wpAnyH_take (i := 2) (v := ?_) (gatL (gatS (gatS gatZ))) (by kernel_rfl) (by kernel_rfl) (by kernel_rfl) (fun _ _ _ h => h) (Or.inl ⟨by rfl, ?_⟩) (by assumption) ?_
      rotate_left
      · intro w hSw
        try dsimp only at hSw
        go_simp
        all_goals with_reducible rfl
      try simp only [Act.put, List.setIfInBounds_toArray, List.set_cons_zero, List.set_cons_succ]
      refine wpAnyH_take (i := 3) (v := ?_) (gatL (gatS (gatS (gatS gatZ)))) (by kernel_rfl) (by kernel_rfl) (by kernel_rfl) (fun _ _ _ h => h) (Or.inl ⟨by rfl, ?_⟩) (by assumption) ?_
      rotate_left
      · intro w hSw
        try dsimp only at hSw
        go_simp
        all_goals with_reducible rfl
      try simp only [Act.put, List.setIfInBounds_toArray, List.set_cons_zero, List.set_cons_succ]
      refine wpAnyH_take (i := 4) (v := ?_) (gatL (gatS (gatS (gatS (gatS gatZ))))) (by kernel_rfl) (by kernel_rfl) (by kernel_rfl) (fun _ _ _ h => h) (Or.inl ⟨by rfl, ?_⟩) (by assumption) ?_
      rotate_left
      · intro w hSw
        try dsimp only at hSw
        go_simp
        all_goals with_reducible rfl
      try simp only [Act.put, List.setIfInBounds_toArray, List.set_cons_zero, List.set_cons_succ]
      refine wpAnyH_take (i := 5) (v := ?_) (gatL (gatS (gatS (gatS (gatS (gatS gatZ)))))) (by kernel_rfl) (by kernel_rfl) (by kernel_rfl) (fun _ _ _ h => h) (Or.inl ⟨by rfl, ?_⟩) (by assumption) ?_
      rotate_left
      · intro w hSw
        try dsimp only at hSw
        go_simp
        all_goals with_reducible rfl
      try simp only [Act.put, List.setIfInBounds_toArray, List.set_cons_zero, List.set_cons_succ]
      refine wpAnyH_take (i := 6) (v := .agg (wordsL f).toArray) (gatL (gatS (gatS (gatS (gatS (gatS (gatS gatZ))))))) (by kernel_rfl) (by kernel_rfl) (by kernel_rfl) (fun _ _ _ h => h) (yieldsIf_load_mid (by rfl) 74 _ rfl b off rfl (wordsL f) _ (fun _ h => h.2) Try.underlying74 rfl Hin.out) (by assumption) ?_
      rw [hWF.out]
      try simp only [Act.put, List.setIfInBounds_toArray, List.set_cons_zero, List.set_cons_succ]
      refine wpAnyH_take (i := 7) (v := ?_) (gatL (gatS (gatS (gatS (gatS (gatS (gatS (gatS gatZ)))))))) (by kernel_rfl) (by kernel_rfl) (by kernel_rfl) (fun _ _ _ h => h) (Or.inl ⟨by rfl, ?_⟩) (by assumption) ?_
      rotate_left
      · intro w hSw
        try dsimp only at hSw
        go_simp
        all_goals with_reducible rfl
      try simp only [Act.put, List.setIfInBounds_toArray, List.set_cons_zero, List.set_cons_succ]
      refine wpAnyH_ready (rs := [8]) (by kernel_rfl) (by simp) ?_
      refine AllReadyH.cons (gatL (gatS (gatS (gatS (gatS (gatS (gatS (gatS (gatS gatZ))))))))) (fun K hK => ?_) AllReadyH.nil
      go_simp
      refine hK.out _ _ ?_ (fun hHeld => ?_)
      · exact HS6b.out
      clear hK K
      try simp only [Act.put, List.setIfInBounds_toArray, List.set_cons_zero, List.set_cons_succ]
      refine wpAnyH_done (by kernel_rfl) ?_ _
      have hM7 := Hg1.out
      have HF8 := Lib.hid (HF7.out.grown (grownBy_drew W1 none) (by simp))
      have HR8 := Lib.hid (range_wd HF8.out)
      have x6' := (HMk1.out.kept (grownBy_drew W1 none) (by simp)).cell (j := 6) (by omega)
      simp only [mkG, Nat.reduceLT, if_true, List.getD_cons_zero, List.getD_cons_succ] at x6'
      have x6a : ∀ o, (W1.alloc o).cell? ⟨L.mb, 6, none⟩ = some (.slice sa all.length sc) := fun o => by
        have x6w : W1.cell? ⟨L.mb, 6, none⟩ = some (.slice sa all.length sc) := x6'
        rw [World.cell?_alloc_lt _ _ _ (World.block_lt_of_cell? _ _ x6w)]; exact x6w
      have hown : Hid (W1.drew.ownsRow L.M1 74 32 (.slice sa all.length sc) all.length (all.flatMap wordsL)) := Lib.hid (own_keptD (own_keptD HM6.out.sets Hg1.out (fun g e e0 => by
        have := (own_typD HM6.out.sets g e0).1
        have := HM6.out.hi.2.2.2
        injection e with e
        omega)) (grownBy_drew W1 none) (fun g e => by cases e))
      have hb1 : Hid (L.M1 ≤ W1.drew.heap.size) := Lib.hid (Nat.le_trans HM6.out.m1 Hg1.out.size)
      obtain ⟨i0, hi0, hz0, hz1, hz2⟩ := info_parts info_wset
      have HFill : Hid (Instr.fill (fun i => some (i * i0.size, i0.size)) ((Array.range (1 * i0.size)).map ((Value.agg (wordsL zeroW).toArray).cells[· % (Value.agg (wordsL zeroW).toArray).cells.size]!)) [(0, .agg WF)] = some WF) := Lib.hid (by rw [hz1, ← hWF.out]; exact fill_set f)
      have Hi0 := Lib.hid hi0
      have Hz0 := Lib.hid hz0
      have Hsm : Hid (¬ 1 * i0.size > 2 ^ 24) := Lib.hid (by rw [hz1]; decide)
      have Hps : Hid (¬ 1 * i0.size = 0) := Lib.hid (by rw [hz1]; decide)
      obtain ⟨g, cap', W2, hrun2, ho2, hg2, hlies, hlt⟩ := run_pushL W1.drew 69 69 74 _ 32 256 Try.underlying69 info_wset (by simp [Value.cells, wordsL_len]) (by decide) (wordsL f) (wordsL_len f) (words_one f) hown.out (by omega) (by unfold maxLen; omega) hb1.out
      rw [hWF.out] at hrun2
      have Hrun2 := Lib.hid hrun2
      have hmo : ∀ g, (Value.slice sa all.length sc).ownBlock = some g → L.M1 ≤ g := fun g e => (own_typD hown.out g e).1
      have hMk2 := (HMk1.out.kept (grownBy_drew W1 none) (by simp)).kept hg2 (fun e => by have := hmo _ e.symm; have := HM6.out.hi.1; omega)
      have z6 := hMk2.cell (j := 6) (by omega)
      have f6 := hMk2.frozen 6
      have l6 := hMk2.lt
      simp only [mkG, Nat.reduceLT, if_true, List.getD_cons_zero, List.getD_cons_succ] at z6
      have hFd := (HM6.out.found (all' := all ++ [f]) (sa' := some ⟨g, 0, none⟩) (sc' := cap') Hg1.out (by
          have : (idxW (all ++ [f])) = fun k => if eqW k f then some all.length else idxW all k := funext (fun k => idxW_snoc hix.out k)
          rw [this, List.length_append]
          exact Hm1.out) (grownBy_trans (grownBy_drew W1 _) hg2 (fun i e => .inl e)) (by
          rw [List.length_append, List.flatMap_append]
          simpa using ho2) (fun g2 e => by
          rw [List.length_append] at e
          exact (own_typD ho2 g2 (by simpa [Value.ownBlock] using e)).1))
      rw [show (all ++ [f]).length = all.length + 1 from by simp] at hFd
      have HFd := Lib.hid hFd
      have HLs : Hid (∀ g2, (Value.slice (some ⟨g, 0, none⟩) (fall all f).length cap').ownBlock = some g2 → (Value.slice sa all.length sc).ownBlock = some g2 ∨ w.heap.size ≤ g2) := Lib.hid (fun g2 e => by
        have e2 : g = g2 := by simpa [Value.ownBlock] using e
        rw [← e2]
        have : w.heap.size ≤ W1.drew.heap.size := Hg1.out.size
        exact hlies.imp id (fun h => Nat.le_trans this h))
      clear hFd hM7 hi0 hz0 hz1 hz2 hrun2 ho2 hg2 hlies hmo hMk2
      go_wp2_with (fail)
      refine wp_region_held_drew (S := fun w' => True) (by kernel_rfl) ?_ (fun hHeld => ?_)
      · exact trivial
      refine wpAnyH_take (i := 0) (v := ?_) (gatL gatZ) (by kernel_rfl) (by kernel_rfl) (by kernel_rfl) (fun _ _ _ h => h) (Or.inl ⟨by rfl, ?_⟩) (by assumption) ?_
      rotate_left
      · intro w hSw
        try dsimp only at hSw
        go_simp
        all_goals with_reducible rfl
      try simp only [Act.put, List.setIfInBounds_toArray, List.set_cons_zero, List.set_cons_succ]
      refine wpAnyH_take (i := 1) (v := ?_) (gatL (gatS gatZ)) (by kernel_rfl) (by kernel_rfl) (by kernel_rfl) (fun _ _ _ h => h) (Or.inl ⟨by rfl, ?_⟩) (by assumption) ?_
      rotate_left
      · intro w hSw
        try dsimp only at hSw
        go_simp
        all_goals with_reducible rfl
      try simp only [Act.put, List.setIfInBounds_toArray, List.set_cons_zero, List.set_cons_succ]
      refine wpAnyH_take (i := 2) (v := ?_) (gatL (gatS (gatS gatZ))) (by kernel_rfl) (by kernel_rfl) (by kernel_rfl) (fun _ _ _ h => h) (Or.inl ⟨by rfl, ?_⟩) (by assumption) ?_
      rotate_left
      · intro w hSw
        try dsimp only at hSw
        go_simp
        all_goals with_reducible rfl
      try simp only [Act.put, List.setIfInBounds_toArray, List.set_cons_zero, List.set_cons_succ]
      refine wpAnyH_take (i := 3) (v := ?_) (gatL (gatS (gatS (gatS gatZ)))) (by kernel_rfl) (by kernel_rfl) (by kernel_rfl) (fun _ _ _ h => h) (Or.inl ⟨by rfl, ?_⟩) (by assumption) ?_
      rotate_left
      · intro w hSw
        try dsimp only at hSw
        go_simp
        all_goals with_reducible rfl
      try simp only [Act.put, List.setIfInBounds_toArray, List.set_cons_zero, List.set_cons_succ]
      refine wpAnyH_take (i := 5) (v := ?_) (gatL (gatS (gatS (gatS (gatS (gatS gatZ)))))) (by kernel_rfl) (by kernel_rfl) (by kernel_rfl) (fun _ _ _ h => h) (Or.inl ⟨by rfl, ?_⟩) (by assumption) ?_
      rotate_left
      · intro w hSw
        try dsimp only at hSw
        go_simp
        all_goals with_reducible rfl
      try simp only [Act.put, List.setIfInBounds_toArray, List.set_cons_zero, List.set_cons_succ]
      refine wpAnyH_take (i := 6) (v := ?_) (gatL (gatS (gatS (gatS (gatS (gatS (gatS gatZ))))))) (by kernel_rfl) (by kernel_rfl) (by kernel_rfl) (fun _ _ _ h => h) (Or.inl ⟨by rfl, ?_⟩) (by assumption) ?_
      rotate_left
      · intro w hSw
        try dsimp only at hSw
        go_simp
        all_goals with_reducible rfl
      try simp only [Act.put, List.setIfInBounds_toArray, List.set_cons_zero, List.set_cons_succ]
      refine wpAnyH_ready (rs := [4, 7]) (by kernel_rfl) (by simp) ?_
      refine AllReadyH.cons (gatL (gatS (gatS (gatS (gatS gatZ))))) (fun K hK => ?_) (AllReadyH.cons (gatL (gatS (gatS (gatS (gatS (gatS (gatS (gatS gatZ)))))))) (fun K hK => ?_) (AllReadyH.nil))
      ·
        go_simp
        refine hK.out _ _ ?_ (fun hHeld => ?_)
        · exact trivial
        clear hK K
        try simp only [Act.put, List.setIfInBounds_toArray, List.set_cons_zero, List.set_cons_succ]
        refine wpAnyH_ready (rs := [7]) (by kernel_rfl) (by simp) ?_
        refine AllReadyH.cons (gatL (gatS (gatS (gatS (gatS (gatS (gatS (gatS gatZ)))))))) (fun K hK => ?_) AllReadyH.nil
        refine step_load_mid rfl 74 _ rfl b off rfl (wordsL f) _ HR8.out Try.underlying74 rfl Hin.out ?_
        rw [hWF.out]
        refine hK.out _ _ ?_ (fun hHeld => ?_)
        · exact trivial
        clear hK K
        try simp only [Act.put, List.setIfInBounds_toArray, List.set_cons_zero, List.set_cons_succ]
        refine wpAnyH_ready (rs := [8]) (by kernel_rfl) (by simp) ?_
        refine AllReadyH.cons (gatL (gatS (gatS (gatS (gatS (gatS (gatS (gatS (gatS gatZ))))))))) (fun K hK => ?_) AllReadyH.nil
        refine step_buildS rfl 69 74 1 _ (.agg WF) rfl rfl WF i0 _ Try.underlying69 Hi0.out Hz0.out Hsm.out Hps.out HFill.out ?_
        refine hK.out _ _ ?_ (fun hHeld => ?_)
        · exact trivial
        clear hK K
        try simp only [Act.put, List.setIfInBounds_toArray, List.set_cons_zero, List.set_cons_succ]
        refine wpAnyH_ready (rs := [9]) (by kernel_rfl) (by simp) ?_
        refine AllReadyH.cons (gatL (gatS (gatS (gatS (gatS (gatS (gatS (gatS (gatS (gatS gatZ)))))))))) (fun K hK => ?_) AllReadyH.nil
        refine step_append_run rfl _ _ 69 69 rfl _ _ _ _ rfl rfl Hrun2.out ?_
        refine hK.out _ _ ?_ (fun hHeld => ?_)
        · exact trivial
        clear hK K
        try simp only [Act.put, List.setIfInBounds_toArray, List.set_cons_zero, List.set_cons_succ]
        refine wpAnyH_take (i := 10) (v := ?_) (gatL (gatS (gatS (gatS (gatS (gatS (gatS (gatS (gatS (gatS (gatS gatZ))))))))))) (by kernel_rfl) (by kernel_rfl) (by kernel_rfl) (fun _ _ _ h => h) (Or.inl ⟨by rfl, ?_⟩) (by assumption) ?_
        rotate_left
        · intro w hSw
          try dsimp only at hSw
          go_simp
          all_goals with_reducible rfl
        try simp only [Act.put, List.setIfInBounds_toArray, List.set_cons_zero, List.set_cons_succ]
        refine wpAnyH_take (i := 11) (v := ?_) (gatL (gatS (gatS (gatS (gatS (gatS (gatS (gatS (gatS (gatS (gatS (gatS gatZ)))))))))))) (by kernel_rfl) (by kernel_rfl) (by kernel_rfl) (fun _ _ _ h => h) (Or.inl ⟨by rfl, ?_⟩) (by assumption) ?_
        rotate_left
        · intro w hSw
          try dsimp only at hSw
          go_simp
          all_goals with_reducible rfl
        try simp only [Act.put, List.setIfInBounds_toArray, List.set_cons_zero, List.set_cons_succ]
        refine wpAnyH_ready (rs := [12]) (by kernel_rfl) (by simp) ?_
        refine AllReadyH.cons (gatL (gatS (gatS (gatS (gatS (gatS (gatS (gatS (gatS (gatS (gatS (gatS (gatS gatZ))))))))))))) (fun K hK => ?_) AllReadyH.nil
        go_simp
        refine hK.out _ _ ?_ (fun hHeld => ?_)
        · exact trivial
        clear hK K
        try simp only [Act.put, List.setIfInBounds_toArray, List.set_cons_zero, List.set_cons_succ]
        refine wpAnyH_done (by kernel_rfl) ?_ _
        go_wp2_with (fail)
        exact bodyPost_ret (v := .int .i64 (all.length : Int)) (by simp [results, Try.results31, go_sem]; try first | rfl | assumption | omega) rfl ⟨by rw [hfi.out], some ⟨g, 0, none⟩, cap', by rw [hfa.out]; exact HFd.out.1, (KpM.ofB ((Below.refl _ w).drew.drew)).trans (HFd.out.2), HLs.out⟩
      ·
        refine step_load_mid rfl 74 _ rfl b off rfl (wordsL f) _ HR8.out Try.underlying74 rfl Hin.out ?_
        rw [hWF.out]
        refine hK.out _ _ ?_ (fun hHeld => ?_)
        · exact trivial
        clear hK K
        try simp only [Act.put, List.setIfInBounds_toArray, List.set_cons_zero, List.set_cons_succ]
        refine wpAnyH_ready (rs := [4, 8]) (by kernel_rfl) (by simp) ?_
        refine AllReadyH.cons (gatL (gatS (gatS (gatS (gatS gatZ))))) (fun K hK => ?_) (AllReadyH.cons (gatL (gatS (gatS (gatS (gatS (gatS (gatS (gatS (gatS gatZ))))))))) (fun K hK => ?_) (AllReadyH.nil))
        ·
          go_simp
          refine hK.out _ _ ?_ (fun hHeld => ?_)
          · exact trivial
          clear hK K
          try simp only [Act.put, List.setIfInBounds_toArray, List.set_cons_zero, List.set_cons_succ]
          refine wpAnyH_ready (rs := [8]) (by kernel_rfl) (by simp) ?_
          refine AllReadyH.cons (gatL (gatS (gatS (gatS (gatS (gatS (gatS (gatS (gatS gatZ))))))))) (fun K hK => ?_) AllReadyH.nil
          refine step_buildS rfl 69 74 1 _ (.agg WF) rfl rfl WF i0 _ Try.underlying69 Hi0.out Hz0.out Hsm.out Hps.out HFill.out ?_
          refine hK.out _ _ ?_ (fun hHeld => ?_)
          · exact trivial
          clear hK K
          try simp only [Act.put, List.setIfInBounds_toArray, List.set_cons_zero, List.set_cons_succ]
          refine wpAnyH_ready (rs := [9]) (by kernel_rfl) (by simp) ?_
          refine AllReadyH.cons (gatL (gatS (gatS (gatS (gatS (gatS (gatS (gatS (gatS (gatS gatZ)))))))))) (fun K hK => ?_) AllReadyH.nil
          refine step_append_run rfl _ _ 69 69 rfl _ _ _ _ rfl rfl Hrun2.out ?_
          refine hK.out _ _ ?_ (fun hHeld => ?_)
          · exact trivial
          clear hK K
          try simp only [Act.put, List.setIfInBounds_toArray, List.set_cons_zero, List.set_cons_succ]
          refine wpAnyH_take (i := 10) (v := ?_) (gatL (gatS (gatS (gatS (gatS (gatS (gatS (gatS (gatS (gatS (gatS gatZ))))))))))) (by kernel_rfl) (by kernel_rfl) (by kernel_rfl) (fun _ _ _ h => h) (Or.inl ⟨by rfl, ?_⟩) (by assumption) ?_
          rotate_left
          · intro w hSw
            try dsimp only at hSw
            go_simp
            all_goals with_reducible rfl
          try simp only [Act.put, List.setIfInBounds_toArray, List.set_cons_zero, List.set_cons_succ]
          refine wpAnyH_take (i := 11) (v := ?_) (gatL (gatS (gatS (gatS (gatS (gatS (gatS (gatS (gatS (gatS (gatS (gatS gatZ)))))))))))) (by kernel_rfl) (by kernel_rfl) (by kernel_rfl) (fun _ _ _ h => h) (Or.inl ⟨by rfl, ?_⟩) (by assumption) ?_
          rotate_left
          · intro w hSw
            try dsimp only at hSw
            go_simp
            all_goals with_reducible rfl
          try simp only [Act.put, List.setIfInBounds_toArray, List.set_cons_zero, List.set_cons_succ]
          refine wpAnyH_ready (rs := [12]) (by kernel_rfl) (by simp) ?_
          refine AllReadyH.cons (gatL (gatS (gatS (gatS (gatS (gatS (gatS (gatS (gatS (gatS (gatS (gatS (gatS gatZ))))))))))))) (fun K hK => ?_) AllReadyH.nil
          go_simp
          refine hK.out _ _ ?_ (fun hHeld => ?_)
          · exact trivial
          clear hK K
          try simp only [Act.put, List.setIfInBounds_toArray, List.set_cons_zero, List.set_cons_succ]
          refine wpAnyH_done (by kernel_rfl) ?_ _
          go_wp2_with (fail)
          exact bodyPost_ret (v := .int .i64 (all.length : Int)) (by simp [results, Try.results31, go_sem]; try first | rfl | assumption | omega) rfl ⟨by rw [hfi.out], some ⟨g, 0, none⟩, cap', by rw [hfa.out]; exact HFd.out.1, (KpM.ofB ((Below.refl _ w).drew.drew)).trans (HFd.out.2), HLs.out⟩
        ·
          refine step_buildS rfl 69 74 1 _ (.agg WF) rfl rfl WF i0 _ Try.underlying69 Hi0.out Hz0.out Hsm.out Hps.out HFill.out ?_
          refine hK.out _ _ ?_ (fun hHeld => ?_)
          · exact trivial
          clear hK K
          try simp only [Act.put, List.setIfInBounds_toArray, List.set_cons_zero, List.set_cons_succ]
          refine wpAnyH_ready (rs := [4]) (by kernel_rfl) (by simp) ?_
          refine AllReadyH.cons (gatL (gatS (gatS (gatS (gatS gatZ))))) (fun K hK => ?_) AllReadyH.nil
          go_simp
          refine hK.out _ _ ?_ (fun hHeld => ?_)
          · exact trivial
          clear hK K
          try simp only [Act.put, List.setIfInBounds_toArray, List.set_cons_zero, List.set_cons_succ]
          refine wpAnyH_ready (rs := [9]) (by kernel_rfl) (by simp) ?_
          refine AllReadyH.cons (gatL (gatS (gatS (gatS (gatS (gatS (gatS (gatS (gatS (gatS gatZ)))))))))) (fun K hK => ?_) AllReadyH.nil
          refine step_append_run rfl _ _ 69 69 rfl _ _ _ _ rfl rfl Hrun2.out ?_
          refine hK.out _ _ ?_ (fun hHeld => ?_)
          · exact trivial
          clear hK K
          try simp only [Act.put, List.setIfInBounds_toArray, List.set_cons_zero, List.set_cons_succ]
          refine wpAnyH_take (i := 10) (v := ?_) (gatL (gatS (gatS (gatS (gatS (gatS (gatS (gatS (gatS (gatS (gatS gatZ))))))))))) (by kernel_rfl) (by kernel_rfl) (by kernel_rfl) (fun _ _ _ h => h) (Or.inl ⟨by rfl, ?_⟩) (by assumption) ?_
          rotate_left
          · intro w hSw
            try dsimp only at hSw
            go_simp
            all_goals with_reducible rfl
          try simp only [Act.put, List.setIfInBounds_toArray, List.set_cons_zero, List.set_cons_succ]
          refine wpAnyH_take (i := 11) (v := ?_) (gatL (gatS (gatS (gatS (gatS (gatS (gatS (gatS (gatS (gatS (gatS (gatS gatZ)))))))))))) (by kernel_rfl) (by kernel_rfl) (by kernel_rfl) (fun _ _ _ h => h) (Or.inl ⟨by rfl, ?_⟩) (by assumption) ?_
          rotate_left
          · intro w hSw
            try dsimp only at hSw
            go_simp
            all_goals with_reducible rfl
          try simp only [Act.put, List.setIfInBounds_toArray, List.set_cons_zero, List.set_cons_succ]
          refine wpAnyH_ready (rs := [12]) (by kernel_rfl) (by simp) ?_
          refine AllReadyH.cons (gatL (gatS (gatS (gatS (gatS (gatS (gatS (gatS (gatS (gatS (gatS (gatS (gatS gatZ))))))))))))) (fun K hK => ?_) AllReadyH.nil
          go_simp
          refine hK.out _ _ ?_ (fun hHeld => ?_)
          · exact trivial
          clear hK K
          try simp only [Act.put, List.setIfInBounds_toArray, List.set_cons_zero, List.set_cons_succ]
          refine wpAnyH_done (by kernel_rfl) ?_ _
          go_wp2_with (fail)
          exact bodyPost_ret (v := .int .i64 (all.length : Int)) (by simp [results, Try.results31, go_sem]; try first | rfl | assumption | omega) rfl ⟨by rw [hfi.out], some ⟨g, 0, none⟩, cap', by rw [hfa.out]; exact HFd.out.1, (KpM.ofB ((Below.refl _ w).drew.drew)).trans (HFd.out.2), HLs.out⟩
end Go.Proofs.Ytngbfjimmdkfeaa

