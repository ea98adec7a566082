/- Texts joined: Ds. -/
import Derived.Test.YtngbfjimmdkfeaaPBD8
import Derived.Test.YtngbfjimmdkfeaaPBN1
set_option linter.unusedVariables false
set_option linter.unusedSimpArgs false
namespace Go.Proofs.Ytngbfjimmdkfeaa
open Go.RowKit Go.Shelf Go.Maps

attribute [local go_sem] Oper.semAt_some

/-- What Build has come to behind so many sets: the sets found, the moves, what they come to. -/
inductive DB (y : Nf) (lds : List MvD) (n : Nat) (ends : List Int) : Nat → List WSet → List (List Mv) → List Int → Prop
  | start {f : WSet} (h : Msk f (Rn y (fun a => (a : Int) = y.s))) : DB y lds n ends 0 (fall [] f) [] []
  | step {i : Nat} {all all' : List WSet} {ms : List (List Mv)} {ac : List Int} {cu : Nat → Bool} {bh : Nat → WSet} {ml : List Mv} {t : Int} (h : DB y lds n ends i all ms ac) (hi : i < all.length) (hl : all.length ≤ 2000) (hc : CutI cu (allM lds all[i] n)) (hb : BhA y cu bh (allM lds all[i] n)) (hm : movP cu bh all 256 = (all', ml, t)) :
      DB y lds n ends (i + 1) all' (ms ++ [ml]) (ac ++ [accW all[i] ends 0])

theorem words_at : ∀ (l : List WSet) {i : Nat} (h : i < l.length) {j : Nat}, j < 32 → (l.flatMap wordsL)[i * 32 + j]? = some (wv (l[i] j))
  | [], i, h, _, _ => by simp at h
  | f :: l, 0, h, j, hj => by
    rw [List.flatMap_cons, List.getElem?_append_left (by rw [wordsL_len]; omega), Nat.zero_mul, Nat.zero_add]
    exact wordsL_at f hj
  | f :: l, i + 1, h, j, hj => by
    rw [List.flatMap_cons, List.getElem?_append_right (by rw [wordsL_len]; omega), wordsL_len, show (i + 1) * 32 + j - 32 = i * 32 + j by omega]
    exact words_at l (by simpa using h) hj
theorem row_wd {w : World} {base g n cap i : Nat} {l : List WSet} (h : w.ownsRow base 74 32 (.slice (some ⟨g, 0, none⟩) n cap) n (l.flatMap wordsL)) (hi : i < l.length) : Wd32 w g (i * 32) l[i] := fun j hj => by
  have hl := h.1
  have hlen : ∀ l : List WSet, (l.flatMap wordsL).length = l.length * 32 := fun l => by
    induction l with
    | nil => rfl
    | cons f l ih => rw [List.flatMap_cons, List.length_append, ih, wordsL_len, List.length_cons]; omega
  rw [hlen] at hl
  exact (World.ownsRow.cellAt h (i * 32 + j) (by omega)).trans (words_at l hi hj)
theorem there_new (w : World) (cs : Array Value) (t : TypeId) {n : Nat} (hn : n ≤ cs.size) : (w.alloc (.cells cs t)).there w.heap.size 0 n := fun j hj => by
  have hb := Blk.new w t cs
  refine ⟨?_, hb.frozen _⟩
  rw [Nat.zero_add, hb.cell j]
  simp
  omega
theorem grownBy_sets : ∀ (vs : List Value) (w : World) (b o : Nat), w.grownBy (w.setCells b o vs) (some b)
  | [], w, b, o => grownBy_refl w _
  | v :: r, w, b, o => grownBy_trans (grownBy_set w b o v) (grownBy_sets r _ b (o + 1)) (fun i e => .inl e)
theorem wd_sets {w : World} {b : Nat} {n : Nat} {f : WSet} {vs : List Value} (h : w.there b 0 n) (hv : vs = wordsL f) (hn : n = 32) : Wd32 (w.setCells b 0 vs) b 0 f := fun i hi => by
  subst hv
  have := World.rangeAt_setCells_same w b 0 (wordsL f) (by rw [wordsL_len, ← hn]; exact h)
  exact this i _ (wordsL_at f hi)
theorem lds_good {x : Nf} {n : Nat} {lds : List MvD} (hl : linkB x = true) (hn : x.n = (n : Int)) (hL : lds.length = n) (hd : ∀ s, s < n → (lds.getD s ⟨[], none, 0⟩).l = ldP x.es s) : ∀ d ∈ lds, ∀ m ∈ d.l, m.lo < 256 ∧ m.hi < 256 ∧ ∃ t : Nat, m.to = (t : Int) ∧ t < n := fun d hdm m hm => by
  obtain ⟨s, hs, rfl⟩ := List.getElem_of_mem hdm
  have h1 := hd s (by omega)
  rw [List.getD_eq_getElem?_getD, List.getElem?_eq_getElem hs, Option.getD_some] at h1
  rw [h1] at hm
  obtain ⟨e, he, hm⟩ := List.mem_flatMap.1 hm
  obtain ⟨k, hk, rfl⟩ := List.getElem_of_mem he
  split at hm
  · obtain ⟨p, _, rfl⟩ := List.mem_map.1 hm
    obtain ⟨t, ht, ht2⟩ := (link_edge hl hk).2
    exact ⟨UInt8.toNat_lt _, UInt8.toNat_lt _, t, ht, by rw [hn] at ht2; simpa using ht2⟩
  · cases hm
theorem KpM.bk {S : Nat → Prop} {a b : World} (h : KpM S a b) {k t : Nat} {l : List Value} (hb : Blk a k t l) (hS : ¬ S k) : Blk b k t l := by
  have hl := hb.lt
  refine h.ind (P := fun w => Blk w k t l) (fun w w' row h hg hr => h.kept hg (fun e => ?_)) hb
  rcases hr k e.symm with h1 | h1
  · exact hS h1
  · omega
theorem info_intD : (Try.prog.info? 3).map (fun i => (i.zero, i.size, i.bytes)) = some (some (.int .i64 0), 1, 8) := by kernel_rfl
theorem link_ends3 {x : Nf} (h : linkB x = true) : ∀ e ∈ x.ends, 0 ≤ e ∧ e < 2048 := fun e he => by
  unfold linkB at h
  simp only [Bool.and_eq_true, List.all_eq_true, decide_eq_true_iff, stB] at h
  have h1 := h.1.2 e he
  have h2 := h.1.1.1
  omega
/-- What Build answers, where the automaton may be. -/
def BuiltD (w w' : World) (x : Nf) (n : Nat) (e : Ending) : Prop := ∃ L : MkL, L.n = n ∧ L.s = x.s ∧ L.es = x.es.filter (fun e => e.q.isEmpty) ∧ L.lds.length = n ∧ (∀ s, s < n → (L.lds.getD s ⟨[], none, 0⟩).l = ldP x.es s) ∧ ∃ (i : Nat) (all : List WSet) (ms : List (List Mv)) (ac : List Int), DB L.y L.lds n x.ends i all ms ac ∧ Below w.heap.size w w' ∧
  ((2000 < all.length ∧ e = .returned (.tuple #[.agg #[.slice none 0 0, .slice none 0 0], .int .i64 40])) ∨ (i = all.length ∧ all.length ≤ 2000 ∧ ms.length = i ∧ ac.length = i ∧ ∃ p2 : DfL, DfAt w' ⟨ms, ac⟩ p2 ∧ e = .returned (.tuple #[.agg #[.slice p2.ma ms.length p2.mc, .slice p2.aa ac.length p2.ac], .int .i64 0])))
def PostD (w w' : World) (x : Nf) (n : Nat) (e : Ending) : Prop := (nfB x = false → e = .returned (.tuple #[.agg #[.slice none 0 0, .slice none 0 0], .int .i64 30]) ∧ Below w.heap.size w w') ∧ (nfB x = true → BuiltD w w' x n e)
theorem push_small {l : List Mv} {c : Nat} {t : Int} (h : ∀ m ∈ l, m.lo < c ∧ m.hi < c) : ∀ m ∈ pushM l c t, m.lo < c + 1 ∧ m.hi < c + 1 := fun m hm => by
  have hl : ∀ m ∈ l, m.lo < c + 1 ∧ m.hi < c + 1 := fun m hm => by have := h m hm; omega
  by_cases ht : t = -1
  · rw [ht, push_none] at hm
    exact hl m hm
  · rcases List.eq_nil_or_concat l with rfl | ⟨l0, y, rfl⟩
    · rw [push_nil c ht, List.mem_singleton] at hm
      subst hm
      exact ⟨Nat.lt_succ_self _, Nat.lt_succ_self _⟩
    · rw [List.concat_eq_append] at hm h hl
      have hy := hl y (by simp)
      by_cases h2 : y.to = t ∧ y.hi + 1 = c
      · rw [push_more l0 y ht h2] at hm
        rcases List.mem_append.1 hm with h3 | h3
        · exact hl m (List.mem_append_left _ h3)
        · rw [List.mem_singleton] at h3
          subst h3
          exact ⟨hy.1, Nat.lt_succ_self _⟩
      · rw [push_new l0 y ht h2] at hm
        rcases List.mem_append.1 hm with h3 | h3
        · exact hl m h3
        · rw [List.mem_singleton] at h3
          subst h3
          exact ⟨Nat.lt_succ_self _, Nat.lt_succ_self _⟩
theorem movP_small (cu : Nat → Bool) (bh : Nat → WSet) (all : List WSet) : ∀ k, ∀ m ∈ (movP cu bh all k).2.1, m.lo < k ∧ m.hi < k
  | 0 => fun m h => by cases h
  | k + 1 => fun m h => push_small (movP_small cu bh all k) m h
theorem db_small {y : Nf} {lds : List MvD} {n i : Nat} {ends : List Int} {all : List WSet} {ms : List (List Mv)} {ac : List Int} (h : DB y lds n ends i all ms ac) : ∀ l ∈ ms, ∀ m ∈ l, m.lo < 256 ∧ m.hi < 256 := by
  induction h with
  | start => intro l h; cases h
  | step h hi hl hc hb hm ih =>
    intro l hl m hml
    rcases List.mem_append.1 hl with h1 | h1
    · exact ih l h1 m hml
    · rw [List.mem_singleton] at h1
      subst h1
      have := movP_small _ _ _ 256 m (by rw [hm]; exact hml)
      exact this
theorem ints_own {w : World} {base cap : Nat} {a : Option Addr} {l : List Int} (h : w.ownsRow base 3 1 (.slice a l.length cap) l.length (l.map (fun a => Value.int .i64 a))) : Ints w a cap l := by
  have hc := ownW_le h
  refine ⟨hc.1, hc.2, fun e => ?_, fun i hi => ?_, fun b off e i hi => ?_⟩
  · rcases h.2 with ⟨e1, e0⟩ | ⟨g, cp, cur, e1, _⟩
    · injection e1
    · subst e; cases e1
  · obtain ⟨g, e1, _⟩ := own_some h (by omega)
    exact ⟨g, 0, e1⟩
  · obtain ⟨g, e1, _⟩ := own_some h (by omega)
    rw [e1] at e
    cases e
    subst e1
    rw [Nat.zero_add]
    exact (World.ownsRow.cellAt h i (by omega)).trans (by simp [hi])
theorem mvs_own {w : World} {base : Nat} {d : MvD} (h : OwnMv w base d) (hs : ∀ m ∈ d.l, m.lo < 256 ∧ m.hi < 256) : Mvs w d.a d.c d.l := by
  have hc := ownW_le h
  refine ⟨hc.1, hc.2, fun e => ?_, fun i hi => ?_, fun b off e i hi => ?_⟩
  · rcases h.2 with ⟨e1, e0⟩ | ⟨g, cp, cur, e1, _⟩
    · injection e1
    · rw [e] at e1; cases e1
  · obtain ⟨g, e1, _⟩ := own_some h (by omega)
    exact ⟨g, 0, e1⟩
  · obtain ⟨g, e1, _⟩ := own_some h (by omega)
    rw [e1] at e
    cases e
    have h' := h
    unfold OwnMv at h'
    rw [e1] at h'
    rw [Nat.zero_add]
    exact ⟨row_move h' hi, hs _ (List.getElem_mem hi)⟩
theorem mrs_own {w : World} {base cap : Nat} {a : Option Addr} {rs : List MvD} (h : w.ownsRow base 58 1 (.slice a rs.length cap) rs.length (rs.map MvD.v)) (ho : ∀ r ∈ rs, OwnMv w base r) (hs : ∀ r ∈ rs, ∀ m ∈ r.l, m.lo < 256 ∧ m.hi < 256) : Mrs w a cap rs := by
  have hc := ownW_le h
  refine ⟨hc.1, hc.2, fun e => ?_, fun i hi => ?_, fun b off e i hi => ?_, fun r hr => mvs_own (ho r hr) (hs r hr)⟩
  · rcases h.2 with ⟨e1, e0⟩ | ⟨g, cp, cur, e1, _⟩
    · injection e1
    · subst e; cases e1
  · obtain ⟨g, e1, _⟩ := own_some h (by omega)
    exact ⟨g, 0, e1⟩
  · obtain ⟨g, e1, _⟩ := own_some h (by omega)
    rw [e1] at e
    cases e
    subst e1
    rw [Nat.zero_add]
    exact (World.ownsRow.cellAt h i (by omega)).trans (by simp [hi])
theorem movP_len (cu : Nat → Bool) (bh : Nat → WSet) (all : List WSet) : ∀ k, all.length ≤ (movP cu bh all k).1.length
  | 0 => Nat.le_refl _
  | k + 1 => by
    have h := movP_len cu bh all k
    rw [movP]
    dsimp only
    split
    · exact Nat.le_trans h (fall_len _ _).1
    · exact h
theorem link_none {x : Nf} {L : MkL} {n : Nat} (h : linkB x = true) (hn : x.n = (n : Int)) (h1 : L.n = n) (h2 : L.s = x.s) (h3 : L.es = x.es.filter (fun e => e.q.isEmpty)) : linkB L.y = true := by
  have e : L.y = ⟨x.n, x.s, [], x.es.filter (fun e => e.q.isEmpty)⟩ := by
    show (⟨(L.n : Int), L.s, [], L.es⟩ : Nf) = _
    rw [h1, ← hn, h2, h3]
  rw [e]
  unfold linkB at h ⊢
  simp only [Bool.and_eq_true, List.all_eq_true] at h ⊢
  obtain ⟨⟨⟨ha, hb⟩, hc⟩, hd⟩ := h
  exact ⟨⟨⟨ha, hb⟩, fun e he => by simp at he⟩, fun e he => hd e (List.mem_filter.1 he).1⟩

set_option maxRecDepth 100000 in
set_option maxHeartbeats 8000000 in
theorem dBuild_any (w : World) (x : Nf) (p : NfL) (n : Nat) (hn : x.n = (n : Int)) (hx : NfAt w x p) (hM : x.es.length ≤ 500000) (htot : ∀ s, (ldP x.es s).length ≤ 1000000) (hall : ∀ (lds : List MvD) (f : WSet) (i : Nat), lds.length = n → (∀ s, s < n → (lds.getD s ⟨[], none, 0⟩).l = ldP x.es s) → (allM lds f i).length ≤ 1000000) :
    Calls Try.prog 15 #[.agg #[.int .i64 x.n, .int .i64 x.s, .slice p.ea x.ends.length p.ec, .slice p.ga x.es.length p.gc]] w fun e w' => PostD w w' x n e := by
  have hb1 : Below w.heap.size w ((w.alloc (.cells #[.int .i64 x.n, .int .i64 x.s, .slice p.ea x.ends.length p.ec, .slice p.ga x.es.length p.gc] 32)).alloc (.cells #[.slice none 0 0, .slice none 0 0] 25)) := ((Below.refl _ w).alloc (Nat.le_refl _) _).alloc (by simp) _
  have hbx := (Blk.new w 32 #[.int .i64 x.n, .int .i64 x.s, .slice p.ea x.ends.length p.ec, .slice p.ga x.es.length p.gc]).alloc (.cells #[.slice none 0 0, .slice none 0 0] 25)
  have hbr := Blk.new (w.alloc (.cells #[.int .i64 x.n, .int .i64 x.s, .slice p.ea x.ends.length p.ec, .slice p.ga x.es.length p.gc] 32)) 25 #[.slice none 0 0, .slice none 0 0]
  rw [World.size_alloc] at hbr
  have HX := Lib.hid (hx.grown hb1)
  obtain ⟨V, hV⟩ : ∃ V, Hid ((w.alloc (.cells #[.int .i64 x.n, .int .i64 x.s, .slice p.ea x.ends.length p.ec, .slice p.ga x.es.length p.gc] 32)).alloc (.cells #[.slice none 0 0, .slice none 0 0] 25) = V) := ⟨_, Lib.hid rfl⟩
  obtain ⟨X, hX⟩ : ∃ X, Hid (w.heap.size = X) := ⟨_, Lib.hid rfl⟩
  rw [hV.out] at hbx hbr hb1 HX
  rw [hX.out] at hbx hbr
  have y0 := hbx.cell 0
  have y1 := hbx.cell 1
  have y2 := hbx.cell 2
  have y3 := hbx.cell 3
  have yl := hbx.lt
  have Hck := Lib.hid (ncheck_any x p V HX.out)
  have Hn := Lib.hid hn
  clear hx hn
  go_enter Try.func15, Try.ntmps15
  go_upto_region 1 with fail
  rw [hV.out, hX.out]
  go_wp2_with (fail)
  refine Hck.out.mono ?_
  rintro e w1 ⟨rfl, hb2⟩
  have Hb2 := Lib.hid hb2
  obtain ⟨q, hq⟩ : ∃ q, Hid (nfB x = q) := ⟨_, Lib.hid rfl⟩
  rw [hq.out]
  clear hb2
  cases q
  case false =>
    rw [if_neg (by simp)]
    have r0 := (hbr.below Hb2.out hbr.lt).cell 0
    have r1 := (hbr.below Hb2.out hbr.lt).cell 1
    have rf := (hbr.below Hb2.out hbr.lt).frozen
    have rs0 := ((hbr.below Hb2.out hbr.lt).set 0 (.slice none 0 0)).set 1 (.slice none 0 0)
    have rg := grownBy_trans (grownBy_set w1 (X + 1) 0 (.slice none 0 0)) (grownBy_set _ (X + 1) 1 (.slice none 0 0)) (fun i e => .inl e)
    have HBl : Hid (Below w.heap.size w ((w1.setCell ⟨X + 1, 0, none⟩ (.slice none 0 0)).setCell ⟨X + 1, 1, none⟩ (.slice none 0 0))) := Lib.hid ((hb1.trans (Hb2.out.mono hb1.size)).grown rg (Nat.le_trans hb1.size Hb2.out.size) (fun g e => by injection e with e; rw [hX.out]; omega))
    have q0 := rs0.cell 0
    have q1 := rs0.cell 1
    clear rg rs0
    go_wp2_with (fail)
    exact bodyPost_ret (v := .tuple #[.agg #[.slice none 0 0, .slice none 0 0], .int .i64 30]) (by simp [results, Try.results15, go_sem, q0, q1]; try first | rfl | assumption | omega) rfl ⟨fun _ => ⟨rfl, HBl.out⟩, fun h => (by rw [hq.out] at h; cases h)⟩
  case true =>
    rw [if_pos rfl]
    have hl : Hid (linkB x = true) := Lib.hid (by
      have := hq.out
      unfold nfB at this
      exact (Bool.and_eq_true_iff.1 this).1)
    have HX1 := Lib.hid (HX.out.grown Hb2.out)
    have Hnm := Lib.hid (newMaker_any w1 x p n Hn.out HX1.out hl.out hM htot)
    have HBx := Lib.hid (hbx.below Hb2.out hbx.lt)
    have HBr := Lib.hid (hbr.below Hb2.out hbr.lt)
    have w0 := HBx.out.cell 0
    have w1_ := HBx.out.cell 1
    have w2_ := HBx.out.cell 2
    have w3_ := HBx.out.cell 3
    have wl := HBx.out.lt
    have HXl : Hid (X + 1 < w1.heap.size) := Lib.hid HBr.out.lt
    clear y0 y1 y2 y3 yl Hck
    go_wp2_with (fail)
    refine Hnm.out.mono ?_
    rintro e w2 ⟨L, rfl, hLn, hLs, hLe, hLl, hLd, hM2⟩
    clear w0 w1_ w2_ w3_ wl
    have HBx2 := Lib.hid (HBx.out.below hM2.bel HBx.out.lt)
    have hst : ∃ v : Nat, x.s = (v : Int) ∧ v < n := by
      have := hl.out
      unfold linkB at this
      simp only [Bool.and_eq_true, stB, decide_eq_true_iff] at this
      have h1 := Hn.out
      exact ⟨x.s.toNat, by omega, by omega⟩
    obtain ⟨v, hv, hvn⟩ := hst
    have hly : Hid (linkB L.y = true) := Lib.hid (link_none hl.out Hn.out hLn hLs hLe)
    have hMe : Hid (L.es.length ≤ 500000) := Lib.hid (by rw [hLe]; exact Nat.le_trans (List.length_filter_le _ _) hM)
    have hcn0 : Hid (ClN L.y L.n (fun _ => zeroW)) := Lib.hid (fun u _ => .inr (fun c _ => by simp [hasW, zeroW]))
    have Hcl := Lib.hid (closure_any w1 w2 L (fun _ => zeroW) (fun _ => false) (fun _ => zeroW) [] none 0 v hM2 hly.out hMe.out (by rw [hLn]; exact hvn) hcn0.out)
    have z0 := HBx2.out.cell 0
    have z1 := HBx2.out.cell 1
    have z2 := HBx2.out.cell 2
    have z3 := HBx2.out.cell 3
    have zl := HBx2.out.lt
    go_wp2_with (fail)
    refine Hcl.out.mono ?_
    rintro e w3 ⟨rfl, f, hf, hM3, hK3⟩
    have hwf := hM3.cb.wd (f := f) (off := v * 32) (by have := isW_cl (fun u => if u = v then f else zeroW) v; rw [if_pos rfl] at this; exact this) (by rw [hLn]; omega)
    have Hfi := Lib.hid (find_any w1 w3 L _ _ _ [] none 0 L.cb (v * 32) f hM3 hwf (by simp))
    have HMs : Hid (Msk f (Rn L.y (fun a => (a : Int) = L.y.s))) := Lib.hid (fun c hc => by
      rw [hf c hc]
      have e1 : L.y.s = (v : Int) := hLs.trans hv
      exact ⟨rn_mono (fun a ha => by rw [e1, ha]), rn_mono (fun a ha => by rw [e1] at ha; omega)⟩)
    have HI3 : Hid (ClN L.y L.n (fun u => if u = v then f else zeroW)) := Lib.hid (clN_put hcn0.out hf)
    clear hf hM3 hK3 hwf z0 z1 z2 z3 zl
    go_wp2_with (fail)
    refine Hfi.out.mono ?_
    rintro e w4 ⟨rfl, sa, sc, hM4, hK4, hR4⟩
    have HBx4 := Lib.hid (HBx.out.below hM4.bel HBx.out.lt)
    have HBr4 := Lib.hid (HBr.out.below hM4.bel HBr.out.lt)
    have hbD : Below w4.heap.size w4 (w4.alloc (.cells #[.slice none 0 0, .slice none 0 0] 25)) := (Below.refl _ w4).alloc (Nat.le_refl _) _
    have hD := Blk.new w4 25 #[.slice none 0 0, .slice none 0 0]
    have HM5 := Lib.hid (hM4.below hbD)
    obtain ⟨D, hDe⟩ : ∃ D, Hid (w4.heap.size = D) := ⟨_, Lib.hid rfl⟩
    obtain ⟨W5, hW5⟩ : ∃ W, Hid (w4.alloc (.cells #[.slice none 0 0, .slice none 0 0] 25) = W) := ⟨_, Lib.hid rfl⟩
    have HD1 : Hid (L.M1 ≤ D ∧ X + 1 < D) := Lib.hid ⟨by rw [← hDe.out]; exact hM4.m1, by rw [← hDe.out]; exact HBr4.out.lt⟩
    have HZ : Hid (D < W5.heap.size) := Lib.hid (by rw [← hW5.out, ← hDe.out]; simp)
    rw [hW5.out] at HM5 hD
    rw [hDe.out] at hD
    have HDb := Lib.hid hD
    have hfl := fall_len [] f
    simp only [List.length_nil] at hfl
    have Hgood : Hid (∀ d ∈ L.lds, ∀ m ∈ d.l, m.lo < 256 ∧ m.hi < 256 ∧ ∃ t : Nat, m.to = (t : Int) ∧ t < L.n) := Lib.hid (by rw [hLn]; exact lds_good hl.out Hn.out hLl hLd)
    have Hall : Hid (∀ f i, (allM L.lds f i).length ≤ 1000000) := Lib.hid (fun f i => hall L.lds f i hLl hLd)
    clear hM4 hK4 hR4 hbD hD Hfi Hcl Hnm
    go_wp2_with (fail)
    rw [hW5.out, hDe.out]
    go_loopw [7] (fun iv wr => ∃ (i : Nat) (all : List WSet) (ms : List (List Mv)) (ac : List Int) (cl : Nat → WSet) (cu : Nat → Bool) (bh : Nat → WSet) (sa : Option Addr) (sc : Nat) (rs : List MvD) (ma : Option Addr) (mc : Nat) (aa : Option Addr) (ac2 : Nat), i ≤ all.length ∧ all.length ≤ 2000 ∧ iv = .int .i64 (i : Int) ∧ Hid (DB L.y L.lds n x.ends i all ms ac) ∧ Hid (MkrAt w1 wr L cl cu bh all sa sc) ∧ Hid (ClN L.y L.n cl) ∧ Hid (rs.length = i ∧ ac.length = i ∧ rs.map MvD.l = ms) ∧ Hid (Blk wr D 25 [.slice ma i mc, .slice aa i ac2]) ∧ Hid (wr.ownsRow D 58 1 (.slice ma i mc) i (rs.map MvD.v)) ∧ Hid (∀ r ∈ rs, OwnMv wr D r) ∧ Hid (wr.ownsRow D 3 1 (.slice aa i ac2) i (ac.map (fun a => Value.int .i64 a))) ∧ Hid (D < wr.heap.size)) (fun iv _ => 2000 - (intOf iv).toNat)
    case atStart =>
      exact ⟨0, fall [] f, [], [], _, _, _, sa, sc, [], none, 0, none, 0, Nat.zero_le _, by omega, rfl, Lib.hid (.start HMs.out), HM5, HI3, Lib.hid ⟨rfl, rfl, rfl⟩, HDb, Lib.hid ⟨rfl, .inl ⟨rfl, rfl⟩⟩, Lib.hid (fun r h => by cases h), Lib.hid ⟨rfl, .inl ⟨rfl, rfl⟩⟩, HZ⟩
    case round =>
      obtain ⟨i, all, ms, ac, cl, cu, bh, sa, sc, rs, ma, mc, aa, ac2, hi, hal, rfl, HDB, HM, HI, HN, HBD, HO, HOr, HA, HZ⟩ := hrel
      have hiI0 : (0 : Int) ≤ (i : Int) := by omega
      have z6 := HM.out.mkr.cell (j := 6) (by omega)
      simp only [mkG, Nat.reduceLT, if_true, List.getD_cons_zero, List.getD_cons_succ] at z6
      have zl := HM.out.mkr.lt
      have zsc := ownW_le HM.out.sets
      by_cases hlt : i < all.length
      · have hltI : (i : Int) < (all.length : Int) := by omega
        obtain ⟨g, rfl, hgB⟩ := own_some HM.out.sets (by omega)
        have hwd := row_wd HM.out.sets hlt
        obtain ⟨f1, hf1⟩ : ∃ q, Hid (all[i] = q) := ⟨_, Lib.hid rfl⟩
        rw [hf1.out] at hwd
        have HR := Lib.hid (range_wd hwd)
        have hgl := World.block_lt_of_cell? _ _ (hwd 0 (by omega))
        obtain ⟨WF, hWF⟩ : ∃ q, Hid ((wordsL f1).toArray = q) := ⟨_, Lib.hid rfl⟩
        have Hin : Hid ((Try.prog.info? 74).map (·.size) = some (wordsL f1).length) := Lib.hid (by rw [wordsL_len]; kernel_rfl)
        have Hin2 : Hid ((Try.prog.info? 74).map (·.size) = some WF.size) := Lib.hid (by rw [← hWF.out, List.size_toArray, wordsL_len]; kernel_rfl)
        have Hone : Hid (WF.all (·.oneCell') = true) := Lib.hid (by rw [← hWF.out]; exact all_oneCell_toArray (words_one f1))
        have Hth : Hid ((wr.alloc (.cells #[.int .u64 0, .int .u64 0, .int .u64 0, .int .u64 0, .int .u64 0, .int .u64 0, .int .u64 0, .int .u64 0, .int .u64 0, .int .u64 0, .int .u64 0, .int .u64 0, .int .u64 0, .int .u64 0, .int .u64 0, .int .u64 0, .int .u64 0, .int .u64 0, .int .u64 0, .int .u64 0, .int .u64 0, .int .u64 0, .int .u64 0, .int .u64 0, .int .u64 0, .int .u64 0, .int .u64 0, .int .u64 0, .int .u64 0, .int .u64 0, .int .u64 0, .int .u64 0] 74)).there wr.heap.size 0 WF.size) := Lib.hid (there_new wr _ _ (by rw [← hWF.out, List.size_toArray, wordsL_len]; decide))
        have hb6 : Below wr.heap.size wr ((wr.alloc (.cells #[.int .u64 0, .int .u64 0, .int .u64 0, .int .u64 0, .int .u64 0, .int .u64 0, .int .u64 0, .int .u64 0, .int .u64 0, .int .u64 0, .int .u64 0, .int .u64 0, .int .u64 0, .int .u64 0, .int .u64 0, .int .u64 0, .int .u64 0, .int .u64 0, .int .u64 0, .int .u64 0, .int .u64 0, .int .u64 0, .int .u64 0, .int .u64 0, .int .u64 0, .int .u64 0, .int .u64 0, .int .u64 0, .int .u64 0, .int .u64 0, .int .u64 0, .int .u64 0] 74)).setCells wr.heap.size 0 WF.toList) := ((Below.refl wr.heap.size wr).alloc (Nat.le_refl _) _).grown (grownBy_sets _ _ _ _) (by simp) (fun k e => by injection e with e; omega)
        have hwd6 : Wd32 ((wr.alloc (.cells #[.int .u64 0, .int .u64 0, .int .u64 0, .int .u64 0, .int .u64 0, .int .u64 0, .int .u64 0, .int .u64 0, .int .u64 0, .int .u64 0, .int .u64 0, .int .u64 0, .int .u64 0, .int .u64 0, .int .u64 0, .int .u64 0, .int .u64 0, .int .u64 0, .int .u64 0, .int .u64 0, .int .u64 0, .int .u64 0, .int .u64 0, .int .u64 0, .int .u64 0, .int .u64 0, .int .u64 0, .int .u64 0, .int .u64 0, .int .u64 0, .int .u64 0, .int .u64 0] 74)).setCells wr.heap.size 0 WF.toList) wr.heap.size 0 f1 := wd_sets Hth.out (by rw [← hWF.out]) (by rw [← hWF.out, List.size_toArray, wordsL_len])
        obtain ⟨V6, hV6⟩ : ∃ W, Hid ((wr.alloc (.cells #[.int .u64 0, .int .u64 0, .int .u64 0, .int .u64 0, .int .u64 0, .int .u64 0, .int .u64 0, .int .u64 0, .int .u64 0, .int .u64 0, .int .u64 0, .int .u64 0, .int .u64 0, .int .u64 0, .int .u64 0, .int .u64 0, .int .u64 0, .int .u64 0, .int .u64 0, .int .u64 0, .int .u64 0, .int .u64 0, .int .u64 0, .int .u64 0, .int .u64 0, .int .u64 0, .int .u64 0, .int .u64 0, .int .u64 0, .int .u64 0, .int .u64 0, .int .u64 0] 74)).setCells wr.heap.size 0 WF.toList = W) := ⟨_, Lib.hid rfl⟩
        obtain ⟨Sb, hSb⟩ : ∃ q, Hid (wr.heap.size = q) := ⟨_, Lib.hid rfl⟩
        rw [hV6.out] at hb6 hwd6
        clear hwd
        go_wp2_with (first | (refine wpList_load_mid rfl 74 _ rfl g (i * 32) rfl (wordsL f1) _ HR.out Try.underlying74 rfl Hin.out ?_; rw [hWF.out]) | (refine wpList_store_mid rfl 74 _ _ rfl wr.heap.size 0 WF rfl rfl Hth.out Hin2.out Hone.out ?_))
        rw [hV6.out, hSb.out]
        have hSbm : Sb ≠ L.mb := by have := HM.out.mkr.lt; rw [hSb.out] at this; omega
        have hb6d := hb6.trans (Below.refl wr.heap.size V6).drew
        have hM6 := (HM.out.below hb6).below (Below.refl _ V6).drew
        rw [hSb.out] at hwd6
        have hwd6d : Wd32 V6.drew Sb 0 f1 := hwd6
        have Hmv := Lib.hid (moves_any w1 V6.drew L cl cu bh all (some ⟨g, 0, none⟩) sc Sb 0 f1 hM6 hly.out hMe.out HI.out hwd6d hSbm (hLl.trans hLn.symm) Hgood.out (fun j => Hall.out f1 j) hal)
        have HM6 := Lib.hid hM6
        have HBD6 := Lib.hid (HBD.out.below hb6d HBD.out.lt)
        have HO6 := Lib.hid (own_grow HO.out hb6d)
        have HOr6 : Hid (∀ r ∈ rs, OwnMv V6.drew D r) := Lib.hid (fun r hr => own_grow (HOr.out r hr) hb6d)
        have HA6 := Lib.hid (own_grow HA.out hb6d)
        have Hwd6 := Lib.hid hwd6d
        have HSs : Hid (L.M1 ≤ Sb ∧ D < Sb ∧ (∀ k, (Value.slice (some ⟨g, 0, none⟩) all.length sc).ownBlock = some k → k < Sb) ∧ (∀ k, (Value.slice ma i mc).ownBlock = some k → k < Sb) ∧ (∀ k, (Value.slice aa i ac2).ownBlock = some k → k < Sb)) := Lib.hid (by
          have hlt : ∀ {base e size n cap : Nat} {a : Option Addr} {xs : List Value}, wr.ownsRow base e size (.slice a n cap) n xs → ∀ g, (Value.slice a n cap).ownBlock = some g → g < Sb := fun ho g e => by
            obtain ⟨_, cur, h2⟩ := own_typD ho g e
            rw [← hSb.out]
            exact (Array.getElem?_eq_some_iff.1 h2).1
          exact ⟨by rw [← hSb.out]; exact HM.out.m1, by rw [← hSb.out]; exact HZ.out, hlt HM.out.sets, hlt HO.out, hlt HA.out⟩)
        have zD0 : V6.drew.cell? ⟨D, 0, none⟩ = some (.slice ma i mc) := HBD6.out.cell 0
        have zDl := HBD6.out.lt
        have hmac := ownW_le HO.out
        clear hb6 hb6d hM6 hwd6 hwd6d z6 zl
        refine wp_region_held_drew (S := fun w' => True) (by kernel_rfl) ?_ (fun hHeld => ?_)
        · exact trivial
        refine wpAnyH_take (i := 0) (v := ?_) (gatL gatZ) (by kernel_rfl) (by kernel_rfl) (by kernel_rfl) (fun _ _ _ h => h) (Or.inl ⟨by rfl, ?_⟩) (by assumption) ?_
        rotate_left
        · intro w hSw
          try dsimp only at hSw
          go_simp
          all_goals with_reducible rfl
        try simp only [Act.put, List.setIfInBounds_toArray, List.set_cons_zero, List.set_cons_succ]
        refine wpAnyH_take (i := 2) (v := ?_) (gatL (gatS (gatS gatZ))) (by kernel_rfl) (by kernel_rfl) (by kernel_rfl) (fun _ _ _ h => h) (Or.inl ⟨by rfl, ?_⟩) (by assumption) ?_
        rotate_left
        · intro w hSw
          try dsimp only at hSw
          go_simp
          all_goals with_reducible rfl
        try simp only [Act.put, List.setIfInBounds_toArray, List.set_cons_zero, List.set_cons_succ]
        refine wpAnyH_ready (rs := [1, 3]) (by kernel_rfl) (by simp) ?_
        refine AllReadyH.cons (gatL (gatS gatZ)) (fun K hK => ?_) (AllReadyH.cons (gatL (gatS (gatS (gatS gatZ)))) (fun K hK => ?_) (AllReadyH.nil))
        ·
          go_simp
          refine hK.out _ _ ?_ (fun hHeld => ?_)
          · exact trivial
          clear hK K
          try simp only [Act.put, List.setIfInBounds_toArray, List.set_cons_zero, List.set_cons_succ]
          refine wpAnyH_ready (rs := [3]) (by kernel_rfl) (by simp) ?_
          refine AllReadyH.cons (gatL (gatS (gatS (gatS gatZ)))) (fun K hK => ?_) AllReadyH.nil
          go_simp
          go_at_call 33
          (with_reducible refine Hmv.out.mono ?_)
          rintro e V7 ⟨cl7, cu7, bh7, all7, ml, tq, sa7, sc7, a7, c7, rfl, hm7, hO7, hM7, hI7, hC7, hB7, hK7, hR7, hR8⟩
          have hsz7 := hK7.size
          have hrS : ∀ {base e size n cap : Nat} {a : Option Addr} {xs : List Value}, D ≤ base → V6.drew.ownsRow base e size (.slice a n cap) n xs → e ≠ 74 → V7.ownsRow base e size (.slice a n cap) n xs := fun hb ho hne => hK7.own ho (fun k e e0 => by
            rcases e0 with e0 | e0
            · have := (own_typD ho k e).1; have := HD1.out.1; omega
            · exact own_ownT ho HM6.out.sets hne k e e0)
          have hD7 := hK7.bk HBD6.out (fun e => by
            rcases e with e | e
            · have := HD1.out.1; omega
            · exact own_Blk HM6.out.sets HBD6.out (by decide) e.symm)
          have hO7b := hrS (Nat.le_refl _) HO6.out (by decide)
          have hA7 := hrS (Nat.le_refl _) HA6.out (by decide)
          have hOr7 : ∀ r ∈ rs, OwnMv V7 D r := fun r hr => hrS (Nat.le_refl _) (HOr6.out r hr) (by decide)
          have hwd7 := hK7.wd Hwd6.out (fun e => by
            rcases e with e | e
            · have := HSs.out.1; omega
            · have := HSs.out.2.2.1 Sb e; omega)
          have hDV : D ≤ V6.drew.heap.size := by have := HBD6.out.lt; omega
          obtain ⟨g8, c8, W8, hrun, ho8, hg8, hlies, hlt2⟩ := run_pushL V7 22 22 58 _ 1 24 Try.underlying22 info_moves rfl (by decide) [.slice a7 ml.length c7] rfl (by intro u hu; simp only [List.mem_cons, List.not_mem_nil, or_false] at hu; rcases hu with rfl; rfl) hO7b (by omega) (by unfold maxLen; omega) (by omega)
          have hk8 : ∀ {base e size n cap : Nat} {a : Option Addr} {xs : List Value}, V7.ownsRow base e size (.slice a n cap) n xs → e ≠ 58 → W8.ownsRow base e size (.slice a n cap) n xs := fun ho hne => own_keptD ho hg8 (fun k e1 e2 => own_ownT hO7b ho (fun e => hne e.symm) k e1 e2)
          have hD8 := hD7.kept hg8 (own_Blk hO7b hD7 (by decide))
          have hM8 := hM7.keep hg8 (fun k e => ⟨by have := (own_typD hO7b k e).1; have := HD1.out.1; omega, fun e0 => own_ownT hO7b hM7.sets (by decide) k e e0⟩)
          have hgD := grownBy_set W8 D 0 (.slice (some ⟨g8, 0, none⟩) (i + 1) c8)
          have hk9 : ∀ {base e size n cap : Nat} {a : Option Addr} {xs : List Value}, W8.ownsRow base e size (.slice a n cap) n xs → e ≠ 25 → (W8.setCell ⟨D, 0, none⟩ (.slice (some ⟨g8, 0, none⟩) (i + 1) c8)).ownsRow base e size (.slice a n cap) n xs := fun ho hne => own_keptD ho hgD (fun k e1 e2 => by injection e1 with e1; subst e1; exact own_Blk ho hD8 hne e2.symm)
          have HM9 := Lib.hid (hM8.keep hgD (fun k e => by injection e with e; subst e; exact ⟨HD1.out.1, fun e0 => own_Blk hM8.sets hD8 (by decide) e0.symm⟩))
          have HD9 := Lib.hid (hD8.set 0 (.slice (some ⟨g8, 0, none⟩) (i + 1) c8))
          have HO9 := Lib.hid (hk9 ho8 (by decide))
          have HA9 := Lib.hid (hk9 (hk8 hA7 (by decide)) (by decide))
          have HOr9 : Hid (∀ r ∈ rs ++ [⟨ml, a7, c7⟩], OwnMv (W8.setCell ⟨D, 0, none⟩ (.slice (some ⟨g8, 0, none⟩) (i + 1) c8)) D r) := Lib.hid (fun r hr => by
            rcases List.mem_append.1 hr with h | h
            · exact hk9 (hk8 (hOr7 r h) (by decide)) (by decide)
            · rw [List.mem_singleton] at h
              subst h
              exact hk9 (hk8 (own_base hO7 hDV) (by decide)) (by decide))
          have Hwd9 := Lib.hid ((hwd7.grown hg8 (fun e => by have := HSs.out.2.2.2.1 Sb e.symm; omega)).grown hgD (fun e => by injection e with e; have := HSs.out.2.1; omega))
          have HI9 := Lib.hid hI7
          have HDB9 := Lib.hid (DB.step HDB.out hlt hal (by rw [hf1.out]; exact (hLn ▸ hC7)) (by rw [hf1.out]; exact (hLn ▸ hB7)) hm7)
          have HZ9 : Hid (D < (W8.setCell ⟨D, 0, none⟩ (.slice (some ⟨g8, 0, none⟩) (i + 1) c8)).heap.size) := Lib.hid HD9.out.lt
          have Hal9 : Hid (i + 1 ≤ all7.length) := Lib.hid (by have := movP_len cu7 bh7 all 256; rw [hm7] at this; dsimp only at this; omega)
          have zDa : ∀ o, (V7.alloc o).cell? ⟨D, 0, none⟩ = some (.slice ma i mc) := fun o => (hD7.alloc o).cell 0
          have zDb : V7.cell? ⟨D, 0, none⟩ = some (.slice ma i mc) := hD7.cell 0
          have zDc : W8.cell? ⟨D, 0, none⟩ = some (.slice ma i mc) := hD8.cell 0
          have zDf := hD8.frozen 0
          have zDl8 := hD8.lt
          have Hrun := Lib.hid hrun
          obtain ⟨W9, hW9⟩ : ∃ W, Hid (W8.setCell ⟨D, 0, none⟩ (.slice (some ⟨g8, 0, none⟩) (i + 1) c8) = W) := ⟨_, Lib.hid rfl⟩
          have HD9 : Hid (Blk (W8.setCell ⟨D, 0, none⟩ (.slice (some ⟨g8, 0, none⟩) (i + 1) c8)) D 25 [.slice (some ⟨g8, 0, none⟩) (i + 1) c8, .slice aa i ac2]) := HD9
          rw [hW9.out] at HM9 HD9 HO9 HA9 HOr9 Hwd9 HZ9
          clear hm7 hO7 hM7 hI7 hC7 hB7 hK7 hR7 hR8 hrS hD7 hO7b hA7 hOr7 hwd7 hrun ho8 hg8 hlies hlt2 hk8 hD8 hM8 hgD hk9
          refine hK.out _ _ ?_ (fun hHeld => ?_)
          · exact trivial
          clear hK K
          try simp only [Act.put, List.setIfInBounds_toArray, List.set_cons_zero, List.set_cons_succ]
          refine wpAnyH_ready (rs := [4]) (by kernel_rfl) (by simp) ?_
          refine AllReadyH.cons (gatL (gatS (gatS (gatS (gatS gatZ))))) (fun K hK => ?_) AllReadyH.nil
          go_simp
          refine hK.out _ _ ?_ (fun hHeld => ?_)
          · exact trivial
          clear hK K
          try simp only [Act.put, List.setIfInBounds_toArray, List.set_cons_zero, List.set_cons_succ]
          refine wpAnyH_ready (rs := [5]) (by kernel_rfl) (by simp) ?_
          refine AllReadyH.cons (gatL (gatS (gatS (gatS (gatS (gatS gatZ)))))) (fun K hK => ?_) AllReadyH.nil
          refine step_append_run rfl _ _ 22 22 rfl _ _ _ _ rfl rfl Hrun.out ?_
          refine hK.out _ _ ?_ (fun hHeld => ?_)
          · exact trivial
          clear hK K
          try simp only [Act.put, List.setIfInBounds_toArray, List.set_cons_zero, List.set_cons_succ]
          refine wpAnyH_take (i := 6) (v := ?_) (gatL (gatS (gatS (gatS (gatS (gatS (gatS gatZ))))))) (by kernel_rfl) (by kernel_rfl) (by kernel_rfl) (fun _ _ _ h => h) (Or.inl ⟨by rfl, ?_⟩) (by assumption) ?_
          rotate_left
          · intro w hSw
            try dsimp only at hSw
            go_simp
            all_goals with_reducible rfl
          try simp only [Act.put, List.setIfInBounds_toArray, List.set_cons_zero, List.set_cons_succ]
          refine wpAnyH_ready (rs := [7]) (by kernel_rfl) (by simp) ?_
          refine AllReadyH.cons (gatL (gatS (gatS (gatS (gatS (gatS (gatS (gatS gatZ)))))))) (fun K hK => ?_) AllReadyH.nil
          go_simp
          refine hK.out _ _ ?_ (fun hHeld => ?_)
          · exact trivial
          clear hK K
          try simp only [Act.put, List.setIfInBounds_toArray, List.set_cons_zero, List.set_cons_succ]
          refine wpAnyH_done (by kernel_rfl) ?_ _
          rw [hW9.out]
          have hb9 : Below w1.heap.size w1 W9.drew := HM9.out.bel.drew
          have Hac := Lib.hid (accept_any W9.drew p.ea p.ec x.ends Sb 0 f1 (HX1.out.grown hb9).ends (link_ends3 hl.out) Hwd9.out)
          have hx9 := HBx.out.below hb9 HBx.out.lt
          have x2 := hx9.cell 2
          have hD9 := blkD HD9.out
          have d1 := hD9.cell 1
          have dl := hD9.lt
          have hA9 := own_grow HA9.out (Below.refl _ W9).drew
          have hO9 := own_grow HO9.out (Below.refl _ W9).drew
          obtain ⟨A, hAe⟩ : ∃ A, Hid (accW f1 x.ends 0 = A) := ⟨_, Lib.hid rfl⟩
          rw [hAe.out] at Hac
          have haac := ownW_le hA9
          obtain ⟨gA, cA, W12, hrunA, hoA, hgA, hliesA, hltA⟩ := run_pushL W9.drew 23 23 3 _ 1 8 Try.underlying23 info_intD rfl (by decide) [.int .i64 A] rfl (by intro u hu; simp only [List.mem_cons, List.not_mem_nil, or_false] at hu; rcases hu with rfl; rfl) hA9 (by omega) (by unfold maxLen; omega) (by have := HD9.out.lt; show D ≤ W9.heap.size; omega)
          have kA : ∀ {base e size n cap : Nat} {a : Option Addr} {xs : List Value}, W9.drew.ownsRow base e size (.slice a n cap) n xs → e ≠ 3 → W12.ownsRow base e size (.slice a n cap) n xs := fun ho hne => own_keptD ho hgA (fun k e1 e2 => own_ownT hA9 ho (fun e => hne e.symm) k e1 e2)
          have hD12 := hD9.kept hgA (own_Blk hA9 hD9 (by decide))
          have hM9d := HM9.out.below (Below.refl _ W9).drew
          have hM12 := hM9d.keep hgA (fun k e => ⟨by have := (own_typD hA9 k e).1; have := HD1.out.1; omega, fun e0 => own_ownT hA9 hM9d.sets (by decide) k e e0⟩)
          have hgE := grownBy_set W12 D 1 (.slice (some ⟨gA, 0, none⟩) (i + 1) cA)
          have kE : ∀ {base e size n cap : Nat} {a : Option Addr} {xs : List Value}, W12.ownsRow base e size (.slice a n cap) n xs → e ≠ 25 → (W12.setCell ⟨D, 1, none⟩ (.slice (some ⟨gA, 0, none⟩) (i + 1) cA)).ownsRow base e size (.slice a n cap) n xs := fun ho hne => own_keptD ho hgE (fun k e1 e2 => by injection e1 with e1; subst e1; exact own_Blk ho hD12 hne e2.symm)
          have HM13 := Lib.hid (hM12.keep hgE (fun k e => by injection e with e; subst e; exact ⟨HD1.out.1, fun e0 => own_Blk hM12.sets hD12 (by decide) e0.symm⟩))
          have HD13 : Hid (Blk (W12.setCell ⟨D, 1, none⟩ (.slice (some ⟨gA, 0, none⟩) (i + 1) cA)) D 25 [.slice (some ⟨g8, 0, none⟩) (i + 1) c8, .slice (some ⟨gA, 0, none⟩) (i + 1) cA]) := Lib.hid (hD12.set 1 (.slice (some ⟨gA, 0, none⟩) (i + 1) cA))
          have HO13 := Lib.hid (kE (kA hO9 (by decide)) (by decide))
          have HA13 := Lib.hid (kE hoA (by decide))
          have HOr13 : Hid (∀ r ∈ rs ++ [⟨ml, a7, c7⟩], OwnMv (W12.setCell ⟨D, 1, none⟩ (.slice (some ⟨gA, 0, none⟩) (i + 1) cA)) D r) := Lib.hid (fun r hr => kE (kA (own_grow (HOr9.out r hr) (Below.refl _ W9).drew) (by decide)) (by decide))
          obtain ⟨W13, hW13⟩ : ∃ W, Hid (W12.setCell ⟨D, 1, none⟩ (.slice (some ⟨gA, 0, none⟩) (i + 1) cA) = W) := ⟨_, Lib.hid rfl⟩
          rw [hW13.out] at HM13 HD13 HO13 HA13 HOr13
          have HZ13 : Hid (D < W13.heap.size) := Lib.hid HD13.out.lt
          have d1a : ∀ o, (W9.alloc o).cell? ⟨D, 1, none⟩ = some (.slice aa i ac2) := fun o => ((show Blk W9 D 25 _ from HD9.out).alloc o).cell 1
          have d1c : W12.cell? ⟨D, 1, none⟩ = some (.slice aa i ac2) := hD12.cell 1
          have d1f := hD12.frozen 1
          have dl12 := hD12.lt
          have Hx0 : Hid (W9.drew.cell? ⟨X, 2, none⟩ = some (.slice p.ea x.ends.length p.ec)) := Lib.hid x2
          have Hxa : ∀ o, Hid ((W9.drew.alloc o).cell? ⟨X, 2, none⟩ = some (.slice p.ea x.ends.length p.ec)) := fun o => Lib.hid ((hx9.alloc o).cell 2)
          have hx12 := HBx.out.below hM12.bel HBx.out.lt
          have Hxb : Hid (W12.cell? ⟨X, 2, none⟩ = some (.slice p.ea x.ends.length p.ec)) := Lib.hid (hx12.cell 2)
          have hx13 := HBx.out.below HM13.out.bel HBx.out.lt
          have Hxc : Hid (W13.cell? ⟨X, 2, none⟩ = some (.slice p.ea x.ends.length p.ec)) := Lib.hid (hx13.cell 2)
          have HrunA := Lib.hid hrunA
          have z6 := HM13.out.mkr.cell (j := 6) (by omega)
          simp only [mkG, Nat.reduceLT, if_true, List.getD_cons_zero, List.getD_cons_succ] at z6
          have zl := HM13.out.mkr.lt
          have zsc7 := ownW_le HM13.out.sets
          have HDBn : Hid (DB L.y L.lds n x.ends (i + 1) all7 (ms ++ [ml]) (ac ++ [A])) := Lib.hid (by have := HDB9.out; simp only [hf1.out, hAe.out] at this; exact this)
          clear x2 hD9 hA9 hO9 hrunA hoA hgA hliesA hltA kA hD12 hM9d hM12 hgE kE hx9 hx12 hx13 hb9
          go_wp2_with (fail)
          refine wp_region_held_drew (S := fun w' => w'.cell? ⟨X, 2, none⟩ = some (.slice p.ea x.ends.length p.ec)) (by kernel_rfl) ?_ (fun hHeld => ?_)
          · exact Hx0.out
          refine wpAnyH_take (i := 0) (v := ?_) (gatL gatZ) (by kernel_rfl) (by kernel_rfl) (by kernel_rfl) (fun _ _ _ h => h) (Or.inl ⟨by rfl, ?_⟩) (by assumption) ?_
          rotate_left
          · intro w hSw
            try dsimp only at hSw
            go_simp
            all_goals with_reducible rfl
          try simp only [Act.put, List.setIfInBounds_toArray, List.set_cons_zero, List.set_cons_succ]
          refine wpAnyH_take (i := 2) (v := ?_) (gatL (gatS (gatS gatZ))) (by kernel_rfl) (by kernel_rfl) (by kernel_rfl) (fun _ _ _ h => h) (Or.inl ⟨by rfl, ?_⟩) (by assumption) ?_
          rotate_left
          · intro w hSw
            try dsimp only at hSw
            go_simp
            all_goals with_reducible rfl
          try simp only [Act.put, List.setIfInBounds_toArray, List.set_cons_zero, List.set_cons_succ]
          refine wpAnyH_take (i := 3) (v := ?_) (gatL (gatS (gatS (gatS gatZ)))) (by kernel_rfl) (by kernel_rfl) (by kernel_rfl) (fun _ _ _ h => h) (Or.inl ⟨by rfl, ?_⟩) (by assumption) ?_
          rotate_left
          · intro w hSw
            try dsimp only at hSw
            go_simp
            all_goals with_reducible rfl
          try simp only [Act.put, List.setIfInBounds_toArray, List.set_cons_zero, List.set_cons_succ]
          refine wpAnyH_ready (rs := [1, 4]) (by kernel_rfl) (by simp) ?_
          refine AllReadyH.cons (gatL (gatS gatZ)) (fun K hK => ?_) (AllReadyH.cons (gatL (gatS (gatS (gatS (gatS gatZ))))) (fun K hK => ?_) (AllReadyH.nil))
          ·
            go_simp
            refine hK.out _ _ ?_ (fun hHeld => ?_)
            · exact Hx0.out
            clear hK K
            try simp only [Act.put, List.setIfInBounds_toArray, List.set_cons_zero, List.set_cons_succ]
            refine wpAnyH_ready (rs := [4]) (by kernel_rfl) (by simp) ?_
            refine AllReadyH.cons (gatL (gatS (gatS (gatS (gatS gatZ))))) (fun K hK => ?_) AllReadyH.nil
            go_simp
            go_at_call 34
            (with_reducible refine Hac.out.mono ?_)
            rintro e V10 ⟨rfl, hV10⟩
            subst V10
            try dsimp only
            refine hK.out _ _ ?_ (fun hHeld => ?_)
            · exact Hx0.out
            clear hK K
            try simp only [Act.put, List.setIfInBounds_toArray, List.set_cons_zero, List.set_cons_succ]
            refine wpAnyH_ready (rs := [5]) (by kernel_rfl) (by simp) ?_
            refine AllReadyH.cons (gatL (gatS (gatS (gatS (gatS (gatS gatZ)))))) (fun K hK => ?_) AllReadyH.nil
            go_simp
            refine hK.out _ _ ?_ (fun hHeld => ?_)
            · exact (Hxa _).out
            clear hK K
            try simp only [Act.put, List.setIfInBounds_toArray, List.set_cons_zero, List.set_cons_succ]
            refine wpAnyH_ready (rs := [6]) (by kernel_rfl) (by simp) ?_
            refine AllReadyH.cons (gatL (gatS (gatS (gatS (gatS (gatS (gatS gatZ))))))) (fun K hK => ?_) AllReadyH.nil
            refine step_append_run rfl _ _ 23 23 rfl _ _ _ _ rfl rfl HrunA.out ?_
            refine hK.out _ _ ?_ (fun hHeld => ?_)
            · exact Hxb.out
            clear hK K
            try simp only [Act.put, List.setIfInBounds_toArray, List.set_cons_zero, List.set_cons_succ]
            refine wpAnyH_take (i := 7) (v := ?_) (gatL (gatS (gatS (gatS (gatS (gatS (gatS (gatS gatZ)))))))) (by kernel_rfl) (by kernel_rfl) (by kernel_rfl) (fun _ _ _ h => h) (Or.inl ⟨by rfl, ?_⟩) (by assumption) ?_
            rotate_left
            · intro w hSw
              try dsimp only at hSw
              go_simp
              all_goals with_reducible rfl
            try simp only [Act.put, List.setIfInBounds_toArray, List.set_cons_zero, List.set_cons_succ]
            refine wpAnyH_ready (rs := [8]) (by kernel_rfl) (by simp) ?_
            refine AllReadyH.cons (gatL (gatS (gatS (gatS (gatS (gatS (gatS (gatS (gatS gatZ))))))))) (fun K hK => ?_) AllReadyH.nil
            go_simp
            rw [hW13.out]
            refine hK.out _ _ ?_ (fun hHeld => ?_)
            · exact Hxc.out
            clear hK K
            try simp only [Act.put, List.setIfInBounds_toArray, List.set_cons_zero, List.set_cons_succ]
            refine wpAnyH_done (by kernel_rfl) ?_ _
            have hRes := HBr.out.below HM13.out.bel HBr.out.lt
            by_cases h2000 : all7.length ≤ 2000
            · have hgt : ¬ (2000 : Int) < (all7.length : Int) := by omega
              have HN13 : Hid ((rs ++ [(⟨ml, a7, c7⟩ : MvD)]).length = i + 1 ∧ (ac ++ [A]).length = i + 1 ∧ (rs ++ [(⟨ml, a7, c7⟩ : MvD)]).map MvD.l = ms ++ [ml]) := Lib.hid ⟨by rw [List.length_append, HN.out.1]; rfl, by rw [List.length_append, HN.out.2.1]; rfl, by rw [List.map_append, HN.out.2.2]; rfl⟩
              have HO14 : Hid (W13.ownsRow D 58 1 (.slice (some ⟨g8, 0, none⟩) (i + 1) c8) (i + 1) ((rs ++ [(⟨ml, a7, c7⟩ : MvD)]).map MvD.v)) := Lib.hid (by rw [List.map_append]; exact HO13.out)
              have HA14 : Hid (W13.ownsRow D 3 1 (.slice (some ⟨gA, 0, none⟩) (i + 1) cA) (i + 1) ((ac ++ [A]).map (fun a => Value.int .i64 a))) := Lib.hid (by rw [List.map_append]; exact HA13.out)
              clear hRes
              go_wp2_with (fail)
              exact ⟨⟨i + 1, all7, ms ++ [ml], ac ++ [A], cl7, cu7, bh7, sa7, sc7, rs ++ [⟨ml, a7, c7⟩], some ⟨g8, 0, none⟩, c8, some ⟨gA, 0, none⟩, cA, Hal9.out, h2000, by simp, HDBn, HM13, HI9, HN13, HD13, HO14, HOr13, HA14, HZ13⟩, by simp [intOf]; omega⟩
            · have hgt : (2000 : Int) < (all7.length : Int) := by omega
              have r0 := hRes.cell 0
              have r1 := hRes.cell 1
              have rf := hRes.frozen
              have rl := hRes.lt
              have rs0 := (hRes.set 0 (.slice none 0 0)).set 1 (.slice none 0 0)
              have rg := grownBy_trans (grownBy_set W13 (X + 1) 0 (.slice none 0 0)) (grownBy_set _ (X + 1) 1 (.slice none 0 0)) (fun i e => .inl e)
              have HBl : Hid (Below w.heap.size w ((W13.setCell ⟨X + 1, 0, none⟩ (.slice none 0 0)).setCell ⟨X + 1, 1, none⟩ (.slice none 0 0))) := Lib.hid (((hb1.trans (Hb2.out.mono hb1.size)).trans (HM13.out.bel.mono (Nat.le_trans hb1.size Hb2.out.size))).grown rg (Nat.le_trans (Nat.le_trans hb1.size Hb2.out.size) HM13.out.bel.size) (fun g e => by injection e with e; rw [hX.out]; omega))
              have q0 := rs0.cell 0
              have q1 := rs0.cell 1
              have HBu : Hid (BuiltD w ((W13.setCell ⟨X + 1, 0, none⟩ (.slice none 0 0)).setCell ⟨X + 1, 1, none⟩ (.slice none 0 0)) x n (.returned (.tuple #[.agg #[.slice none 0 0, .slice none 0 0], .int .i64 40]))) := Lib.hid ⟨L, hLn, hLs, hLe, hLl, hLd, i + 1, all7, ms ++ [ml], ac ++ [A], HDBn.out, HBl.out, .inl ⟨by omega, rfl⟩⟩
              clear rg rs0 hRes
              go_wp2_with (fail)
              exact bodyPost_ret (v := .tuple #[.agg #[.slice none 0 0, .slice none 0 0], .int .i64 40]) (by simp [results, Try.results15, go_sem, q0, q1]; try first | rfl | assumption | omega) rfl ⟨fun h => (by rw [hq.out] at h; cases h), fun _ => HBu.out⟩
          ·
            go_simp
            go_at_call 34
            (with_reducible refine Hac.out.mono ?_)
            rintro e V10 ⟨rfl, hV10⟩
            subst V10
            try dsimp only
            refine hK.out _ _ ?_ (fun hHeld => ?_)
            · exact Hx0.out
            clear hK K
            try simp only [Act.put, List.setIfInBounds_toArray, List.set_cons_zero, List.set_cons_succ]
            refine wpAnyH_ready (rs := [1, 5]) (by kernel_rfl) (by simp) ?_
            refine AllReadyH.cons (gatL (gatS gatZ)) (fun K hK => ?_) (AllReadyH.cons (gatL (gatS (gatS (gatS (gatS (gatS gatZ)))))) (fun K hK => ?_) (AllReadyH.nil))
            ·
              go_simp
              refine hK.out _ _ ?_ (fun hHeld => ?_)
              · exact Hx0.out
              clear hK K
              try simp only [Act.put, List.setIfInBounds_toArray, List.set_cons_zero, List.set_cons_succ]
              refine wpAnyH_ready (rs := [5]) (by kernel_rfl) (by simp) ?_
              refine AllReadyH.cons (gatL (gatS (gatS (gatS (gatS (gatS gatZ)))))) (fun K hK => ?_) AllReadyH.nil
              go_simp
              refine hK.out _ _ ?_ (fun hHeld => ?_)
              · exact (Hxa _).out
              clear hK K
              try simp only [Act.put, List.setIfInBounds_toArray, List.set_cons_zero, List.set_cons_succ]
              refine wpAnyH_ready (rs := [6]) (by kernel_rfl) (by simp) ?_
              refine AllReadyH.cons (gatL (gatS (gatS (gatS (gatS (gatS (gatS gatZ))))))) (fun K hK => ?_) AllReadyH.nil
              refine step_append_run rfl _ _ 23 23 rfl _ _ _ _ rfl rfl HrunA.out ?_
              refine hK.out _ _ ?_ (fun hHeld => ?_)
              · exact Hxb.out
              clear hK K
              try simp only [Act.put, List.setIfInBounds_toArray, List.set_cons_zero, List.set_cons_succ]
              refine wpAnyH_take (i := 7) (v := ?_) (gatL (gatS (gatS (gatS (gatS (gatS (gatS (gatS gatZ)))))))) (by kernel_rfl) (by kernel_rfl) (by kernel_rfl) (fun _ _ _ h => h) (Or.inl ⟨by rfl, ?_⟩) (by assumption) ?_
              rotate_left
              · intro w hSw
                try dsimp only at hSw
                go_simp
                all_goals with_reducible rfl
              try simp only [Act.put, List.setIfInBounds_toArray, List.set_cons_zero, List.set_cons_succ]
              refine wpAnyH_ready (rs := [8]) (by kernel_rfl) (by simp) ?_
              refine AllReadyH.cons (gatL (gatS (gatS (gatS (gatS (gatS (gatS (gatS (gatS gatZ))))))))) (fun K hK => ?_) AllReadyH.nil
              go_simp
              rw [hW13.out]
              refine hK.out _ _ ?_ (fun hHeld => ?_)
              · exact Hxc.out
              clear hK K
              try simp only [Act.put, List.setIfInBounds_toArray, List.set_cons_zero, List.set_cons_succ]
              refine wpAnyH_done (by kernel_rfl) ?_ _
              have hRes := HBr.out.below HM13.out.bel HBr.out.lt
              by_cases h2000 : all7.length ≤ 2000
              · have hgt : ¬ (2000 : Int) < (all7.length : Int) := by omega
                have HN13 : Hid ((rs ++ [(⟨ml, a7, c7⟩ : MvD)]).length = i + 1 ∧ (ac ++ [A]).length = i + 1 ∧ (rs ++ [(⟨ml, a7, c7⟩ : MvD)]).map MvD.l = ms ++ [ml]) := Lib.hid ⟨by rw [List.length_append, HN.out.1]; rfl, by rw [List.length_append, HN.out.2.1]; rfl, by rw [List.map_append, HN.out.2.2]; rfl⟩
                have HO14 : Hid (W13.ownsRow D 58 1 (.slice (some ⟨g8, 0, none⟩) (i + 1) c8) (i + 1) ((rs ++ [(⟨ml, a7, c7⟩ : MvD)]).map MvD.v)) := Lib.hid (by rw [List.map_append]; exact HO13.out)
                have HA14 : Hid (W13.ownsRow D 3 1 (.slice (some ⟨gA, 0, none⟩) (i + 1) cA) (i + 1) ((ac ++ [A]).map (fun a => Value.int .i64 a))) := Lib.hid (by rw [List.map_append]; exact HA13.out)
                clear hRes
                go_wp2_with (fail)
                exact ⟨⟨i + 1, all7, ms ++ [ml], ac ++ [A], cl7, cu7, bh7, sa7, sc7, rs ++ [⟨ml, a7, c7⟩], some ⟨g8, 0, none⟩, c8, some ⟨gA, 0, none⟩, cA, Hal9.out, h2000, by simp, HDBn, HM13, HI9, HN13, HD13, HO14, HOr13, HA14, HZ13⟩, by simp [intOf]; omega⟩
              · have hgt : (2000 : Int) < (all7.length : Int) := by omega
                have r0 := hRes.cell 0
                have r1 := hRes.cell 1
                have rf := hRes.frozen
                have rl := hRes.lt
                have rs0 := (hRes.set 0 (.slice none 0 0)).set 1 (.slice none 0 0)
                have rg := grownBy_trans (grownBy_set W13 (X + 1) 0 (.slice none 0 0)) (grownBy_set _ (X + 1) 1 (.slice none 0 0)) (fun i e => .inl e)
                have HBl : Hid (Below w.heap.size w ((W13.setCell ⟨X + 1, 0, none⟩ (.slice none 0 0)).setCell ⟨X + 1, 1, none⟩ (.slice none 0 0))) := Lib.hid (((hb1.trans (Hb2.out.mono hb1.size)).trans (HM13.out.bel.mono (Nat.le_trans hb1.size Hb2.out.size))).grown rg (Nat.le_trans (Nat.le_trans hb1.size Hb2.out.size) HM13.out.bel.size) (fun g e => by injection e with e; rw [hX.out]; omega))
                have q0 := rs0.cell 0
                have q1 := rs0.cell 1
                have HBu : Hid (BuiltD w ((W13.setCell ⟨X + 1, 0, none⟩ (.slice none 0 0)).setCell ⟨X + 1, 1, none⟩ (.slice none 0 0)) x n (.returned (.tuple #[.agg #[.slice none 0 0, .slice none 0 0], .int .i64 40]))) := Lib.hid ⟨L, hLn, hLs, hLe, hLl, hLd, i + 1, all7, ms ++ [ml], ac ++ [A], HDBn.out, HBl.out, .inl ⟨by omega, rfl⟩⟩
                clear rg rs0 hRes
                go_wp2_with (fail)
                exact bodyPost_ret (v := .tuple #[.agg #[.slice none 0 0, .slice none 0 0], .int .i64 40]) (by simp [results, Try.results15, go_sem, q0, q1]; try first | rfl | assumption | omega) rfl ⟨fun h => (by rw [hq.out] at h; cases h), fun _ => HBu.out⟩
            ·
              go_simp
              refine hK.out _ _ ?_ (fun hHeld => ?_)
              · exact (Hxa _).out
              clear hK K
              try simp only [Act.put, List.setIfInBounds_toArray, List.set_cons_zero, List.set_cons_succ]
              refine wpAnyH_ready (rs := [1]) (by kernel_rfl) (by simp) ?_
              refine AllReadyH.cons (gatL (gatS gatZ)) (fun K hK => ?_) AllReadyH.nil
              go_simp
              refine hK.out _ _ ?_ (fun hHeld => ?_)
              · exact (Hxa _).out
              clear hK K
              try simp only [Act.put, List.setIfInBounds_toArray, List.set_cons_zero, List.set_cons_succ]
              refine wpAnyH_ready (rs := [6]) (by kernel_rfl) (by simp) ?_
              refine AllReadyH.cons (gatL (gatS (gatS (gatS (gatS (gatS (gatS gatZ))))))) (fun K hK => ?_) AllReadyH.nil
              refine step_append_run rfl _ _ 23 23 rfl _ _ _ _ rfl rfl HrunA.out ?_
              refine hK.out _ _ ?_ (fun hHeld => ?_)
              · exact Hxb.out
              clear hK K
              try simp only [Act.put, List.setIfInBounds_toArray, List.set_cons_zero, List.set_cons_succ]
              refine wpAnyH_take (i := 7) (v := ?_) (gatL (gatS (gatS (gatS (gatS (gatS (gatS (gatS gatZ)))))))) (by kernel_rfl) (by kernel_rfl) (by kernel_rfl) (fun _ _ _ h => h) (Or.inl ⟨by rfl, ?_⟩) (by assumption) ?_
              rotate_left
              · intro w hSw
                try dsimp only at hSw
                go_simp
                all_goals with_reducible rfl
              try simp only [Act.put, List.setIfInBounds_toArray, List.set_cons_zero, List.set_cons_succ]
              refine wpAnyH_ready (rs := [8]) (by kernel_rfl) (by simp) ?_
              refine AllReadyH.cons (gatL (gatS (gatS (gatS (gatS (gatS (gatS (gatS (gatS gatZ))))))))) (fun K hK => ?_) AllReadyH.nil
              go_simp
              rw [hW13.out]
              refine hK.out _ _ ?_ (fun hHeld => ?_)
              · exact Hxc.out
              clear hK K
              try simp only [Act.put, List.setIfInBounds_toArray, List.set_cons_zero, List.set_cons_succ]
              refine wpAnyH_done (by kernel_rfl) ?_ _
              have hRes := HBr.out.below HM13.out.bel HBr.out.lt
              by_cases h2000 : all7.length ≤ 2000
              · have hgt : ¬ (2000 : Int) < (all7.length : Int) := by omega
                have HN13 : Hid ((rs ++ [(⟨ml, a7, c7⟩ : MvD)]).length = i + 1 ∧ (ac ++ [A]).length = i + 1 ∧ (rs ++ [(⟨ml, a7, c7⟩ : MvD)]).map MvD.l = ms ++ [ml]) := Lib.hid ⟨by rw [List.length_append, HN.out.1]; rfl, by rw [List.length_append, HN.out.2.1]; rfl, by rw [List.map_append, HN.out.2.2]; rfl⟩
                have HO14 : Hid (W13.ownsRow D 58 1 (.slice (some ⟨g8, 0, none⟩) (i + 1) c8) (i + 1) ((rs ++ [(⟨ml, a7, c7⟩ : MvD)]).map MvD.v)) := Lib.hid (by rw [List.map_append]; exact HO13.out)
                have HA14 : Hid (W13.ownsRow D 3 1 (.slice (some ⟨gA, 0, none⟩) (i + 1) cA) (i + 1) ((ac ++ [A]).map (fun a => Value.int .i64 a))) := Lib.hid (by rw [List.map_append]; exact HA13.out)
                clear hRes
                go_wp2_with (fail)
                exact ⟨⟨i + 1, all7, ms ++ [ml], ac ++ [A], cl7, cu7, bh7, sa7, sc7, rs ++ [⟨ml, a7, c7⟩], some ⟨g8, 0, none⟩, c8, some ⟨gA, 0, none⟩, cA, Hal9.out, h2000, by simp, HDBn, HM13, HI9, HN13, HD13, HO14, HOr13, HA14, HZ13⟩, by simp [intOf]; omega⟩
              · have hgt : (2000 : Int) < (all7.length : Int) := by omega
                have r0 := hRes.cell 0
                have r1 := hRes.cell 1
                have rf := hRes.frozen
                have rl := hRes.lt
                have rs0 := (hRes.set 0 (.slice none 0 0)).set 1 (.slice none 0 0)
                have rg := grownBy_trans (grownBy_set W13 (X + 1) 0 (.slice none 0 0)) (grownBy_set _ (X + 1) 1 (.slice none 0 0)) (fun i e => .inl e)
                have HBl : Hid (Below w.heap.size w ((W13.setCell ⟨X + 1, 0, none⟩ (.slice none 0 0)).setCell ⟨X + 1, 1, none⟩ (.slice none 0 0))) := Lib.hid (((hb1.trans (Hb2.out.mono hb1.size)).trans (HM13.out.bel.mono (Nat.le_trans hb1.size Hb2.out.size))).grown rg (Nat.le_trans (Nat.le_trans hb1.size Hb2.out.size) HM13.out.bel.size) (fun g e => by injection e with e; rw [hX.out]; omega))
                have q0 := rs0.cell 0
                have q1 := rs0.cell 1
                have HBu : Hid (BuiltD w ((W13.setCell ⟨X + 1, 0, none⟩ (.slice none 0 0)).setCell ⟨X + 1, 1, none⟩ (.slice none 0 0)) x n (.returned (.tuple #[.agg #[.slice none 0 0, .slice none 0 0], .int .i64 40]))) := Lib.hid ⟨L, hLn, hLs, hLe, hLl, hLd, i + 1, all7, ms ++ [ml], ac ++ [A], HDBn.out, HBl.out, .inl ⟨by omega, rfl⟩⟩
                clear rg rs0 hRes
                go_wp2_with (fail)
                exact bodyPost_ret (v := .tuple #[.agg #[.slice none 0 0, .slice none 0 0], .int .i64 40]) (by simp [results, Try.results15, go_sem, q0, q1]; try first | rfl | assumption | omega) rfl ⟨fun h => (by rw [hq.out] at h; cases h), fun _ => HBu.out⟩
        ·
          go_simp
          go_at_call 33
          (with_reducible refine Hmv.out.mono ?_)
          rintro e V7 ⟨cl7, cu7, bh7, all7, ml, tq, sa7, sc7, a7, c7, rfl, hm7, hO7, hM7, hI7, hC7, hB7, hK7, hR7, hR8⟩
          have hsz7 := hK7.size
          have hrS : ∀ {base e size n cap : Nat} {a : Option Addr} {xs : List Value}, D ≤ base → V6.drew.ownsRow base e size (.slice a n cap) n xs → e ≠ 74 → V7.ownsRow base e size (.slice a n cap) n xs := fun hb ho hne => hK7.own ho (fun k e e0 => by
            rcases e0 with e0 | e0
            · have := (own_typD ho k e).1; have := HD1.out.1; omega
            · exact own_ownT ho HM6.out.sets hne k e e0)
          have hD7 := hK7.bk HBD6.out (fun e => by
            rcases e with e | e
            · have := HD1.out.1; omega
            · exact own_Blk HM6.out.sets HBD6.out (by decide) e.symm)
          have hO7b := hrS (Nat.le_refl _) HO6.out (by decide)
          have hA7 := hrS (Nat.le_refl _) HA6.out (by decide)
          have hOr7 : ∀ r ∈ rs, OwnMv V7 D r := fun r hr => hrS (Nat.le_refl _) (HOr6.out r hr) (by decide)
          have hwd7 := hK7.wd Hwd6.out (fun e => by
            rcases e with e | e
            · have := HSs.out.1; omega
            · have := HSs.out.2.2.1 Sb e; omega)
          have hDV : D ≤ V6.drew.heap.size := by have := HBD6.out.lt; omega
          obtain ⟨g8, c8, W8, hrun, ho8, hg8, hlies, hlt2⟩ := run_pushL V7 22 22 58 _ 1 24 Try.underlying22 info_moves rfl (by decide) [.slice a7 ml.length c7] rfl (by intro u hu; simp only [List.mem_cons, List.not_mem_nil, or_false] at hu; rcases hu with rfl; rfl) hO7b (by omega) (by unfold maxLen; omega) (by omega)
          have hk8 : ∀ {base e size n cap : Nat} {a : Option Addr} {xs : List Value}, V7.ownsRow base e size (.slice a n cap) n xs → e ≠ 58 → W8.ownsRow base e size (.slice a n cap) n xs := fun ho hne => own_keptD ho hg8 (fun k e1 e2 => own_ownT hO7b ho (fun e => hne e.symm) k e1 e2)
          have hD8 := hD7.kept hg8 (own_Blk hO7b hD7 (by decide))
          have hM8 := hM7.keep hg8 (fun k e => ⟨by have := (own_typD hO7b k e).1; have := HD1.out.1; omega, fun e0 => own_ownT hO7b hM7.sets (by decide) k e e0⟩)
          have hgD := grownBy_set W8 D 0 (.slice (some ⟨g8, 0, none⟩) (i + 1) c8)
          have hk9 : ∀ {base e size n cap : Nat} {a : Option Addr} {xs : List Value}, W8.ownsRow base e size (.slice a n cap) n xs → e ≠ 25 → (W8.setCell ⟨D, 0, none⟩ (.slice (some ⟨g8, 0, none⟩) (i + 1) c8)).ownsRow base e size (.slice a n cap) n xs := fun ho hne => own_keptD ho hgD (fun k e1 e2 => by injection e1 with e1; subst e1; exact own_Blk ho hD8 hne e2.symm)
          have HM9 := Lib.hid (hM8.keep hgD (fun k e => by injection e with e; subst e; exact ⟨HD1.out.1, fun e0 => own_Blk hM8.sets hD8 (by decide) e0.symm⟩))
          have HD9 := Lib.hid (hD8.set 0 (.slice (some ⟨g8, 0, none⟩) (i + 1) c8))
          have HO9 := Lib.hid (hk9 ho8 (by decide))
          have HA9 := Lib.hid (hk9 (hk8 hA7 (by decide)) (by decide))
          have HOr9 : Hid (∀ r ∈ rs ++ [⟨ml, a7, c7⟩], OwnMv (W8.setCell ⟨D, 0, none⟩ (.slice (some ⟨g8, 0, none⟩) (i + 1) c8)) D r) := Lib.hid (fun r hr => by
            rcases List.mem_append.1 hr with h | h
            · exact hk9 (hk8 (hOr7 r h) (by decide)) (by decide)
            · rw [List.mem_singleton] at h
              subst h
              exact hk9 (hk8 (own_base hO7 hDV) (by decide)) (by decide))
          have Hwd9 := Lib.hid ((hwd7.grown hg8 (fun e => by have := HSs.out.2.2.2.1 Sb e.symm; omega)).grown hgD (fun e => by injection e with e; have := HSs.out.2.1; omega))
          have HI9 := Lib.hid hI7
          have HDB9 := Lib.hid (DB.step HDB.out hlt hal (by rw [hf1.out]; exact (hLn ▸ hC7)) (by rw [hf1.out]; exact (hLn ▸ hB7)) hm7)
          have HZ9 : Hid (D < (W8.setCell ⟨D, 0, none⟩ (.slice (some ⟨g8, 0, none⟩) (i + 1) c8)).heap.size) := Lib.hid HD9.out.lt
          have Hal9 : Hid (i + 1 ≤ all7.length) := Lib.hid (by have := movP_len cu7 bh7 all 256; rw [hm7] at this; dsimp only at this; omega)
          have zDa : ∀ o, (V7.alloc o).cell? ⟨D, 0, none⟩ = some (.slice ma i mc) := fun o => (hD7.alloc o).cell 0
          have zDb : V7.cell? ⟨D, 0, none⟩ = some (.slice ma i mc) := hD7.cell 0
          have zDc : W8.cell? ⟨D, 0, none⟩ = some (.slice ma i mc) := hD8.cell 0
          have zDf := hD8.frozen 0
          have zDl8 := hD8.lt
          have Hrun := Lib.hid hrun
          obtain ⟨W9, hW9⟩ : ∃ W, Hid (W8.setCell ⟨D, 0, none⟩ (.slice (some ⟨g8, 0, none⟩) (i + 1) c8) = W) := ⟨_, Lib.hid rfl⟩
          have HD9 : Hid (Blk (W8.setCell ⟨D, 0, none⟩ (.slice (some ⟨g8, 0, none⟩) (i + 1) c8)) D 25 [.slice (some ⟨g8, 0, none⟩) (i + 1) c8, .slice aa i ac2]) := HD9
          rw [hW9.out] at HM9 HD9 HO9 HA9 HOr9 Hwd9 HZ9
          clear hm7 hO7 hM7 hI7 hC7 hB7 hK7 hR7 hR8 hrS hD7 hO7b hA7 hOr7 hwd7 hrun ho8 hg8 hlies hlt2 hk8 hD8 hM8 hgD hk9
          refine hK.out _ _ ?_ (fun hHeld => ?_)
          · exact trivial
          clear hK K
          try simp only [Act.put, List.setIfInBounds_toArray, List.set_cons_zero, List.set_cons_succ]
          refine wpAnyH_ready (rs := [1, 4]) (by kernel_rfl) (by simp) ?_
          refine AllReadyH.cons (gatL (gatS gatZ)) (fun K hK => ?_) (AllReadyH.cons (gatL (gatS (gatS (gatS (gatS gatZ))))) (fun K hK => ?_) (AllReadyH.nil))
          ·
            go_simp
            refine hK.out _ _ ?_ (fun hHeld => ?_)
            · exact trivial
            clear hK K
            try simp only [Act.put, List.setIfInBounds_toArray, List.set_cons_zero, List.set_cons_succ]
            refine wpAnyH_ready (rs := [4]) (by kernel_rfl) (by simp) ?_
            refine AllReadyH.cons (gatL (gatS (gatS (gatS (gatS gatZ))))) (fun K hK => ?_) AllReadyH.nil
            go_simp
            refine hK.out _ _ ?_ (fun hHeld => ?_)
            · exact trivial
            clear hK K
            try simp only [Act.put, List.setIfInBounds_toArray, List.set_cons_zero, List.set_cons_succ]
            refine wpAnyH_ready (rs := [5]) (by kernel_rfl) (by simp) ?_
            refine AllReadyH.cons (gatL (gatS (gatS (gatS (gatS (gatS gatZ)))))) (fun K hK => ?_) AllReadyH.nil
            refine step_append_run rfl _ _ 22 22 rfl _ _ _ _ rfl rfl Hrun.out ?_
            refine hK.out _ _ ?_ (fun hHeld => ?_)
            · exact trivial
            clear hK K
            try simp only [Act.put, List.setIfInBounds_toArray, List.set_cons_zero, List.set_cons_succ]
            refine wpAnyH_take (i := 6) (v := ?_) (gatL (gatS (gatS (gatS (gatS (gatS (gatS gatZ))))))) (by kernel_rfl) (by kernel_rfl) (by kernel_rfl) (fun _ _ _ h => h) (Or.inl ⟨by rfl, ?_⟩) (by assumption) ?_
            rotate_left
            · intro w hSw
              try dsimp only at hSw
              go_simp
              all_goals with_reducible rfl
            try simp only [Act.put, List.setIfInBounds_toArray, List.set_cons_zero, List.set_cons_succ]
            refine wpAnyH_ready (rs := [7]) (by kernel_rfl) (by simp) ?_
            refine AllReadyH.cons (gatL (gatS (gatS (gatS (gatS (gatS (gatS (gatS gatZ)))))))) (fun K hK => ?_) AllReadyH.nil
            go_simp
            refine hK.out _ _ ?_ (fun hHeld => ?_)
            · exact trivial
            clear hK K
            try simp only [Act.put, List.setIfInBounds_toArray, List.set_cons_zero, List.set_cons_succ]
            refine wpAnyH_done (by kernel_rfl) ?_ _
            rw [hW9.out]
            have hb9 : Below w1.heap.size w1 W9.drew := HM9.out.bel.drew
            have Hac := Lib.hid (accept_any W9.drew p.ea p.ec x.ends Sb 0 f1 (HX1.out.grown hb9).ends (link_ends3 hl.out) Hwd9.out)
            have hx9 := HBx.out.below hb9 HBx.out.lt
            have x2 := hx9.cell 2
            have hD9 := blkD HD9.out
            have d1 := hD9.cell 1
            have dl := hD9.lt
            have hA9 := own_grow HA9.out (Below.refl _ W9).drew
            have hO9 := own_grow HO9.out (Below.refl _ W9).drew
            obtain ⟨A, hAe⟩ : ∃ A, Hid (accW f1 x.ends 0 = A) := ⟨_, Lib.hid rfl⟩
            rw [hAe.out] at Hac
            have haac := ownW_le hA9
            obtain ⟨gA, cA, W12, hrunA, hoA, hgA, hliesA, hltA⟩ := run_pushL W9.drew 23 23 3 _ 1 8 Try.underlying23 info_intD rfl (by decide) [.int .i64 A] rfl (by intro u hu; simp only [List.mem_cons, List.not_mem_nil, or_false] at hu; rcases hu with rfl; rfl) hA9 (by omega) (by unfold maxLen; omega) (by have := HD9.out.lt; show D ≤ W9.heap.size; omega)
            have kA : ∀ {base e size n cap : Nat} {a : Option Addr} {xs : List Value}, W9.drew.ownsRow base e size (.slice a n cap) n xs → e ≠ 3 → W12.ownsRow base e size (.slice a n cap) n xs := fun ho hne => own_keptD ho hgA (fun k e1 e2 => own_ownT hA9 ho (fun e => hne e.symm) k e1 e2)
            have hD12 := hD9.kept hgA (own_Blk hA9 hD9 (by decide))
            have hM9d := HM9.out.below (Below.refl _ W9).drew
            have hM12 := hM9d.keep hgA (fun k e => ⟨by have := (own_typD hA9 k e).1; have := HD1.out.1; omega, fun e0 => own_ownT hA9 hM9d.sets (by decide) k e e0⟩)
            have hgE := grownBy_set W12 D 1 (.slice (some ⟨gA, 0, none⟩) (i + 1) cA)
            have kE : ∀ {base e size n cap : Nat} {a : Option Addr} {xs : List Value}, W12.ownsRow base e size (.slice a n cap) n xs → e ≠ 25 → (W12.setCell ⟨D, 1, none⟩ (.slice (some ⟨gA, 0, none⟩) (i + 1) cA)).ownsRow base e size (.slice a n cap) n xs := fun ho hne => own_keptD ho hgE (fun k e1 e2 => by injection e1 with e1; subst e1; exact own_Blk ho hD12 hne e2.symm)
            have HM13 := Lib.hid (hM12.keep hgE (fun k e => by injection e with e; subst e; exact ⟨HD1.out.1, fun e0 => own_Blk hM12.sets hD12 (by decide) e0.symm⟩))
            have HD13 : Hid (Blk (W12.setCell ⟨D, 1, none⟩ (.slice (some ⟨gA, 0, none⟩) (i + 1) cA)) D 25 [.slice (some ⟨g8, 0, none⟩) (i + 1) c8, .slice (some ⟨gA, 0, none⟩) (i + 1) cA]) := Lib.hid (hD12.set 1 (.slice (some ⟨gA, 0, none⟩) (i + 1) cA))
            have HO13 := Lib.hid (kE (kA hO9 (by decide)) (by decide))
            have HA13 := Lib.hid (kE hoA (by decide))
            have HOr13 : Hid (∀ r ∈ rs ++ [⟨ml, a7, c7⟩], OwnMv (W12.setCell ⟨D, 1, none⟩ (.slice (some ⟨gA, 0, none⟩) (i + 1) cA)) D r) := Lib.hid (fun r hr => kE (kA (own_grow (HOr9.out r hr) (Below.refl _ W9).drew) (by decide)) (by decide))
            obtain ⟨W13, hW13⟩ : ∃ W, Hid (W12.setCell ⟨D, 1, none⟩ (.slice (some ⟨gA, 0, none⟩) (i + 1) cA) = W) := ⟨_, Lib.hid rfl⟩
            rw [hW13.out] at HM13 HD13 HO13 HA13 HOr13
            have HZ13 : Hid (D < W13.heap.size) := Lib.hid HD13.out.lt
            have d1a : ∀ o, (W9.alloc o).cell? ⟨D, 1, none⟩ = some (.slice aa i ac2) := fun o => ((show Blk W9 D 25 _ from HD9.out).alloc o).cell 1
            have d1c : W12.cell? ⟨D, 1, none⟩ = some (.slice aa i ac2) := hD12.cell 1
            have d1f := hD12.frozen 1
            have dl12 := hD12.lt
            have Hx0 : Hid (W9.drew.cell? ⟨X, 2, none⟩ = some (.slice p.ea x.ends.length p.ec)) := Lib.hid x2
            have Hxa : ∀ o, Hid ((W9.drew.alloc o).cell? ⟨X, 2, none⟩ = some (.slice p.ea x.ends.length p.ec)) := fun o => Lib.hid ((hx9.alloc o).cell 2)
            have hx12 := HBx.out.below hM12.bel HBx.out.lt
            have Hxb : Hid (W12.cell? ⟨X, 2, none⟩ = some (.slice p.ea x.ends.length p.ec)) := Lib.hid (hx12.cell 2)
            have hx13 := HBx.out.below HM13.out.bel HBx.out.lt
            have Hxc : Hid (W13.cell? ⟨X, 2, none⟩ = some (.slice p.ea x.ends.length p.ec)) := Lib.hid (hx13.cell 2)
            have HrunA := Lib.hid hrunA
            have z6 := HM13.out.mkr.cell (j := 6) (by omega)
            simp only [mkG, Nat.reduceLT, if_true, List.getD_cons_zero, List.getD_cons_succ] at z6
            have zl := HM13.out.mkr.lt
            have zsc7 := ownW_le HM13.out.sets
            have HDBn : Hid (DB L.y L.lds n x.ends (i + 1) all7 (ms ++ [ml]) (ac ++ [A])) := Lib.hid (by have := HDB9.out; simp only [hf1.out, hAe.out] at this; exact this)
            clear x2 hD9 hA9 hO9 hrunA hoA hgA hliesA hltA kA hD12 hM9d hM12 hgE kE hx9 hx12 hx13 hb9
            go_wp2_with (fail)
            refine wp_region_held_drew (S := fun w' => w'.cell? ⟨X, 2, none⟩ = some (.slice p.ea x.ends.length p.ec)) (by kernel_rfl) ?_ (fun hHeld => ?_)
            · exact Hx0.out
            refine wpAnyH_take (i := 0) (v := ?_) (gatL gatZ) (by kernel_rfl) (by kernel_rfl) (by kernel_rfl) (fun _ _ _ h => h) (Or.inl ⟨by rfl, ?_⟩) (by assumption) ?_
            rotate_left
            · intro w hSw
              try dsimp only at hSw
              go_simp
              all_goals with_reducible rfl
            try simp only [Act.put, List.setIfInBounds_toArray, List.set_cons_zero, List.set_cons_succ]
            refine wpAnyH_take (i := 2) (v := ?_) (gatL (gatS (gatS gatZ))) (by kernel_rfl) (by kernel_rfl) (by kernel_rfl) (fun _ _ _ h => h) (Or.inl ⟨by rfl, ?_⟩) (by assumption) ?_
            rotate_left
            · intro w hSw
              try dsimp only at hSw
              go_simp
              all_goals with_reducible rfl
            try simp only [Act.put, List.setIfInBounds_toArray, List.set_cons_zero, List.set_cons_succ]
            refine wpAnyH_take (i := 3) (v := ?_) (gatL (gatS (gatS (gatS gatZ)))) (by kernel_rfl) (by kernel_rfl) (by kernel_rfl) (fun _ _ _ h => h) (Or.inl ⟨by rfl, ?_⟩) (by assumption) ?_
            rotate_left
            · intro w hSw
              try dsimp only at hSw
              go_simp
              all_goals with_reducible rfl
            try simp only [Act.put, List.setIfInBounds_toArray, List.set_cons_zero, List.set_cons_succ]
            refine wpAnyH_ready (rs := [1, 4]) (by kernel_rfl) (by simp) ?_
            refine AllReadyH.cons (gatL (gatS gatZ)) (fun K hK => ?_) (AllReadyH.cons (gatL (gatS (gatS (gatS (gatS gatZ))))) (fun K hK => ?_) (AllReadyH.nil))
            ·
              go_simp
              refine hK.out _ _ ?_ (fun hHeld => ?_)
              · exact Hx0.out
              clear hK K
              try simp only [Act.put, List.setIfInBounds_toArray, List.set_cons_zero, List.set_cons_succ]
              refine wpAnyH_ready (rs := [4]) (by kernel_rfl) (by simp) ?_
              refine AllReadyH.cons (gatL (gatS (gatS (gatS (gatS gatZ))))) (fun K hK => ?_) AllReadyH.nil
              go_simp
              go_at_call 34
              (with_reducible refine Hac.out.mono ?_)
              rintro e V10 ⟨rfl, hV10⟩
              subst V10
              try dsimp only
              refine hK.out _ _ ?_ (fun hHeld => ?_)
              · exact Hx0.out
              clear hK K
              try simp only [Act.put, List.setIfInBounds_toArray, List.set_cons_zero, List.set_cons_succ]
              refine wpAnyH_ready (rs := [5]) (by kernel_rfl) (by simp) ?_
              refine AllReadyH.cons (gatL (gatS (gatS (gatS (gatS (gatS gatZ)))))) (fun K hK => ?_) AllReadyH.nil
              go_simp
              refine hK.out _ _ ?_ (fun hHeld => ?_)
              · exact (Hxa _).out
              clear hK K
              try simp only [Act.put, List.setIfInBounds_toArray, List.set_cons_zero, List.set_cons_succ]
              refine wpAnyH_ready (rs := [6]) (by kernel_rfl) (by simp) ?_
              refine AllReadyH.cons (gatL (gatS (gatS (gatS (gatS (gatS (gatS gatZ))))))) (fun K hK => ?_) AllReadyH.nil
              refine step_append_run rfl _ _ 23 23 rfl _ _ _ _ rfl rfl HrunA.out ?_
              refine hK.out _ _ ?_ (fun hHeld => ?_)
              · exact Hxb.out
              clear hK K
              try simp only [Act.put, List.setIfInBounds_toArray, List.set_cons_zero, List.set_cons_succ]
              refine wpAnyH_take (i := 7) (v := ?_) (gatL (gatS (gatS (gatS (gatS (gatS (gatS (gatS gatZ)))))))) (by kernel_rfl) (by kernel_rfl) (by kernel_rfl) (fun _ _ _ h => h) (Or.inl ⟨by rfl, ?_⟩) (by assumption) ?_
              rotate_left
              · intro w hSw
                try dsimp only at hSw
                go_simp
                all_goals with_reducible rfl
              try simp only [Act.put, List.setIfInBounds_toArray, List.set_cons_zero, List.set_cons_succ]
              refine wpAnyH_ready (rs := [8]) (by kernel_rfl) (by simp) ?_
              refine AllReadyH.cons (gatL (gatS (gatS (gatS (gatS (gatS (gatS (gatS (gatS gatZ))))))))) (fun K hK => ?_) AllReadyH.nil
              go_simp
              rw [hW13.out]
              refine hK.out _ _ ?_ (fun hHeld => ?_)
              · exact Hxc.out
              clear hK K
              try simp only [Act.put, List.setIfInBounds_toArray, List.set_cons_zero, List.set_cons_succ]
              refine wpAnyH_done (by kernel_rfl) ?_ _
              have hRes := HBr.out.below HM13.out.bel HBr.out.lt
              by_cases h2000 : all7.length ≤ 2000
              · have hgt : ¬ (2000 : Int) < (all7.length : Int) := by omega
                have HN13 : Hid ((rs ++ [(⟨ml, a7, c7⟩ : MvD)]).length = i + 1 ∧ (ac ++ [A]).length = i + 1 ∧ (rs ++ [(⟨ml, a7, c7⟩ : MvD)]).map MvD.l = ms ++ [ml]) := Lib.hid ⟨by rw [List.length_append, HN.out.1]; rfl, by rw [List.length_append, HN.out.2.1]; rfl, by rw [List.map_append, HN.out.2.2]; rfl⟩
                have HO14 : Hid (W13.ownsRow D 58 1 (.slice (some ⟨g8, 0, none⟩) (i + 1) c8) (i + 1) ((rs ++ [(⟨ml, a7, c7⟩ : MvD)]).map MvD.v)) := Lib.hid (by rw [List.map_append]; exact HO13.out)
                have HA14 : Hid (W13.ownsRow D 3 1 (.slice (some ⟨gA, 0, none⟩) (i + 1) cA) (i + 1) ((ac ++ [A]).map (fun a => Value.int .i64 a))) := Lib.hid (by rw [List.map_append]; exact HA13.out)
                clear hRes
                go_wp2_with (fail)
                exact ⟨⟨i + 1, all7, ms ++ [ml], ac ++ [A], cl7, cu7, bh7, sa7, sc7, rs ++ [⟨ml, a7, c7⟩], some ⟨g8, 0, none⟩, c8, some ⟨gA, 0, none⟩, cA, Hal9.out, h2000, by simp, HDBn, HM13, HI9, HN13, HD13, HO14, HOr13, HA14, HZ13⟩, by simp [intOf]; omega⟩
              · have hgt : (2000 : Int) < (all7.length : Int) := by omega
                have r0 := hRes.cell 0
                have r1 := hRes.cell 1
                have rf := hRes.frozen
                have rl := hRes.lt
                have rs0 := (hRes.set 0 (.slice none 0 0)).set 1 (.slice none 0 0)
                have rg := grownBy_trans (grownBy_set W13 (X + 1) 0 (.slice none 0 0)) (grownBy_set _ (X + 1) 1 (.slice none 0 0)) (fun i e => .inl e)
                have HBl : Hid (Below w.heap.size w ((W13.setCell ⟨X + 1, 0, none⟩ (.slice none 0 0)).setCell ⟨X + 1, 1, none⟩ (.slice none 0 0))) := Lib.hid (((hb1.trans (Hb2.out.mono hb1.size)).trans (HM13.out.bel.mono (Nat.le_trans hb1.size Hb2.out.size))).grown rg (Nat.le_trans (Nat.le_trans hb1.size Hb2.out.size) HM13.out.bel.size) (fun g e => by injection e with e; rw [hX.out]; omega))
                have q0 := rs0.cell 0
                have q1 := rs0.cell 1
                have HBu : Hid (BuiltD w ((W13.setCell ⟨X + 1, 0, none⟩ (.slice none 0 0)).setCell ⟨X + 1, 1, none⟩ (.slice none 0 0)) x n (.returned (.tuple #[.agg #[.slice none 0 0, .slice none 0 0], .int .i64 40]))) := Lib.hid ⟨L, hLn, hLs, hLe, hLl, hLd, i + 1, all7, ms ++ [ml], ac ++ [A], HDBn.out, HBl.out, .inl ⟨by omega, rfl⟩⟩
                clear rg rs0 hRes
                go_wp2_with (fail)
                exact bodyPost_ret (v := .tuple #[.agg #[.slice none 0 0, .slice none 0 0], .int .i64 40]) (by simp [results, Try.results15, go_sem, q0, q1]; try first | rfl | assumption | omega) rfl ⟨fun h => (by rw [hq.out] at h; cases h), fun _ => HBu.out⟩
            ·
              go_simp
              go_at_call 34
              (with_reducible refine Hac.out.mono ?_)
              rintro e V10 ⟨rfl, hV10⟩
              subst V10
              try dsimp only
              refine hK.out _ _ ?_ (fun hHeld => ?_)
              · exact Hx0.out
              clear hK K
              try simp only [Act.put, List.setIfInBounds_toArray, List.set_cons_zero, List.set_cons_succ]
              refine wpAnyH_ready (rs := [1, 5]) (by kernel_rfl) (by simp) ?_
              refine AllReadyH.cons (gatL (gatS gatZ)) (fun K hK => ?_) (AllReadyH.cons (gatL (gatS (gatS (gatS (gatS (gatS gatZ)))))) (fun K hK => ?_) (AllReadyH.nil))
              ·
                go_simp
                refine hK.out _ _ ?_ (fun hHeld => ?_)
                · exact Hx0.out
                clear hK K
                try simp only [Act.put, List.setIfInBounds_toArray, List.set_cons_zero, List.set_cons_succ]
                refine wpAnyH_ready (rs := [5]) (by kernel_rfl) (by simp) ?_
                refine AllReadyH.cons (gatL (gatS (gatS (gatS (gatS (gatS gatZ)))))) (fun K hK => ?_) AllReadyH.nil
                go_simp
                refine hK.out _ _ ?_ (fun hHeld => ?_)
                · exact (Hxa _).out
                clear hK K
                try simp only [Act.put, List.setIfInBounds_toArray, List.set_cons_zero, List.set_cons_succ]
                refine wpAnyH_ready (rs := [6]) (by kernel_rfl) (by simp) ?_
                refine AllReadyH.cons (gatL (gatS (gatS (gatS (gatS (gatS (gatS gatZ))))))) (fun K hK => ?_) AllReadyH.nil
                refine step_append_run rfl _ _ 23 23 rfl _ _ _ _ rfl rfl HrunA.out ?_
                refine hK.out _ _ ?_ (fun hHeld => ?_)
                · exact Hxb.out
                clear hK K
                try simp only [Act.put, List.setIfInBounds_toArray, List.set_cons_zero, List.set_cons_succ]
                refine wpAnyH_take (i := 7) (v := ?_) (gatL (gatS (gatS (gatS (gatS (gatS (gatS (gatS gatZ)))))))) (by kernel_rfl) (by kernel_rfl) (by kernel_rfl) (fun _ _ _ h => h) (Or.inl ⟨by rfl, ?_⟩) (by assumption) ?_
                rotate_left
                · intro w hSw
                  try dsimp only at hSw
                  go_simp
                  all_goals with_reducible rfl
                try simp only [Act.put, List.setIfInBounds_toArray, List.set_cons_zero, List.set_cons_succ]
                refine wpAnyH_ready (rs := [8]) (by kernel_rfl) (by simp) ?_
                refine AllReadyH.cons (gatL (gatS (gatS (gatS (gatS (gatS (gatS (gatS (gatS gatZ))))))))) (fun K hK => ?_) AllReadyH.nil
                go_simp
                rw [hW13.out]
                refine hK.out _ _ ?_ (fun hHeld => ?_)
                · exact Hxc.out
                clear hK K
                try simp only [Act.put, List.setIfInBounds_toArray, List.set_cons_zero, List.set_cons_succ]
                refine wpAnyH_done (by kernel_rfl) ?_ _
                have hRes := HBr.out.below HM13.out.bel HBr.out.lt
                by_cases h2000 : all7.length ≤ 2000
                · have hgt : ¬ (2000 : Int) < (all7.length : Int) := by omega
                  have HN13 : Hid ((rs ++ [(⟨ml, a7, c7⟩ : MvD)]).length = i + 1 ∧ (ac ++ [A]).length = i + 1 ∧ (rs ++ [(⟨ml, a7, c7⟩ : MvD)]).map MvD.l = ms ++ [ml]) := Lib.hid ⟨by rw [List.length_append, HN.out.1]; rfl, by rw [List.length_append, HN.out.2.1]; rfl, by rw [List.map_append, HN.out.2.2]; rfl⟩
                  have HO14 : Hid (W13.ownsRow D 58 1 (.slice (some ⟨g8, 0, none⟩) (i + 1) c8) (i + 1) ((rs ++ [(⟨ml, a7, c7⟩ : MvD)]).map MvD.v)) := Lib.hid (by rw [List.map_append]; exact HO13.out)
                  have HA14 : Hid (W13.ownsRow D 3 1 (.slice (some ⟨gA, 0, none⟩) (i + 1) cA) (i + 1) ((ac ++ [A]).map (fun a => Value.int .i64 a))) := Lib.hid (by rw [List.map_append]; exact HA13.out)
                  clear hRes
                  go_wp2_with (fail)
                  exact ⟨⟨i + 1, all7, ms ++ [ml], ac ++ [A], cl7, cu7, bh7, sa7, sc7, rs ++ [⟨ml, a7, c7⟩], some ⟨g8, 0, none⟩, c8, some ⟨gA, 0, none⟩, cA, Hal9.out, h2000, by simp, HDBn, HM13, HI9, HN13, HD13, HO14, HOr13, HA14, HZ13⟩, by simp [intOf]; omega⟩
                · have hgt : (2000 : Int) < (all7.length : Int) := by omega
                  have r0 := hRes.cell 0
                  have r1 := hRes.cell 1
                  have rf := hRes.frozen
                  have rl := hRes.lt
                  have rs0 := (hRes.set 0 (.slice none 0 0)).set 1 (.slice none 0 0)
                  have rg := grownBy_trans (grownBy_set W13 (X + 1) 0 (.slice none 0 0)) (grownBy_set _ (X + 1) 1 (.slice none 0 0)) (fun i e => .inl e)
                  have HBl : Hid (Below w.heap.size w ((W13.setCell ⟨X + 1, 0, none⟩ (.slice none 0 0)).setCell ⟨X + 1, 1, none⟩ (.slice none 0 0))) := Lib.hid (((hb1.trans (Hb2.out.mono hb1.size)).trans (HM13.out.bel.mono (Nat.le_trans hb1.size Hb2.out.size))).grown rg (Nat.le_trans (Nat.le_trans hb1.size Hb2.out.size) HM13.out.bel.size) (fun g e => by injection e with e; rw [hX.out]; omega))
                  have q0 := rs0.cell 0
                  have q1 := rs0.cell 1
                  have HBu : Hid (BuiltD w ((W13.setCell ⟨X + 1, 0, none⟩ (.slice none 0 0)).setCell ⟨X + 1, 1, none⟩ (.slice none 0 0)) x n (.returned (.tuple #[.agg #[.slice none 0 0, .slice none 0 0], .int .i64 40]))) := Lib.hid ⟨L, hLn, hLs, hLe, hLl, hLd, i + 1, all7, ms ++ [ml], ac ++ [A], HDBn.out, HBl.out, .inl ⟨by omega, rfl⟩⟩
                  clear rg rs0 hRes
                  go_wp2_with (fail)
                  exact bodyPost_ret (v := .tuple #[.agg #[.slice none 0 0, .slice none 0 0], .int .i64 40]) (by simp [results, Try.results15, go_sem, q0, q1]; try first | rfl | assumption | omega) rfl ⟨fun h => (by rw [hq.out] at h; cases h), fun _ => HBu.out⟩
              ·
                go_simp
                refine hK.out _ _ ?_ (fun hHeld => ?_)
                · exact (Hxa _).out
                clear hK K
                try simp only [Act.put, List.setIfInBounds_toArray, List.set_cons_zero, List.set_cons_succ]
                refine wpAnyH_ready (rs := [1]) (by kernel_rfl) (by simp) ?_
                refine AllReadyH.cons (gatL (gatS gatZ)) (fun K hK => ?_) AllReadyH.nil
                go_simp
                refine hK.out _ _ ?_ (fun hHeld => ?_)
                · exact (Hxa _).out
                clear hK K
                try simp only [Act.put, List.setIfInBounds_toArray, List.set_cons_zero, List.set_cons_succ]
                refine wpAnyH_ready (rs := [6]) (by kernel_rfl) (by simp) ?_
                refine AllReadyH.cons (gatL (gatS (gatS (gatS (gatS (gatS (gatS gatZ))))))) (fun K hK => ?_) AllReadyH.nil
                refine step_append_run rfl _ _ 23 23 rfl _ _ _ _ rfl rfl HrunA.out ?_
                refine hK.out _ _ ?_ (fun hHeld => ?_)
                · exact Hxb.out
                clear hK K
                try simp only [Act.put, List.setIfInBounds_toArray, List.set_cons_zero, List.set_cons_succ]
                refine wpAnyH_take (i := 7) (v := ?_) (gatL (gatS (gatS (gatS (gatS (gatS (gatS (gatS gatZ)))))))) (by kernel_rfl) (by kernel_rfl) (by kernel_rfl) (fun _ _ _ h => h) (Or.inl ⟨by rfl, ?_⟩) (by assumption) ?_
                rotate_left
                · intro w hSw
                  try dsimp only at hSw
                  go_simp
                  all_goals with_reducible rfl
                try simp only [Act.put, List.setIfInBounds_toArray, List.set_cons_zero, List.set_cons_succ]
                refine wpAnyH_ready (rs := [8]) (by kernel_rfl) (by simp) ?_
                refine AllReadyH.cons (gatL (gatS (gatS (gatS (gatS (gatS (gatS (gatS (gatS gatZ))))))))) (fun K hK => ?_) AllReadyH.nil
                go_simp
                rw [hW13.out]
                refine hK.out _ _ ?_ (fun hHeld => ?_)
                · exact Hxc.out
                clear hK K
                try simp only [Act.put, List.setIfInBounds_toArray, List.set_cons_zero, List.set_cons_succ]
                refine wpAnyH_done (by kernel_rfl) ?_ _
                have hRes := HBr.out.below HM13.out.bel HBr.out.lt
                by_cases h2000 : all7.length ≤ 2000
                · have hgt : ¬ (2000 : Int) < (all7.length : Int) := by omega
                  have HN13 : Hid ((rs ++ [(⟨ml, a7, c7⟩ : MvD)]).length = i + 1 ∧ (ac ++ [A]).length = i + 1 ∧ (rs ++ [(⟨ml, a7, c7⟩ : MvD)]).map MvD.l = ms ++ [ml]) := Lib.hid ⟨by rw [List.length_append, HN.out.1]; rfl, by rw [List.length_append, HN.out.2.1]; rfl, by rw [List.map_append, HN.out.2.2]; rfl⟩
                  have HO14 : Hid (W13.ownsRow D 58 1 (.slice (some ⟨g8, 0, none⟩) (i + 1) c8) (i + 1) ((rs ++ [(⟨ml, a7, c7⟩ : MvD)]).map MvD.v)) := Lib.hid (by rw [List.map_append]; exact HO13.out)
                  have HA14 : Hid (W13.ownsRow D 3 1 (.slice (some ⟨gA, 0, none⟩) (i + 1) cA) (i + 1) ((ac ++ [A]).map (fun a => Value.int .i64 a))) := Lib.hid (by rw [List.map_append]; exact HA13.out)
                  clear hRes
                  go_wp2_with (fail)
                  exact ⟨⟨i + 1, all7, ms ++ [ml], ac ++ [A], cl7, cu7, bh7, sa7, sc7, rs ++ [⟨ml, a7, c7⟩], some ⟨g8, 0, none⟩, c8, some ⟨gA, 0, none⟩, cA, Hal9.out, h2000, by simp, HDBn, HM13, HI9, HN13, HD13, HO14, HOr13, HA14, HZ13⟩, by simp [intOf]; omega⟩
                · have hgt : (2000 : Int) < (all7.length : Int) := by omega
                  have r0 := hRes.cell 0
                  have r1 := hRes.cell 1
                  have rf := hRes.frozen
                  have rl := hRes.lt
                  have rs0 := (hRes.set 0 (.slice none 0 0)).set 1 (.slice none 0 0)
                  have rg := grownBy_trans (grownBy_set W13 (X + 1) 0 (.slice none 0 0)) (grownBy_set _ (X + 1) 1 (.slice none 0 0)) (fun i e => .inl e)
                  have HBl : Hid (Below w.heap.size w ((W13.setCell ⟨X + 1, 0, none⟩ (.slice none 0 0)).setCell ⟨X + 1, 1, none⟩ (.slice none 0 0))) := Lib.hid (((hb1.trans (Hb2.out.mono hb1.size)).trans (HM13.out.bel.mono (Nat.le_trans hb1.size Hb2.out.size))).grown rg (Nat.le_trans (Nat.le_trans hb1.size Hb2.out.size) HM13.out.bel.size) (fun g e => by injection e with e; rw [hX.out]; omega))
                  have q0 := rs0.cell 0
                  have q1 := rs0.cell 1
                  have HBu : Hid (BuiltD w ((W13.setCell ⟨X + 1, 0, none⟩ (.slice none 0 0)).setCell ⟨X + 1, 1, none⟩ (.slice none 0 0)) x n (.returned (.tuple #[.agg #[.slice none 0 0, .slice none 0 0], .int .i64 40]))) := Lib.hid ⟨L, hLn, hLs, hLe, hLl, hLd, i + 1, all7, ms ++ [ml], ac ++ [A], HDBn.out, HBl.out, .inl ⟨by omega, rfl⟩⟩
                  clear rg rs0 hRes
                  go_wp2_with (fail)
                  exact bodyPost_ret (v := .tuple #[.agg #[.slice none 0 0, .slice none 0 0], .int .i64 40]) (by simp [results, Try.results15, go_sem, q0, q1]; try first | rfl | assumption | omega) rfl ⟨fun h => (by rw [hq.out] at h; cases h), fun _ => HBu.out⟩
          ·
            go_simp
            refine hK.out _ _ ?_ (fun hHeld => ?_)
            · exact trivial
            clear hK K
            try simp only [Act.put, List.setIfInBounds_toArray, List.set_cons_zero, List.set_cons_succ]
            refine wpAnyH_ready (rs := [1]) (by kernel_rfl) (by simp) ?_
            refine AllReadyH.cons (gatL (gatS gatZ)) (fun K hK => ?_) AllReadyH.nil
            go_simp
            refine hK.out _ _ ?_ (fun hHeld => ?_)
            · exact trivial
            clear hK K
            try simp only [Act.put, List.setIfInBounds_toArray, List.set_cons_zero, List.set_cons_succ]
            refine wpAnyH_ready (rs := [5]) (by kernel_rfl) (by simp) ?_
            refine AllReadyH.cons (gatL (gatS (gatS (gatS (gatS (gatS gatZ)))))) (fun K hK => ?_) AllReadyH.nil
            refine step_append_run rfl _ _ 22 22 rfl _ _ _ _ rfl rfl Hrun.out ?_
            refine hK.out _ _ ?_ (fun hHeld => ?_)
            · exact trivial
            clear hK K
            try simp only [Act.put, List.setIfInBounds_toArray, List.set_cons_zero, List.set_cons_succ]
            refine wpAnyH_take (i := 6) (v := ?_) (gatL (gatS (gatS (gatS (gatS (gatS (gatS gatZ))))))) (by kernel_rfl) (by kernel_rfl) (by kernel_rfl) (fun _ _ _ h => h) (Or.inl ⟨by rfl, ?_⟩) (by assumption) ?_
            rotate_left
            · intro w hSw
              try dsimp only at hSw
              go_simp
              all_goals with_reducible rfl
            try simp only [Act.put, List.setIfInBounds_toArray, List.set_cons_zero, List.set_cons_succ]
            refine wpAnyH_ready (rs := [7]) (by kernel_rfl) (by simp) ?_
            refine AllReadyH.cons (gatL (gatS (gatS (gatS (gatS (gatS (gatS (gatS gatZ)))))))) (fun K hK => ?_) AllReadyH.nil
            go_simp
            refine hK.out _ _ ?_ (fun hHeld => ?_)
            · exact trivial
            clear hK K
            try simp only [Act.put, List.setIfInBounds_toArray, List.set_cons_zero, List.set_cons_succ]
            refine wpAnyH_done (by kernel_rfl) ?_ _
            rw [hW9.out]
            have hb9 : Below w1.heap.size w1 W9.drew := HM9.out.bel.drew
            have Hac := Lib.hid (accept_any W9.drew p.ea p.ec x.ends Sb 0 f1 (HX1.out.grown hb9).ends (link_ends3 hl.out) Hwd9.out)
            have hx9 := HBx.out.below hb9 HBx.out.lt
            have x2 := hx9.cell 2
            have hD9 := blkD HD9.out
            have d1 := hD9.cell 1
            have dl := hD9.lt
            have hA9 := own_grow HA9.out (Below.refl _ W9).drew
            have hO9 := own_grow HO9.out (Below.refl _ W9).drew
            obtain ⟨A, hAe⟩ : ∃ A, Hid (accW f1 x.ends 0 = A) := ⟨_, Lib.hid rfl⟩
            rw [hAe.out] at Hac
            have haac := ownW_le hA9
            obtain ⟨gA, cA, W12, hrunA, hoA, hgA, hliesA, hltA⟩ := run_pushL W9.drew 23 23 3 _ 1 8 Try.underlying23 info_intD rfl (by decide) [.int .i64 A] rfl (by intro u hu; simp only [List.mem_cons, List.not_mem_nil, or_false] at hu; rcases hu with rfl; rfl) hA9 (by omega) (by unfold maxLen; omega) (by have := HD9.out.lt; show D ≤ W9.heap.size; omega)
            have kA : ∀ {base e size n cap : Nat} {a : Option Addr} {xs : List Value}, W9.drew.ownsRow base e size (.slice a n cap) n xs → e ≠ 3 → W12.ownsRow base e size (.slice a n cap) n xs := fun ho hne => own_keptD ho hgA (fun k e1 e2 => own_ownT hA9 ho (fun e => hne e.symm) k e1 e2)
            have hD12 := hD9.kept hgA (own_Blk hA9 hD9 (by decide))
            have hM9d := HM9.out.below (Below.refl _ W9).drew
            have hM12 := hM9d.keep hgA (fun k e => ⟨by have := (own_typD hA9 k e).1; have := HD1.out.1; omega, fun e0 => own_ownT hA9 hM9d.sets (by decide) k e e0⟩)
            have hgE := grownBy_set W12 D 1 (.slice (some ⟨gA, 0, none⟩) (i + 1) cA)
            have kE : ∀ {base e size n cap : Nat} {a : Option Addr} {xs : List Value}, W12.ownsRow base e size (.slice a n cap) n xs → e ≠ 25 → (W12.setCell ⟨D, 1, none⟩ (.slice (some ⟨gA, 0, none⟩) (i + 1) cA)).ownsRow base e size (.slice a n cap) n xs := fun ho hne => own_keptD ho hgE (fun k e1 e2 => by injection e1 with e1; subst e1; exact own_Blk ho hD12 hne e2.symm)
            have HM13 := Lib.hid (hM12.keep hgE (fun k e => by injection e with e; subst e; exact ⟨HD1.out.1, fun e0 => own_Blk hM12.sets hD12 (by decide) e0.symm⟩))
            have HD13 : Hid (Blk (W12.setCell ⟨D, 1, none⟩ (.slice (some ⟨gA, 0, none⟩) (i + 1) cA)) D 25 [.slice (some ⟨g8, 0, none⟩) (i + 1) c8, .slice (some ⟨gA, 0, none⟩) (i + 1) cA]) := Lib.hid (hD12.set 1 (.slice (some ⟨gA, 0, none⟩) (i + 1) cA))
            have HO13 := Lib.hid (kE (kA hO9 (by decide)) (by decide))
            have HA13 := Lib.hid (kE hoA (by decide))
            have HOr13 : Hid (∀ r ∈ rs ++ [⟨ml, a7, c7⟩], OwnMv (W12.setCell ⟨D, 1, none⟩ (.slice (some ⟨gA, 0, none⟩) (i + 1) cA)) D r) := Lib.hid (fun r hr => kE (kA (own_grow (HOr9.out r hr) (Below.refl _ W9).drew) (by decide)) (by decide))
            obtain ⟨W13, hW13⟩ : ∃ W, Hid (W12.setCell ⟨D, 1, none⟩ (.slice (some ⟨gA, 0, none⟩) (i + 1) cA) = W) := ⟨_, Lib.hid rfl⟩
            rw [hW13.out] at HM13 HD13 HO13 HA13 HOr13
            have HZ13 : Hid (D < W13.heap.size) := Lib.hid HD13.out.lt
            have d1a : ∀ o, (W9.alloc o).cell? ⟨D, 1, none⟩ = some (.slice aa i ac2) := fun o => ((show Blk W9 D 25 _ from HD9.out).alloc o).cell 1
            have d1c : W12.cell? ⟨D, 1, none⟩ = some (.slice aa i ac2) := hD12.cell 1
            have d1f := hD12.frozen 1
            have dl12 := hD12.lt
            have Hx0 : Hid (W9.drew.cell? ⟨X, 2, none⟩ = some (.slice p.ea x.ends.length p.ec)) := Lib.hid x2
            have Hxa : ∀ o, Hid ((W9.drew.alloc o).cell? ⟨X, 2, none⟩ = some (.slice p.ea x.ends.length p.ec)) := fun o => Lib.hid ((hx9.alloc o).cell 2)
            have hx12 := HBx.out.below hM12.bel HBx.out.lt
            have Hxb : Hid (W12.cell? ⟨X, 2, none⟩ = some (.slice p.ea x.ends.length p.ec)) := Lib.hid (hx12.cell 2)
            have hx13 := HBx.out.below HM13.out.bel HBx.out.lt
            have Hxc : Hid (W13.cell? ⟨X, 2, none⟩ = some (.slice p.ea x.ends.length p.ec)) := Lib.hid (hx13.cell 2)
            have HrunA := Lib.hid hrunA
            have z6 := HM13.out.mkr.cell (j := 6) (by omega)
            simp only [mkG, Nat.reduceLT, if_true, List.getD_cons_zero, List.getD_cons_succ] at z6
            have zl := HM13.out.mkr.lt
            have zsc7 := ownW_le HM13.out.sets
            have HDBn : Hid (DB L.y L.lds n x.ends (i + 1) all7 (ms ++ [ml]) (ac ++ [A])) := Lib.hid (by have := HDB9.out; simp only [hf1.out, hAe.out] at this; exact this)
            clear x2 hD9 hA9 hO9 hrunA hoA hgA hliesA hltA kA hD12 hM9d hM12 hgE kE hx9 hx12 hx13 hb9
            go_wp2_with (fail)
            refine wp_region_held_drew (S := fun w' => w'.cell? ⟨X, 2, none⟩ = some (.slice p.ea x.ends.length p.ec)) (by kernel_rfl) ?_ (fun hHeld => ?_)
            · exact Hx0.out
            refine wpAnyH_take (i := 0) (v := ?_) (gatL gatZ) (by kernel_rfl) (by kernel_rfl) (by kernel_rfl) (fun _ _ _ h => h) (Or.inl ⟨by rfl, ?_⟩) (by assumption) ?_
            rotate_left
            · intro w hSw
              try dsimp only at hSw
              go_simp
              all_goals with_reducible rfl
            try simp only [Act.put, List.setIfInBounds_toArray, List.set_cons_zero, List.set_cons_succ]
            refine wpAnyH_take (i := 2) (v := ?_) (gatL (gatS (gatS gatZ))) (by kernel_rfl) (by kernel_rfl) (by kernel_rfl) (fun _ _ _ h => h) (Or.inl ⟨by rfl, ?_⟩) (by assumption) ?_
            rotate_left
            · intro w hSw
              try dsimp only at hSw
              go_simp
              all_goals with_reducible rfl
            try simp only [Act.put, List.setIfInBounds_toArray, List.set_cons_zero, List.set_cons_succ]
            refine wpAnyH_take (i := 3) (v := ?_) (gatL (gatS (gatS (gatS gatZ)))) (by kernel_rfl) (by kernel_rfl) (by kernel_rfl) (fun _ _ _ h => h) (Or.inl ⟨by rfl, ?_⟩) (by assumption) ?_
            rotate_left
            · intro w hSw
              try dsimp only at hSw
              go_simp
              all_goals with_reducible rfl
            try simp only [Act.put, List.setIfInBounds_toArray, List.set_cons_zero, List.set_cons_succ]
            refine wpAnyH_ready (rs := [1, 4]) (by kernel_rfl) (by simp) ?_
            refine AllReadyH.cons (gatL (gatS gatZ)) (fun K hK => ?_) (AllReadyH.cons (gatL (gatS (gatS (gatS (gatS gatZ))))) (fun K hK => ?_) (AllReadyH.nil))
            ·
              go_simp
              refine hK.out _ _ ?_ (fun hHeld => ?_)
              · exact Hx0.out
              clear hK K
              try simp only [Act.put, List.setIfInBounds_toArray, List.set_cons_zero, List.set_cons_succ]
              refine wpAnyH_ready (rs := [4]) (by kernel_rfl) (by simp) ?_
              refine AllReadyH.cons (gatL (gatS (gatS (gatS (gatS gatZ))))) (fun K hK => ?_) AllReadyH.nil
              go_simp
              go_at_call 34
              (with_reducible refine Hac.out.mono ?_)
              rintro e V10 ⟨rfl, hV10⟩
              subst V10
              try dsimp only
              refine hK.out _ _ ?_ (fun hHeld => ?_)
              · exact Hx0.out
              clear hK K
              try simp only [Act.put, List.setIfInBounds_toArray, List.set_cons_zero, List.set_cons_succ]
              refine wpAnyH_ready (rs := [5]) (by kernel_rfl) (by simp) ?_
              refine AllReadyH.cons (gatL (gatS (gatS (gatS (gatS (gatS gatZ)))))) (fun K hK => ?_) AllReadyH.nil
              go_simp
              refine hK.out _ _ ?_ (fun hHeld => ?_)
              · exact (Hxa _).out
              clear hK K
              try simp only [Act.put, List.setIfInBounds_toArray, List.set_cons_zero, List.set_cons_succ]
              refine wpAnyH_ready (rs := [6]) (by kernel_rfl) (by simp) ?_
              refine AllReadyH.cons (gatL (gatS (gatS (gatS (gatS (gatS (gatS gatZ))))))) (fun K hK => ?_) AllReadyH.nil
              refine step_append_run rfl _ _ 23 23 rfl _ _ _ _ rfl rfl HrunA.out ?_
              refine hK.out _ _ ?_ (fun hHeld => ?_)
              · exact Hxb.out
              clear hK K
              try simp only [Act.put, List.setIfInBounds_toArray, List.set_cons_zero, List.set_cons_succ]
              refine wpAnyH_take (i := 7) (v := ?_) (gatL (gatS (gatS (gatS (gatS (gatS (gatS (gatS gatZ)))))))) (by kernel_rfl) (by kernel_rfl) (by kernel_rfl) (fun _ _ _ h => h) (Or.inl ⟨by rfl, ?_⟩) (by assumption) ?_
              rotate_left
              · intro w hSw
                try dsimp only at hSw
                go_simp
                all_goals with_reducible rfl
              try simp only [Act.put, List.setIfInBounds_toArray, List.set_cons_zero, List.set_cons_succ]
              refine wpAnyH_ready (rs := [8]) (by kernel_rfl) (by simp) ?_
              refine AllReadyH.cons (gatL (gatS (gatS (gatS (gatS (gatS (gatS (gatS (gatS gatZ))))))))) (fun K hK => ?_) AllReadyH.nil
              go_simp
              rw [hW13.out]
              refine hK.out _ _ ?_ (fun hHeld => ?_)
              · exact Hxc.out
              clear hK K
              try simp only [Act.put, List.setIfInBounds_toArray, List.set_cons_zero, List.set_cons_succ]
              refine wpAnyH_done (by kernel_rfl) ?_ _
              have hRes := HBr.out.below HM13.out.bel HBr.out.lt
              by_cases h2000 : all7.length ≤ 2000
              · have hgt : ¬ (2000 : Int) < (all7.length : Int) := by omega
                have HN13 : Hid ((rs ++ [(⟨ml, a7, c7⟩ : MvD)]).length = i + 1 ∧ (ac ++ [A]).length = i + 1 ∧ (rs ++ [(⟨ml, a7, c7⟩ : MvD)]).map MvD.l = ms ++ [ml]) := Lib.hid ⟨by rw [List.length_append, HN.out.1]; rfl, by rw [List.length_append, HN.out.2.1]; rfl, by rw [List.map_append, HN.out.2.2]; rfl⟩
                have HO14 : Hid (W13.ownsRow D 58 1 (.slice (some ⟨g8, 0, none⟩) (i + 1) c8) (i + 1) ((rs ++ [(⟨ml, a7, c7⟩ : MvD)]).map MvD.v)) := Lib.hid (by rw [List.map_append]; exact HO13.out)
                have HA14 : Hid (W13.ownsRow D 3 1 (.slice (some ⟨gA, 0, none⟩) (i + 1) cA) (i + 1) ((ac ++ [A]).map (fun a => Value.int .i64 a))) := Lib.hid (by rw [List.map_append]; exact HA13.out)
                clear hRes
                go_wp2_with (fail)
                exact ⟨⟨i + 1, all7, ms ++ [ml], ac ++ [A], cl7, cu7, bh7, sa7, sc7, rs ++ [⟨ml, a7, c7⟩], some ⟨g8, 0, none⟩, c8, some ⟨gA, 0, none⟩, cA, Hal9.out, h2000, by simp, HDBn, HM13, HI9, HN13, HD13, HO14, HOr13, HA14, HZ13⟩, by simp [intOf]; omega⟩
              · have hgt : (2000 : Int) < (all7.length : Int) := by omega
                have r0 := hRes.cell 0
                have r1 := hRes.cell 1
                have rf := hRes.frozen
                have rl := hRes.lt
                have rs0 := (hRes.set 0 (.slice none 0 0)).set 1 (.slice none 0 0)
                have rg := grownBy_trans (grownBy_set W13 (X + 1) 0 (.slice none 0 0)) (grownBy_set _ (X + 1) 1 (.slice none 0 0)) (fun i e => .inl e)
                have HBl : Hid (Below w.heap.size w ((W13.setCell ⟨X + 1, 0, none⟩ (.slice none 0 0)).setCell ⟨X + 1, 1, none⟩ (.slice none 0 0))) := Lib.hid (((hb1.trans (Hb2.out.mono hb1.size)).trans (HM13.out.bel.mono (Nat.le_trans hb1.size Hb2.out.size))).grown rg (Nat.le_trans (Nat.le_trans hb1.size Hb2.out.size) HM13.out.bel.size) (fun g e => by injection e with e; rw [hX.out]; omega))
                have q0 := rs0.cell 0
                have q1 := rs0.cell 1
                have HBu : Hid (BuiltD w ((W13.setCell ⟨X + 1, 0, none⟩ (.slice none 0 0)).setCell ⟨X + 1, 1, none⟩ (.slice none 0 0)) x n (.returned (.tuple #[.agg #[.slice none 0 0, .slice none 0 0], .int .i64 40]))) := Lib.hid ⟨L, hLn, hLs, hLe, hLl, hLd, i + 1, all7, ms ++ [ml], ac ++ [A], HDBn.out, HBl.out, .inl ⟨by omega, rfl⟩⟩
                clear rg rs0 hRes
                go_wp2_with (fail)
                exact bodyPost_ret (v := .tuple #[.agg #[.slice none 0 0, .slice none 0 0], .int .i64 40]) (by simp [results, Try.results15, go_sem, q0, q1]; try first | rfl | assumption | omega) rfl ⟨fun h => (by rw [hq.out] at h; cases h), fun _ => HBu.out⟩
            ·
              go_simp
              go_at_call 34
              (with_reducible refine Hac.out.mono ?_)
              rintro e V10 ⟨rfl, hV10⟩
              subst V10
              try dsimp only
              refine hK.out _ _ ?_ (fun hHeld => ?_)
              · exact Hx0.out
              clear hK K
              try simp only [Act.put, List.setIfInBounds_toArray, List.set_cons_zero, List.set_cons_succ]
              refine wpAnyH_ready (rs := [1, 5]) (by kernel_rfl) (by simp) ?_
              refine AllReadyH.cons (gatL (gatS gatZ)) (fun K hK => ?_) (AllReadyH.cons (gatL (gatS (gatS (gatS (gatS (gatS gatZ)))))) (fun K hK => ?_) (AllReadyH.nil))
              ·
                go_simp
                refine hK.out _ _ ?_ (fun hHeld => ?_)
                · exact Hx0.out
                clear hK K
                try simp only [Act.put, List.setIfInBounds_toArray, List.set_cons_zero, List.set_cons_succ]
                refine wpAnyH_ready (rs := [5]) (by kernel_rfl) (by simp) ?_
                refine AllReadyH.cons (gatL (gatS (gatS (gatS (gatS (gatS gatZ)))))) (fun K hK => ?_) AllReadyH.nil
                go_simp
                refine hK.out _ _ ?_ (fun hHeld => ?_)
                · exact (Hxa _).out
                clear hK K
                try simp only [Act.put, List.setIfInBounds_toArray, List.set_cons_zero, List.set_cons_succ]
                refine wpAnyH_ready (rs := [6]) (by kernel_rfl) (by simp) ?_
                refine AllReadyH.cons (gatL (gatS (gatS (gatS (gatS (gatS (gatS gatZ))))))) (fun K hK => ?_) AllReadyH.nil
                refine step_append_run rfl _ _ 23 23 rfl _ _ _ _ rfl rfl HrunA.out ?_
                refine hK.out _ _ ?_ (fun hHeld => ?_)
                · exact Hxb.out
                clear hK K
                try simp only [Act.put, List.setIfInBounds_toArray, List.set_cons_zero, List.set_cons_succ]
                refine wpAnyH_take (i := 7) (v := ?_) (gatL (gatS (gatS (gatS (gatS (gatS (gatS (gatS gatZ)))))))) (by kernel_rfl) (by kernel_rfl) (by kernel_rfl) (fun _ _ _ h => h) (Or.inl ⟨by rfl, ?_⟩) (by assumption) ?_
                rotate_left
                · intro w hSw
                  try dsimp only at hSw
                  go_simp
                  all_goals with_reducible rfl
                try simp only [Act.put, List.setIfInBounds_toArray, List.set_cons_zero, List.set_cons_succ]
                refine wpAnyH_ready (rs := [8]) (by kernel_rfl) (by simp) ?_
                refine AllReadyH.cons (gatL (gatS (gatS (gatS (gatS (gatS (gatS (gatS (gatS gatZ))))))))) (fun K hK => ?_) AllReadyH.nil
                go_simp
                rw [hW13.out]
                refine hK.out _ _ ?_ (fun hHeld => ?_)
                · exact Hxc.out
                clear hK K
                try simp only [Act.put, List.setIfInBounds_toArray, List.set_cons_zero, List.set_cons_succ]
                refine wpAnyH_done (by kernel_rfl) ?_ _
                have hRes := HBr.out.below HM13.out.bel HBr.out.lt
                by_cases h2000 : all7.length ≤ 2000
                · have hgt : ¬ (2000 : Int) < (all7.length : Int) := by omega
                  have HN13 : Hid ((rs ++ [(⟨ml, a7, c7⟩ : MvD)]).length = i + 1 ∧ (ac ++ [A]).length = i + 1 ∧ (rs ++ [(⟨ml, a7, c7⟩ : MvD)]).map MvD.l = ms ++ [ml]) := Lib.hid ⟨by rw [List.length_append, HN.out.1]; rfl, by rw [List.length_append, HN.out.2.1]; rfl, by rw [List.map_append, HN.out.2.2]; rfl⟩
                  have HO14 : Hid (W13.ownsRow D 58 1 (.slice (some ⟨g8, 0, none⟩) (i + 1) c8) (i + 1) ((rs ++ [(⟨ml, a7, c7⟩ : MvD)]).map MvD.v)) := Lib.hid (by rw [List.map_append]; exact HO13.out)
                  have HA14 : Hid (W13.ownsRow D 3 1 (.slice (some ⟨gA, 0, none⟩) (i + 1) cA) (i + 1) ((ac ++ [A]).map (fun a => Value.int .i64 a))) := Lib.hid (by rw [List.map_append]; exact HA13.out)
                  clear hRes
                  go_wp2_with (fail)
                  exact ⟨⟨i + 1, all7, ms ++ [ml], ac ++ [A], cl7, cu7, bh7, sa7, sc7, rs ++ [⟨ml, a7, c7⟩], some ⟨g8, 0, none⟩, c8, some ⟨gA, 0, none⟩, cA, Hal9.out, h2000, by simp, HDBn, HM13, HI9, HN13, HD13, HO14, HOr13, HA14, HZ13⟩, by simp [intOf]; omega⟩
                · have hgt : (2000 : Int) < (all7.length : Int) := by omega
                  have r0 := hRes.cell 0
                  have r1 := hRes.cell 1
                  have rf := hRes.frozen
                  have rl := hRes.lt
                  have rs0 := (hRes.set 0 (.slice none 0 0)).set 1 (.slice none 0 0)
                  have rg := grownBy_trans (grownBy_set W13 (X + 1) 0 (.slice none 0 0)) (grownBy_set _ (X + 1) 1 (.slice none 0 0)) (fun i e => .inl e)
                  have HBl : Hid (Below w.heap.size w ((W13.setCell ⟨X + 1, 0, none⟩ (.slice none 0 0)).setCell ⟨X + 1, 1, none⟩ (.slice none 0 0))) := Lib.hid (((hb1.trans (Hb2.out.mono hb1.size)).trans (HM13.out.bel.mono (Nat.le_trans hb1.size Hb2.out.size))).grown rg (Nat.le_trans (Nat.le_trans hb1.size Hb2.out.size) HM13.out.bel.size) (fun g e => by injection e with e; rw [hX.out]; omega))
                  have q0 := rs0.cell 0
                  have q1 := rs0.cell 1
                  have HBu : Hid (BuiltD w ((W13.setCell ⟨X + 1, 0, none⟩ (.slice none 0 0)).setCell ⟨X + 1, 1, none⟩ (.slice none 0 0)) x n (.returned (.tuple #[.agg #[.slice none 0 0, .slice none 0 0], .int .i64 40]))) := Lib.hid ⟨L, hLn, hLs, hLe, hLl, hLd, i + 1, all7, ms ++ [ml], ac ++ [A], HDBn.out, HBl.out, .inl ⟨by omega, rfl⟩⟩
                  clear rg rs0 hRes
                  go_wp2_with (fail)
                  exact bodyPost_ret (v := .tuple #[.agg #[.slice none 0 0, .slice none 0 0], .int .i64 40]) (by simp [results, Try.results15, go_sem, q0, q1]; try first | rfl | assumption | omega) rfl ⟨fun h => (by rw [hq.out] at h; cases h), fun _ => HBu.out⟩
              ·
                go_simp
                refine hK.out _ _ ?_ (fun hHeld => ?_)
                · exact (Hxa _).out
                clear hK K
                try simp only [Act.put, List.setIfInBounds_toArray, List.set_cons_zero, List.set_cons_succ]
                refine wpAnyH_ready (rs := [1]) (by kernel_rfl) (by simp) ?_
                refine AllReadyH.cons (gatL (gatS gatZ)) (fun K hK => ?_) AllReadyH.nil
                go_simp
                refine hK.out _ _ ?_ (fun hHeld => ?_)
                · exact (Hxa _).out
                clear hK K
                try simp only [Act.put, List.setIfInBounds_toArray, List.set_cons_zero, List.set_cons_succ]
                refine wpAnyH_ready (rs := [6]) (by kernel_rfl) (by simp) ?_
                refine AllReadyH.cons (gatL (gatS (gatS (gatS (gatS (gatS (gatS gatZ))))))) (fun K hK => ?_) AllReadyH.nil
                refine step_append_run rfl _ _ 23 23 rfl _ _ _ _ rfl rfl HrunA.out ?_
                refine hK.out _ _ ?_ (fun hHeld => ?_)
                · exact Hxb.out
                clear hK K
                try simp only [Act.put, List.setIfInBounds_toArray, List.set_cons_zero, List.set_cons_succ]
                refine wpAnyH_take (i := 7) (v := ?_) (gatL (gatS (gatS (gatS (gatS (gatS (gatS (gatS gatZ)))))))) (by kernel_rfl) (by kernel_rfl) (by kernel_rfl) (fun _ _ _ h => h) (Or.inl ⟨by rfl, ?_⟩) (by assumption) ?_
                rotate_left
                · intro w hSw
                  try dsimp only at hSw
                  go_simp
                  all_goals with_reducible rfl
                try simp only [Act.put, List.setIfInBounds_toArray, List.set_cons_zero, List.set_cons_succ]
                refine wpAnyH_ready (rs := [8]) (by kernel_rfl) (by simp) ?_
                refine AllReadyH.cons (gatL (gatS (gatS (gatS (gatS (gatS (gatS (gatS (gatS gatZ))))))))) (fun K hK => ?_) AllReadyH.nil
                go_simp
                rw [hW13.out]
                refine hK.out _ _ ?_ (fun hHeld => ?_)
                · exact Hxc.out
                clear hK K
                try simp only [Act.put, List.setIfInBounds_toArray, List.set_cons_zero, List.set_cons_succ]
                refine wpAnyH_done (by kernel_rfl) ?_ _
                have hRes := HBr.out.below HM13.out.bel HBr.out.lt
                by_cases h2000 : all7.length ≤ 2000
                · have hgt : ¬ (2000 : Int) < (all7.length : Int) := by omega
                  have HN13 : Hid ((rs ++ [(⟨ml, a7, c7⟩ : MvD)]).length = i + 1 ∧ (ac ++ [A]).length = i + 1 ∧ (rs ++ [(⟨ml, a7, c7⟩ : MvD)]).map MvD.l = ms ++ [ml]) := Lib.hid ⟨by rw [List.length_append, HN.out.1]; rfl, by rw [List.length_append, HN.out.2.1]; rfl, by rw [List.map_append, HN.out.2.2]; rfl⟩
                  have HO14 : Hid (W13.ownsRow D 58 1 (.slice (some ⟨g8, 0, none⟩) (i + 1) c8) (i + 1) ((rs ++ [(⟨ml, a7, c7⟩ : MvD)]).map MvD.v)) := Lib.hid (by rw [List.map_append]; exact HO13.out)
                  have HA14 : Hid (W13.ownsRow D 3 1 (.slice (some ⟨gA, 0, none⟩) (i + 1) cA) (i + 1) ((ac ++ [A]).map (fun a => Value.int .i64 a))) := Lib.hid (by rw [List.map_append]; exact HA13.out)
                  clear hRes
                  go_wp2_with (fail)
                  exact ⟨⟨i + 1, all7, ms ++ [ml], ac ++ [A], cl7, cu7, bh7, sa7, sc7, rs ++ [⟨ml, a7, c7⟩], some ⟨g8, 0, none⟩, c8, some ⟨gA, 0, none⟩, cA, Hal9.out, h2000, by simp, HDBn, HM13, HI9, HN13, HD13, HO14, HOr13, HA14, HZ13⟩, by simp [intOf]; omega⟩
                · have hgt : (2000 : Int) < (all7.length : Int) := by omega
                  have r0 := hRes.cell 0
                  have r1 := hRes.cell 1
                  have rf := hRes.frozen
                  have rl := hRes.lt
                  have rs0 := (hRes.set 0 (.slice none 0 0)).set 1 (.slice none 0 0)
                  have rg := grownBy_trans (grownBy_set W13 (X + 1) 0 (.slice none 0 0)) (grownBy_set _ (X + 1) 1 (.slice none 0 0)) (fun i e => .inl e)
                  have HBl : Hid (Below w.heap.size w ((W13.setCell ⟨X + 1, 0, none⟩ (.slice none 0 0)).setCell ⟨X + 1, 1, none⟩ (.slice none 0 0))) := Lib.hid (((hb1.trans (Hb2.out.mono hb1.size)).trans (HM13.out.bel.mono (Nat.le_trans hb1.size Hb2.out.size))).grown rg (Nat.le_trans (Nat.le_trans hb1.size Hb2.out.size) HM13.out.bel.size) (fun g e => by injection e with e; rw [hX.out]; omega))
                  have q0 := rs0.cell 0
                  have q1 := rs0.cell 1
                  have HBu : Hid (BuiltD w ((W13.setCell ⟨X + 1, 0, none⟩ (.slice none 0 0)).setCell ⟨X + 1, 1, none⟩ (.slice none 0 0)) x n (.returned (.tuple #[.agg #[.slice none 0 0, .slice none 0 0], .int .i64 40]))) := Lib.hid ⟨L, hLn, hLs, hLe, hLl, hLd, i + 1, all7, ms ++ [ml], ac ++ [A], HDBn.out, HBl.out, .inl ⟨by omega, rfl⟩⟩
                  clear rg rs0 hRes
                  go_wp2_with (fail)
                  exact bodyPost_ret (v := .tuple #[.agg #[.slice none 0 0, .slice none 0 0], .int .i64 40]) (by simp [results, Try.results15, go_sem, q0, q1]; try first | rfl | assumption | omega) rfl ⟨fun h => (by rw [hq.out] at h; cases h), fun _ => HBu.out⟩
      · obtain rfl : all.length = i := by omega
        have hltI : ¬ (all.length : Int) < (all.length : Int) := by omega
        have hRes := HBr.out.below HM.out.bel HBr.out.lt
        have r0 := hRes.cell 0
        have r1 := hRes.cell 1
        have rf := hRes.frozen
        have rl := hRes.lt
        have e0 := HBD.out.cell 0
        have e1 := HBD.out.cell 1
        have el := HBD.out.lt
        have rs0 := (hRes.set 0 (.slice ma all.length mc)).set 1 (.slice aa all.length ac2)
        have rg := grownBy_trans (grownBy_set wr (X + 1) 0 (.slice ma all.length mc)) (grownBy_set _ (X + 1) 1 (.slice aa all.length ac2)) (fun i e => .inl e)
        have HBl : Hid (Below w.heap.size w ((wr.setCell ⟨X + 1, 0, none⟩ (.slice ma all.length mc)).setCell ⟨X + 1, 1, none⟩ (.slice aa all.length ac2))) := Lib.hid (((hb1.trans (Hb2.out.mono hb1.size)).trans (HM.out.bel.mono (Nat.le_trans hb1.size Hb2.out.size))).grown rg (Nat.le_trans (Nat.le_trans hb1.size Hb2.out.size) HM.out.bel.size) (fun g e => by injection e with e; rw [hX.out]; omega))
        have q0 := rs0.cell 0
        have q1 := rs0.cell 1
        have kX : ∀ {base e size n cap : Nat} {a : Option Addr} {xs : List Value}, D ≤ base → wr.ownsRow base e size (.slice a n cap) n xs → ((wr.setCell ⟨X + 1, 0, none⟩ (.slice ma all.length mc)).setCell ⟨X + 1, 1, none⟩ (.slice aa all.length ac2)).ownsRow base e size (.slice a n cap) n xs := fun hb ho => own_keptD ho rg (fun k e1 e2 => by
          injection e1 with e1
          have := (own_typD ho k e2).1
          have := HD1.out.2
          omega)
        have hmsl : ms.length = all.length := by rw [← HN.out.2.2, List.length_map, HN.out.1]
        have hdf : DfAt ((wr.setCell ⟨X + 1, 0, none⟩ (.slice ma all.length mc)).setCell ⟨X + 1, 1, none⟩ (.slice aa all.length ac2)) ⟨ms, ac⟩ ⟨rs, ma, mc, aa, ac2⟩ := ⟨mrs_own (by rw [HN.out.1]; exact kX (Nat.le_refl _) HO.out) (fun r hr => kX (Nat.le_refl _) (HOr.out r hr)) (fun r hr m hm => db_small HDB.out r.l (by rw [← HN.out.2.2]; exact List.mem_map.2 ⟨r, hr, rfl⟩) m hm), HN.out.2.2, ints_own (by rw [HN.out.2.1]; exact kX (Nat.le_refl _) HA.out)⟩
        have HBu : Hid (BuiltD w ((wr.setCell ⟨X + 1, 0, none⟩ (.slice ma all.length mc)).setCell ⟨X + 1, 1, none⟩ (.slice aa all.length ac2)) x n (.returned (.tuple #[.agg #[.slice ma all.length mc, .slice aa all.length ac2], .int .i64 0]))) := Lib.hid ⟨L, hLn, hLs, hLe, hLl, hLd, all.length, all, ms, ac, HDB.out, HBl.out, .inr ⟨rfl, hal, hmsl, HN.out.2.1, ⟨rs, ma, mc, aa, ac2⟩, hdf, by rw [hmsl, HN.out.2.1]⟩⟩
        clear rg rs0 hRes hdf kX
        go_wp2_with (fail)
        exact bodyPost_ret (v := .tuple #[.agg #[.slice ma all.length mc, .slice aa all.length ac2], .int .i64 0]) (by simp [results, Try.results15, go_sem, q0, q1]; try first | rfl | assumption | omega) rfl ⟨fun h => (by rw [hq.out] at h; cases h), fun _ => HBu.out⟩
end Go.Proofs.Ytngbfjimmdkfeaa

