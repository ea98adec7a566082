/- Layer 7: grammar.Parse. -/
import Derived.Test.YtoaabfdilhbajaaXl
namespace Go.Proofs.Ytoaabfdilhbajaa
open Go.RowKit Go.Shelf

attribute [local go_sem] Oper.semAt_some

theorem wrdsF_len : ∀ (n : Nat) (s : ByteArray) (k : Nat), (wrdsF n s k).length ≤ n
  | 0, _, _ => Nat.le_refl _
  | n + 1, s, k => by
    rw [wrdsF]
    split
    · have := wrdsF_len n s (k + wrdL (s.data.toList.drop k) + blkL false (s.data.toList.drop (k + wrdL (s.data.toList.drop k))))
      simp only [List.length_cons]; omega
    · simp
set_option maxRecDepth 100000 in
set_option maxHeartbeats 1000000 in
theorem words_any (s : ByteArray) (w : World) :
    Calls Try.prog 29 #[.string s] w fun e w' => e = .returned (.func (.func 39) #[] #[.pointer (some ⟨w.heap.size, 0, none⟩)]) ∧ w' = w.alloc (.cells #[.string s] 9) := by
  go_enter Try.func29, Try.ntmps29
  go_wp2_with (fail)
  exact bodyPost_ret (v := .func (.func 39) #[] #[.pointer (some ⟨w.heap.size, 0, none⟩)]) (by simp [results, Try.results29, go_sem]) rfl ⟨rfl, rfl⟩
/-- Between two rounds: what was read so far. -/
def ParI (w : World) (B : Nat) (pre : List (Nat × ByteArray)) (W : World) : Prop :=
  Below w.heap.size w W ∧ Blk W w.heap.size 24 [.slice none 0 0] ∧ Blk W (w.heap.size + 1) 3 [.int .i64 0] ∧ Blk W (w.heap.size + 1 + 1) 27 [.int .i64 0] ∧
    ∃ rs place ra rc, RdAt W B (w.heap.size + 1 + 1 + 1) rs place ra rc ∧ RdOk rs place pre.length ∧ foldP ⟨[], 0⟩ pre = .ok ⟨grP rs, place⟩
/-- Behind a word that does not go. -/
def ParX (w : World) (pre : List (Nat × ByteArray)) (W : World) : Prop :=
  Below w.heap.size w W ∧ Blk W w.heap.size 24 [.slice none 0 0] ∧ Blk W (w.heap.size + 1 + 1) 27 [.int .i64 70] ∧ ∃ n : Nat, Blk W (w.heap.size + 1) 3 [.int .i64 (n : Int)] ∧ foldP ⟨[], 0⟩ pre = .error n
theorem blk_nc {w w' : World} {b : Nat} {e : TypeId} {cs : List Value} {row : Option Nat} (h : Blk w b e cs) (hg : w.grownBy w' row) (hr : ∀ r, row = some r → ∃ o, w.heap[r]? = some o ∧ o.isCells = false) : Blk w' b e cs :=
  h.kept hg (fun e0 => by
    obtain ⟨o, ho, hc⟩ := hr b e0.symm
    rw [show w.heap[b]? = _ from h] at ho
    cases ho
    cases hc)
theorem parI_nc {w : World} {B : Nat} {pre : List (Nat × ByteArray)} {W W' : World} {row : Option Nat} (h : ParI w B pre W) (hB : w.heap.size ≤ B) (hg : W.grownBy W' row) (hr : ∀ r, row = some r → B ≤ r ∧ ∃ o, W.heap[r]? = some o ∧ o.isCells = false) : ParI w B pre W' := by
  obtain ⟨h1, h2, h3, h4, rs, place, ra, rc, h5, h6, h7⟩ := h
  have hr2 := fun r e => (hr r e).2
  exact ⟨h1.grown hg h1.size (fun k e => Nat.le_trans hB (hr k e).1), blk_nc h2 hg hr2, blk_nc h3 hg hr2, blk_nc h4 hg hr2, rs, place, ra, rc, h5.nc hg hr2, h6, h7⟩
theorem parI_bears (w : World) (B : Nat) (hB : w.heap.size ≤ B) : Bears B (fun _ => false) (ParI w B) := by
  intro pre W W' row h hg hr
  refine parI_nc h hB hg (fun r e => ⟨(hr r e).1, ?_⟩)
  obtain ⟨o, ho, hc⟩ := (hr r e).2
  rcases hc with hc | ⟨_, _, _, _, hc⟩
  · exact ⟨o, ho, hc⟩
  · cases hc
theorem parX_bears (w : World) (B : Nat) (hB : w.heap.size ≤ B) : Bears B (fun _ => false) (ParX w) := by
  intro pre W W' row h hg hr
  have hr2 : ∀ r, row = some r → ∃ o, W.heap[r]? = some o ∧ o.isCells = false := fun r e => by
    obtain ⟨o, ho, hc⟩ := (hr r e).2
    rcases hc with hc | ⟨_, _, _, _, hc⟩
    · exact ⟨o, ho, hc⟩
    · cases hc
  obtain ⟨h1, h2, h3, n, h4, h5⟩ := h
  exact ⟨h1.grown hg h1.size (fun k e => Nat.le_trans hB (hr k e).1), blk_nc h2 hg hr2, blk_nc h3 hg hr2, n, blk_nc h4 hg hr2, h5⟩

theorem RdAt.oth {w w' : World} {B rb place rc : Nat} {rs : List RlD} {ra : Option Addr} {row : Option Nat} (h : RdAt w B rb rs place ra rc) (hg : w.grownBy w' row) (hrow : ∀ g, row = some g → ∃ cur t fr, w.heap[g]? = some (.cells cur t fr) ∧ (9 ≠ t ∧ 37 ≠ t) ∧ 40 ≠ t ∧ 55 ≠ t) : RdAt w' B rb rs place ra rc := by
  have ho : Oth w row := fun g e => by obtain ⟨c, t, f, h1, h2, _⟩ := hrow g e; exact ⟨c, t, f, h1, h2.1, h2.2⟩
  refine ⟨h.box.kept hg (fun e => ?_), Nat.le_trans h.bl hg.size, own_kept_ty h.row hg (fun g e => by obtain ⟨c, t, f, h1, _, h2, _⟩ := hrow g e; exact ⟨c, t, f, h1, h2⟩), h.last.imp id ?_⟩
  · obtain ⟨c, t, f, h1, _, _, h2⟩ := hrow rb e.symm
    rw [h.box_heap] at h1
    cases h1
    exact h2 rfl
  · rintro ⟨m1, m2, qs, r, h1, h2, h3, h4, h5, h6⟩
    exact ⟨m1, m2, qs, r, h1, h2, Nat.le_trans h3 hg.size, h4, fun q hq => (h5 q hq).oth hg ho, h6.oth hg ho⟩
/-- The result's three cells are written. -/
structure Out (w W : World) (g : Value) (n e : Int) : Prop where
  b : Below w.heap.size w W
  k2 : Blk W w.heap.size 24 [g]
  k3 : Blk W (w.heap.size + 1) 3 [.int .i64 n]
  k4 : Blk W (w.heap.size + 1 + 1) 27 [.int .i64 e]
theorem Out.set {w W : World} {g g' : Value} {n e n' e' : Int} (h : Out w W g n e) : Out w (((W.setCell ⟨w.heap.size, 0, none⟩ g').setCell ⟨w.heap.size + 1, 0, none⟩ (.int .i64 n')).setCell ⟨w.heap.size + 1 + 1, 0, none⟩ (.int .i64 e')) g' n' e' :=
  ⟨((h.b.setCell (p := ⟨w.heap.size, 0, none⟩) (Nat.le_refl _) _).setCell (p := ⟨w.heap.size + 1, 0, none⟩) (by simp) _).setCell (p := ⟨w.heap.size + 1 + 1, 0, none⟩) (by simp; omega) _,
   ((h.k2.set 0 g').setOther (b' := w.heap.size + 1) (j := 0) (by omega) _).setOther (b' := w.heap.size + 1 + 1) (j := 0) (by omega) _,
   ((h.k3.setOther (b' := w.heap.size) (j := 0) (by omega) _).set 0 _).setOther (b' := w.heap.size + 1 + 1) (j := 0) (by omega) _,
   ((h.k4.setOther (b' := w.heap.size) (j := 0) (by omega) _).setOther (b' := w.heap.size + 1) (j := 0) (by omega) _).set 0 _⟩
theorem RdAt.out {w W : World} {g : Value} {n e : Int} {B rb place rc : Nat} {rs : List RlD} {ra : Option Addr} (h : RdAt W B rb rs place ra rc) (ho : Out w W g n e) (g' : Value) (n' e' : Int) : RdAt (((W.setCell ⟨w.heap.size, 0, none⟩ g').setCell ⟨w.heap.size + 1, 0, none⟩ (.int .i64 n')).setCell ⟨w.heap.size + 1 + 1, 0, none⟩ (.int .i64 e')) B rb rs place ra rc := by
  have q1 := h.oth (grownBy_set W w.heap.size 0 g') (fun g e => by cases e; exact ⟨_, _, _, ho.k2, ⟨by decide, by decide⟩, by decide, by decide⟩)
  have b3 := ho.k3.setOther (b' := w.heap.size) (j := 0) (by omega) g'
  have q2 := q1.oth (grownBy_set _ (w.heap.size + 1) 0 (.int .i64 n')) (fun g e => by cases e; exact ⟨_, _, _, b3, ⟨by decide, by decide⟩, by decide, by decide⟩)
  have b4 := (ho.k4.setOther (b' := w.heap.size) (j := 0) (by omega) g').setOther (b' := w.heap.size + 1) (j := 0) (by omega) (.int .i64 n')
  exact q2.oth (grownBy_set _ (w.heap.size + 1 + 1) 0 (.int .i64 e')) (fun g e => by cases e; exact ⟨_, _, _, b4, ⟨by decide, by decide⟩, by decide, by decide⟩)
theorem def_kept {W : World} {D b1 b2 b3 : Nat} {v1 v2 v3 : Value} {o : Obj} (h : W.heap[D]? = some o) (ho : o.isCells = false) : (((W.setCell ⟨b1, 0, none⟩ v1).setCell ⟨b2, 0, none⟩ v2).setCell ⟨b3, 0, none⟩ v3).heap[D]? = some o :=
  (((KeepsOthers.setCell W ⟨b1, 0, none⟩ v1).trans (KeepsOthers.setCell _ ⟨b2, 0, none⟩ v2)).trans (KeepsOthers.setCell _ ⟨b3, 0, none⟩ v3)).same D o h ho

set_option maxRecDepth 100000 in
set_option maxHeartbeats 1000000 in
theorem parse_any (s : ByteArray) (w : World) : Calls Try.prog 16 #[.string s] w (PaQ w (parseP s)) := by
  by_cases hbig : 4096 < s.size
  · have hI : (4096 : Int) < (s.size : Int) := by omega
    have HP : Hid (parseP s = ([], 0, 2)) := Lib.hid (by unfold parseP; rw [if_pos hbig])
    rw [HP.out]
    have HO2 : Hid (Out w (((w.alloc (.cells #[.slice none 0 0] 24)).alloc (.cells #[.int .i64 0] 3)).alloc (.cells #[.int .i64 2] 27)) (.slice none 0 0) 0 2) := Lib.hid ⟨((((Below.refl _ w).alloc (Nat.le_refl _) _).alloc (by simp) _).alloc (by simp; omega) _), ((Blk.new w 24 #[.slice none 0 0]).alloc _).alloc _, by
      have := Blk.new (w.alloc (.cells #[.slice none 0 0] 24)) 3 #[.int .i64 0]
      rw [World.size_alloc] at this
      exact this.alloc _, by
      have := Blk.new ((w.alloc (.cells #[.slice none 0 0] 24)).alloc (.cells #[.int .i64 0] 3)) 27 #[.int .i64 2]
      rw [World.size_alloc, World.size_alloc] at this
      exact this⟩
    go_enter Try.func16, Try.ntmps16
    go_wp2_with (fail)
    generalize ((w.alloc (.cells #[.slice none 0 0] 24)).alloc (.cells #[.int .i64 0] 3)).alloc (.cells #[.int .i64 2] 27) = W5 at HO2 ⊢
    have y2 := HO2.out.k2.cell 0
    have y3 := HO2.out.k3.cell 0
    have y4 := HO2.out.k4.cell 0
    simp only [List.getElem?_cons_zero] at y2 y3 y4
    exact bodyPost_ret (v := .tuple #[.agg #[.slice none 0 0], .int .i64 0, .int .i64 2]) (by simp [results, Try.results16, go_sem, y2, y3, y4]) rfl ⟨[], none, 0, rfl, rfl, Rls.nil _, HO2.out.b⟩
  have hI : ¬ (4096 : Int) < (s.size : Int) := by omega
  have HP : Hid (parseP s = parseT s.size (foldP ⟨[], 0⟩ (wordsP s))) := Lib.hid (by unfold parseP; rw [if_neg hbig])
  obtain ⟨R, hR⟩ : ∃ R, Hid (parseP s = R) := ⟨_, Lib.hid rfl⟩
  rw [hR.out] at HP ⊢
  have HW := Lib.hid (wrdsF_len s.size s (blkL false s.data.toList))
  refine (callsIn_wide (n := 0)).1 ?_
  refine callsIn_of_wp_marks Try.func16 rfl trivial ?_ rfl
  simp only [Try.ntmps16, List.size_toArray, List.length_cons, List.length_nil, Nat.reduceAdd, Nat.reduceSub, Array.replicate_succ, Array.replicate_zero, List.push_toArray, List.append_toArray, List.nil_append, List.cons_append]
  gi_wp2_with (fail)
  refine ⟨trivial, rfl, ((callsIn_wide (n := 0)).2 (words_any s _)).mono ?_⟩
  rintro e w' ⟨rfl, rfl⟩
  gi_wp2_with (fail)
  have hbel : Below w.heap.size w (((((w.alloc (.cells #[.slice none 0 0] 24)).alloc (.cells #[.int .i64 0] 3)).alloc (.cells #[.int .i64 0] 27)).alloc (.cells #[.slice none 0 0, .int .i64 0] 55)).alloc (.cells #[.string s] 9)) := (((((Below.refl _ w).alloc (Nat.le_refl _) _).alloc (by simp) _).alloc (by simp; omega) _).alloc (by simp; omega) _).alloc (by simp; omega) _
  have hb0 : Blk (((((w.alloc (.cells #[.slice none 0 0] 24)).alloc (.cells #[.int .i64 0] 3)).alloc (.cells #[.int .i64 0] 27)).alloc (.cells #[.slice none 0 0, .int .i64 0] 55)).alloc (.cells #[.string s] 9)) w.heap.size 24 [.slice none 0 0] := ((((Blk.new w 24 #[.slice none 0 0]).alloc _).alloc _).alloc _).alloc _
  have hb1 : Blk (((((w.alloc (.cells #[.slice none 0 0] 24)).alloc (.cells #[.int .i64 0] 3)).alloc (.cells #[.int .i64 0] 27)).alloc (.cells #[.slice none 0 0, .int .i64 0] 55)).alloc (.cells #[.string s] 9)) (w.heap.size + 1) 3 [.int .i64 0] := by
    have := Blk.new (w.alloc (.cells #[.slice none 0 0] 24)) 3 #[.int .i64 0]
    rw [World.size_alloc] at this
    exact ((this.alloc _).alloc _).alloc _
  have hb2 : Blk (((((w.alloc (.cells #[.slice none 0 0] 24)).alloc (.cells #[.int .i64 0] 3)).alloc (.cells #[.int .i64 0] 27)).alloc (.cells #[.slice none 0 0, .int .i64 0] 55)).alloc (.cells #[.string s] 9)) (w.heap.size + 1 + 1) 27 [.int .i64 0] := by
    have := Blk.new ((w.alloc (.cells #[.slice none 0 0] 24)).alloc (.cells #[.int .i64 0] 3)) 27 #[.int .i64 0]
    rw [World.size_alloc, World.size_alloc] at this
    exact (this.alloc _).alloc _
  have hb3 : Blk (((((w.alloc (.cells #[.slice none 0 0] 24)).alloc (.cells #[.int .i64 0] 3)).alloc (.cells #[.int .i64 0] 27)).alloc (.cells #[.slice none 0 0, .int .i64 0] 55)).alloc (.cells #[.string s] 9)) (w.heap.size + 1 + 1 + 1) 55 [.slice none 0 0, .int .i64 0] := by
    have := Blk.new (((w.alloc (.cells #[.slice none 0 0] 24)).alloc (.cells #[.int .i64 0] 3)).alloc (.cells #[.int .i64 0] 27)) 55 #[.slice none 0 0, .int .i64 0]
    rw [World.size_alloc, World.size_alloc, World.size_alloc] at this
    exact this.alloc _
  have hb4 : (((((w.alloc (.cells #[.slice none 0 0] 24)).alloc (.cells #[.int .i64 0] 3)).alloc (.cells #[.int .i64 0] 27)).alloc (.cells #[.slice none 0 0, .int .i64 0] 55)).alloc (.cells #[.string s] 9)).heap[w.heap.size + 1 + 1 + 1 + 1]? = some (.cells #[.string s] 9 (0, 0)) := by
    have := World.alloc_heap_new ((((w.alloc (.cells #[.slice none 0 0] 24)).alloc (.cells #[.int .i64 0] 3)).alloc (.cells #[.int .i64 0] 27)).alloc (.cells #[.slice none 0 0, .int .i64 0] 55)) (.cells #[.string s] 9)
    rw [World.size_alloc, World.size_alloc, World.size_alloc, World.size_alloc] at this
    exact this
  have hws : (((((w.alloc (.cells #[.slice none 0 0] 24)).alloc (.cells #[.int .i64 0] 3)).alloc (.cells #[.int .i64 0] 27)).alloc (.cells #[.slice none 0 0, .int .i64 0] 55)).alloc (.cells #[.string s] 9)).heap.size = w.heap.size + 1 + 1 + 1 + 1 + 1 := by simp
  generalize (((((w.alloc (.cells #[.slice none 0 0] 24)).alloc (.cells #[.int .i64 0] 3)).alloc (.cells #[.int .i64 0] 27)).alloc (.cells #[.slice none 0 0, .int .i64 0] 55)).alloc (.cells #[.string s] 9)) = wl at hbel hb0 hb1 hb2 hb3 hb4 hws ⊢
  have Hws := Lib.hid hws
  clear hws
  refine range_lawX (F := KeepB (w.heap.size + 1 + 1 + 1 + 1)) (T := fun _ => false) (encs := encW) (Good := GoodW s) (Full := FullW s) (gf := 39) (lb := #[.pointer (some ⟨w.heap.size + 1 + 1 + 1 + 1, 0, none⟩)]) rfl (enters_of Try.func39 (by kernel_rfl) rfl)
    (keepB_frm (by have := Hws.out; omega)) (words_walks s _ wl (by omega) hb4) (fun _ => rfl)
    (ParI w wl.heap.size) (ParX w)
    ?bI ?bIx ?h0 ?round ?done ?stop
  case bI => exact parI_bears w _ hbel.size
  case bIx => exact parX_bears w _ hbel.size
  case h0 => exact ⟨hbel, hb0, hb1, hb2, [], 0, none, 0, ⟨hb3, Nat.le_refl _, World.ownsRow_nil _ _ _ _, .inl rfl⟩, ⟨by omega, fun e => by omega, fun e => by omega, by simp, fun r hr => (by cases hr), fun r hr => (by cases hr)⟩, rfl⟩
  case round =>
    rintro l pre ⟨at_, word⟩ W hl ⟨r, hr⟩ hI0 hgood
    have hlen : pre.length ≤ 1000000 := by
      obtain ⟨r', hr'⟩ := hgood
      have h1 := congrArg List.length hr'
      have h2 := HW.out
      have h3 : (wordsP s).length ≤ s.size := h2
      simp at h1
      omega
    dsimp only [encW]
    have hws := Hws.out
    gi_wp2_with (fail)
    refine ⟨KeepsFrom.refl _ _, fun o ho => ho, fun W2 hg2 => ?_⟩
    obtain ⟨h1, h2, h3, h4, rs, place, ra, rc, h5, h6, h7⟩ := parI_nc hI0 hbel.size hg2 (fun r' e => by cases e; exact ⟨hl, _, hr, rfl⟩)
    have H7 := Lib.hid h7
    have H6 := Lib.hid h6
    clear h7 hI0 hg2 hr
    gi_wp2_with (fail)
    refine ⟨trivial, rfl, (CallsIn.inRound l ((callsIn_wide (n := 0)).2 (take_any wl.heap.size (w.heap.size + 1 + 1 + 1) place rc pre.length rs ra word W2 h5 h6 hlen))).mono ?_⟩
    rintro e W3 ⟨b, rfl, hkb, hF, hT⟩
    have hk : ∀ {b : Nat} {t : TypeId} {cs : List Value}, b < wl.heap.size → b ≠ w.heap.size + 1 + 1 + 1 → Blk W2 b t cs → Blk W3 b t cs := fun h1 h2 h => (hkb.block _ h1 h2).trans h
    have k2 := hk (by omega) (by omega) h2
    have k3 := hk (by omega) (by omega) h3
    have k4 := hk (by omega) (by omega) h4
    have HK := Lib.hid hkb
    have HB : Hid (Below w.heap.size w W3) := Lib.hid (h1.trans ⟨hkb.os, hkb.tape, hkb.output, hkb.size, fun k hk => hkb.block k (by omega) (by omega)⟩)
    have HF := Lib.hid hF
    have HT := Lib.hid hT
    clear hk hkb hF hT h1 h2 h3 h4 h5 h6
    cases b
    · have x2 := k2.cell 0
      have f2 := k2.frozen 0
      have x3 := k3.cell 0
      have f3 := k3.frozen 0
      have x4 := k4.cell 0
      have f4 := k4.frozen 0
      have l2 := k2.lt
      have l3 := k3.lt
      have l4 := k4.lt
      simp only [List.getElem?_cons_zero] at x2 x3 x4
      have HG : Hid (foldP ⟨[], 0⟩ (pre ++ [(at_, word)]) = .error at_) := Lib.hid (by
        rw [foldP_ok pre _ _ _ H7.out, foldP, HF.out rfl])
      have K2 := Lib.hid (((k2.set 0 (.slice none 0 0)).setOther (b' := w.heap.size + 1) (j := 0) (by omega) (.int .i64 (at_ : Int))).setOther (b' := w.heap.size + 1 + 1) (j := 0) (by omega) (.int .i64 70))
      have K3 := Lib.hid (((k3.setOther (b' := w.heap.size) (j := 0) (by omega) (.slice none 0 0)).set 0 (.int .i64 (at_ : Int))).setOther (b' := w.heap.size + 1 + 1) (j := 0) (by omega) (.int .i64 70))
      have K4 := Lib.hid (((k4.setOther (b' := w.heap.size) (j := 0) (by omega) (.slice none 0 0)).setOther (b' := w.heap.size + 1) (j := 0) (by omega) (.int .i64 (at_ : Int))).set 0 (.int .i64 70))
      have KB := Lib.hid (((HB.out.setCell (p := ⟨w.heap.size, 0, none⟩) (Nat.le_refl _) (.slice none 0 0)).setCell (p := ⟨w.heap.size + 1, 0, none⟩) (by simp) (.int .i64 (at_ : Int))).setCell (p := ⟨w.heap.size + 1 + 1, 0, none⟩) (by simp; omega) (.int .i64 70))
      have KO := Lib.hid (HK.out.ko.trans (((KeepsOthers.setCell W3 ⟨w.heap.size, 0, none⟩ (.slice none 0 0)).trans (KeepsOthers.setCell _ ⟨w.heap.size + 1, 0, none⟩ (.int .i64 (at_ : Int)))).trans (KeepsOthers.setCell _ ⟨w.heap.size + 1 + 1, 0, none⟩ (.int .i64 70))))
      clear k2 k3 k4 hws
      gi_wp2_with (fail)
      exact ⟨KO.out.from _, KB.out, K2.out, K4.out, at_, K3.out, HG.out⟩
    · obtain ⟨rs', place', ra', rc', hR', hO', hT'⟩ := HT.out rfl
      have HG : Hid (foldP ⟨[], 0⟩ (pre ++ [(at_, word)]) = .ok ⟨grP rs', place'⟩) := Lib.hid (by
        rw [foldP_ok pre _ _ _ H7.out, foldP, hT']; rfl)
      have HR' := Lib.hid hR'
      have HO' := Lib.hid hO'
      have KE : Hid (KeepB (w.heap.size + 1 + 1 + 1 + 1) W2 W3) := Lib.hid (fun o ho => (HK.out.block _ (by omega) (by omega)).trans ho)
      have K2 := Lib.hid k2
      have K3 := Lib.hid k3
      have K4 := Lib.hid k4
      clear hR' hO' hT' k2 k3 k4 hws
      gi_wp2_with (fail)
      exact ⟨HK.out.ko.from _, KE.out, HB.out, K2.out, K3.out, K4.out, rs', place', ra', rc', HR'.out, by rw [List.length_append]; exact HO'.out, HG.out⟩
  case done =>
    rintro D xs W hD hfull ⟨h1, h2, h3, h4, rs, place, ra, rc, h5, h6, h7⟩ hK
    have hws := Hws.out
    have HR1 : Hid (R = parseT s.size (.ok ⟨grP rs, place⟩)) := Lib.hid (by
      have e : xs = wordsP s := hfull
      rw [HP.out, ← e, h7])
    have HO : Hid (Out w W (.slice none 0 0) 0 0) := Lib.hid ⟨h1, h2, h3, h4⟩
    have HR := Lib.hid h5
    have hK2 := hK
    clear h1 h2 h3 h4 h5 h6 h7 hfull
    have x2 := HO.out.k2.cell 0
    have f2 := HO.out.k2.frozen 0
    have x3 := HO.out.k3.cell 0
    have f3 := HO.out.k3.frozen 0
    have x4 := HO.out.k4.cell 0
    have f4 := HO.out.k4.frozen 0
    have l2 := HO.out.k2.lt
    have l3 := HO.out.k3.lt
    have l4 := HO.out.k4.lt
    simp only [List.getElem?_cons_zero] at x2 x3 x4
    have z0 := HR.out.box.cell 0
    have z1 := HR.out.box.cell 1
    have zl := HR.out.box.lt
    simp only [List.getElem?_cons_zero, List.getElem?_cons_succ] at z0 z1
    by_cases hp0 : place = 0
    case neg =>
      have hpI : ¬ (place : Int) = 0 := by omega
      have HRR : Hid (R = ([], s.size, 70)) := Lib.hid (by rw [HR1.out]; simp only [parseT]; rw [if_pos (.inl hp0)])
      gi_wp2_with (fail)
      refine ⟨by simp, .inl ⟨_, _, rfl, run_takeDeferred (def_kept hK2 rfl), ?_⟩⟩
      have hgp := grownBy_putObj' (((W.setCell ⟨w.heap.size, 0, none⟩ (.slice none 0 0)).setCell ⟨w.heap.size + 1, 0, none⟩ (.int .i64 (s.size : Int))).setCell ⟨w.heap.size + 1 + 1, 0, none⟩ (.int .i64 70)) D (.deferred none)
      have y2 := ((HO.out.set (g' := .slice none 0 0) (n' := (s.size : Int)) (e' := 70)).k2.kept hgp (by simp; omega)).cell 0
      have y3 := ((HO.out.set (g' := .slice none 0 0) (n' := (s.size : Int)) (e' := 70)).k3.kept hgp (by simp; omega)).cell 0
      have y4 := ((HO.out.set (g' := .slice none 0 0) (n' := (s.size : Int)) (e' := 70)).k4.kept hgp (by simp; omega)).cell 0
      simp only [List.getElem?_cons_zero] at y2 y3 y4
      refine ⟨.tuple #[.agg #[.slice none 0 0], .int .i64 (s.size : Int), .int .i64 70], by simp [results, Try.f16, go_sem, y2, y3, y4], ?_⟩
      rw [HRR.out]
      exact ⟨[], none, 0, rfl, rfl, Rls.nil _, (HO.out.set (g' := .slice none 0 0) (n' := (s.size : Int)) (e' := 70)).b.grown hgp (HO.out.set (g' := .slice none 0 0) (n' := (s.size : Int)) (e' := 70)).b.size (fun k e => by cases e; omega)⟩
    subst hp0
    by_cases hr0 : rs.length = 0
    case pos =>
      have hrs : rs = [] := List.length_eq_zero_iff.1 hr0
      have HRR : Hid (R = ([], s.size, 70)) := Lib.hid (by rw [HR1.out, hrs]; rfl)
      rw [hr0] at z0
      gi_wp2_with (fail)
      refine ⟨by simp, .inl ⟨_, _, rfl, run_takeDeferred (def_kept hK2 rfl), ?_⟩⟩
      have hgp := grownBy_putObj' (((W.setCell ⟨w.heap.size, 0, none⟩ (.slice none 0 0)).setCell ⟨w.heap.size + 1, 0, none⟩ (.int .i64 (s.size : Int))).setCell ⟨w.heap.size + 1 + 1, 0, none⟩ (.int .i64 70)) D (.deferred none)
      have y2 := ((HO.out.set (g' := .slice none 0 0) (n' := (s.size : Int)) (e' := 70)).k2.kept hgp (by simp; omega)).cell 0
      have y3 := ((HO.out.set (g' := .slice none 0 0) (n' := (s.size : Int)) (e' := 70)).k3.kept hgp (by simp; omega)).cell 0
      have y4 := ((HO.out.set (g' := .slice none 0 0) (n' := (s.size : Int)) (e' := 70)).k4.kept hgp (by simp; omega)).cell 0
      simp only [List.getElem?_cons_zero] at y2 y3 y4
      refine ⟨.tuple #[.agg #[.slice none 0 0], .int .i64 (s.size : Int), .int .i64 70], by simp [results, Try.f16, go_sem, y2, y3, y4], ?_⟩
      rw [HRR.out]
      exact ⟨[], none, 0, rfl, rfl, Rls.nil _, (HO.out.set (g' := .slice none 0 0) (n' := (s.size : Int)) (e' := 70)).b.grown hgp (HO.out.set (g' := .slice none 0 0) (n' := (s.size : Int)) (e' := 70)).b.size (fun k e => by cases e; omega)⟩
    have hrI : ¬ (rs.length : Int) = 0 := by omega
    have hrne : grP rs ≠ [] := by intro e; apply hr0; have := congrArg List.length e; simpa [grP] using this
    have hbz := (Below.refl W.heap.size W).alloc (Nat.le_refl _) (.cells #[.slice ra rs.length rc] 24)
    have HR2 := Lib.hid (HR.out.grown hbz)
    have Hc := Lib.hid (longG_any rs ra rc _ HR2.out.rls)
    have HO2 : Hid (Out w (W.alloc (.cells #[.slice ra rs.length rc] 24)) (.slice none 0 0) 0 0) := Lib.hid ⟨HO.out.b.trans (hbz.mono HO.out.b.size), HO.out.k2.below hbz HO.out.k2.lt, HO.out.k3.below hbz HO.out.k3.lt, HO.out.k4.below hbz HO.out.k4.lt⟩
    have HZ := Lib.hid (Blk.new W 24 #[.slice ra rs.length rc])
    have HK3 : Hid ((W.alloc (.cells #[.slice ra rs.length rc] 24)).heap[D]? = some (.deferred (some []))) := Lib.hid ((hbz.block D (Array.getElem?_eq_some_iff.1 hK).1).trans hK)
    obtain ⟨LB, hLB⟩ : ∃ v, Hid (longG rs = v) := ⟨_, Lib.hid rfl⟩
    rw [hLB.out] at Hc
    obtain ⟨BZ, hBZ⟩ : ∃ v, Hid (W.heap.size = v) := ⟨_, Lib.hid rfl⟩
    have hBZ2 : wl.heap.size ≤ BZ := by rw [← hBZ.out]; exact Nat.le_of_lt (Nat.lt_of_le_of_lt hD (Array.getElem?_eq_some_iff.1 hK).1)
    clear hbz hK hK2
    obtain ⟨L, hL⟩ : ∃ v, Hid (rs.length = v) := ⟨_, Lib.hid rfl⟩
    rw [hL.out] at z0 hrI HR2 Hc HO2 HZ HK3 hr0
    gi_wp2_with (fail)
    refine ⟨trivial, rfl, ((callsIn_wide (n := 0)).2 Hc.out).mono ?_⟩
    rintro e W3 ⟨rfl, hb3⟩
    have hO3 : Out w W3 (.slice none 0 0) 0 0 := ⟨HO2.out.b.trans (hb3.mono HO2.out.b.size), HO2.out.k2.below hb3 HO2.out.k2.lt, HO2.out.k3.below hb3 HO2.out.k3.lt, HO2.out.k4.below hb3 HO2.out.k4.lt⟩
    have HR3 := Lib.hid (HR2.out.grown hb3)
    have hK2 : W3.heap[D]? = some (.deferred (some [])) := (hb3.block D (Array.getElem?_eq_some_iff.1 HK3.out).1).trans HK3.out
    have hZ3 := HZ.out.below hb3 HZ.out.lt
    have HO3 := Lib.hid hO3
    clear hb3 hO3 Hc HO2 HR2 HK3 HZ x2 f2 x3 f3 x4 f4 l2 l3 l4 z0 z1 zl
    have x2 := HO3.out.k2.cell 0
    have f2 := HO3.out.k2.frozen 0
    have x3 := HO3.out.k3.cell 0
    have f3 := HO3.out.k3.frozen 0
    have x4 := HO3.out.k4.cell 0
    have f4 := HO3.out.k4.frozen 0
    have l2 := HO3.out.k2.lt
    have l3 := HO3.out.k3.lt
    have l4 := HO3.out.k4.lt
    simp only [List.getElem?_cons_zero] at x2 x3 x4
    have q0 := hZ3.cell 0
    have ql := hZ3.lt
    simp only [List.getElem?_cons_zero] at q0
    cases LB
    case true =>
      have HRR : Hid (R = ([], 0, 2)) := Lib.hid (by
        rw [HR1.out]; simp only [parseT]; rw [if_neg (by simp [hrne]), ← long_is, hLB.out]; rfl)
      gi_wp2_with (fail)
      refine ⟨by simp, .inl ⟨_, _, rfl, run_takeDeferred (def_kept hK2 rfl), ?_⟩⟩
      have hgp := grownBy_putObj' (((W3.setCell ⟨w.heap.size, 0, none⟩ (.slice none 0 0)).setCell ⟨w.heap.size + 1, 0, none⟩ (.int .i64 0)).setCell ⟨w.heap.size + 1 + 1, 0, none⟩ (.int .i64 2)) D (.deferred none)
      have y2 := ((HO3.out.set (g' := .slice none 0 0) (n' := 0) (e' := 2)).k2.kept hgp (by simp; omega)).cell 0
      have y3 := ((HO3.out.set (g' := .slice none 0 0) (n' := 0) (e' := 2)).k3.kept hgp (by simp; omega)).cell 0
      have y4 := ((HO3.out.set (g' := .slice none 0 0) (n' := 0) (e' := 2)).k4.kept hgp (by simp; omega)).cell 0
      simp only [List.getElem?_cons_zero] at y2 y3 y4
      refine ⟨.tuple #[.agg #[.slice none 0 0], .int .i64 0, .int .i64 2], by simp [results, Try.f16, go_sem, y2, y3, y4], ?_⟩
      rw [HRR.out]
      exact ⟨[], none, 0, rfl, rfl, Rls.nil _, (HO3.out.set (g' := .slice none 0 0) (n' := 0) (e' := 2)).b.grown hgp (HO3.out.set (g' := .slice none 0 0) (n' := 0) (e' := 2)).b.size (fun k e => by cases e; omega)⟩
    have HRR : Hid (R = (grP rs, 0, 0)) := Lib.hid (by
      rw [HR1.out]; simp only [parseT]; rw [if_neg (by simp [hrne]), ← long_is, hLB.out]; rfl)
    gi_wp2_with (fail)
    refine ⟨by simp, .inl ⟨_, _, rfl, run_takeDeferred (def_kept hK2 rfl), ?_⟩⟩
    have hgp := grownBy_putObj' (((W3.setCell ⟨w.heap.size, 0, none⟩ (.slice ra L rc)).setCell ⟨w.heap.size + 1, 0, none⟩ (.int .i64 0)).setCell ⟨w.heap.size + 1 + 1, 0, none⟩ (.int .i64 0)) D (.deferred none)
    have y2 := ((HO3.out.set (g' := .slice ra L rc) (n' := 0) (e' := 0)).k2.kept hgp (by simp; omega)).cell 0
    have y3 := ((HO3.out.set (g' := .slice ra L rc) (n' := 0) (e' := 0)).k3.kept hgp (by simp; omega)).cell 0
    have y4 := ((HO3.out.set (g' := .slice ra L rc) (n' := 0) (e' := 0)).k4.kept hgp (by simp; omega)).cell 0
    simp only [List.getElem?_cons_zero] at y2 y3 y4
    refine ⟨.tuple #[.agg #[.slice ra L rc], .int .i64 0, .int .i64 0], by simp [results, Try.f16, go_sem, y2, y3, y4], ?_⟩
    rw [HRR.out]
    have hrd := (HR3.out.out HO3.out (.slice ra L rc) 0 0).nc hgp (fun g e => by cases e; exact ⟨_, def_kept hK2 rfl, rfl⟩)
    exact ⟨rs, ra, rc, by rw [hL.out]; rfl, rfl, hrd.rls, (HO3.out.set (g' := .slice ra L rc) (n' := 0) (e' := 0)).b.grown hgp (HO3.out.set (g' := .slice ra L rc) (n' := 0) (e' := 0)).b.size (fun k e => by cases e; omega)⟩
  case stop =>
    rintro D pre W hD hgood ⟨h1, h2, h4, n, h3, hE⟩ hK
    have hws := Hws.out
    have HRR : Hid (R = ([], n, 70)) := Lib.hid (by
      obtain ⟨r', hr'⟩ := hgood
      rw [HP.out, ← hr', foldP_err pre r' _ n hE]; rfl)
    have HO : Hid (Out w W (.slice none 0 0) (n : Int) 70) := Lib.hid ⟨h1, h2, h3, h4⟩
    clear h1 h2 h3 h4 hE hgood
    gi_wp2_with (fail)
    refine ⟨by simp, .inl ⟨_, _, rfl, run_takeDeferred hK, ?_⟩⟩
    have hgp := grownBy_putObj' W D (.deferred none)
    have y2 := (HO.out.k2.kept hgp (by simp; omega)).cell 0
    have y3 := (HO.out.k3.kept hgp (by simp; omega)).cell 0
    have y4 := (HO.out.k4.kept hgp (by simp; omega)).cell 0
    simp only [List.getElem?_cons_zero] at y2 y3 y4
    refine ⟨.tuple #[.agg #[.slice none 0 0], .int .i64 (n : Int), .int .i64 70], by simp [results, Try.f16, go_sem, y2, y3, y4], ?_⟩
    rw [HRR.out]
    exact ⟨[], none, 0, rfl, rfl, Rls.nil _, HO.out.b.grown hgp HO.out.b.size (fun k e => by cases e; omega)⟩
end Go.Proofs.Ytoaabfdilhbajaa
