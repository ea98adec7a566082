/- Texts joined: Rf Ya Yb Yc. -/
import Derived.Test.YtngbfjimmdkfeaaPXN2
import Derived.Test.YtngbfjimmdkfeaaPXD
import Derived.Test.YtngbfjimmdkfeaaPXN4
set_option linter.unusedVariables false
set_option linter.unusedSimpArgs false
namespace Go.Proofs.Ytngbfjimmdkfeaa
open Go.RowKit Go.Shelf

attribute [local go_sem] Oper.semAt_some

set_option maxRecDepth 100000 in
set_option maxHeartbeats 1000000 in
theorem fresh_any (base bm : Nat) (n : Nat) (s : Int) (ev : Value) (ga : Option Addr) (gc : Nat) (es : List Eg) (w : World) (hM : MkAt 95 w base bm (n : Int) s ev ga gc es) (hn : n ≤ 1099511627780) :
    Calls Try.prog 63 #[.pointer (some ⟨bm, 0, none⟩)] w fun e w' => e = .returned (.int .i64 (n : Int)) ∧ MkAt 95 w' base bm ((n + 1 : Nat) : Int) s ev ga gc es ∧ Spares base (mkT 95) w w' := by
  have x0 := hM.box.cell 0
  have x1 := hM.box.cell 1
  have x2 := hM.box.cell 2
  have x3 := hM.box.cell 3
  simp only [List.getElem?_cons_zero, List.getElem?_cons_succ] at x0 x1 x2 x3
  have xl := hM.box.lt
  have xf := hM.box.frozen 0
  have hnI : (n : Int) ≤ 1099511627780 := by omega
  have hnI0 : (0 : Int) ≤ (n : Int) := by omega
  have hM1 := hM.set0 ((n : Int) + 1)
  have hS1 := hM.spares_set 0 (.int .i64 ((n : Int) + 1))
  have HM := Lib.hid hM1
  have HS := Lib.hid hS1
  clear hM hM1 hS1 x1 x2 x3
  go_enter Try.func63, Try.ntmps63
  go_wp2_with (fail)
  exact bodyPost_ret (v := .int .i64 (n : Int)) (by simp [results, Try.results63, go_sem]; try first | rfl | assumption | omega) rfl ⟨rfl, by rw [show ((n + 1 : Nat) : Int) = (n : Int) + 1 by omega]; exact HM.out, HS.out⟩

set_option maxRecDepth 100000 in
set_option maxHeartbeats 1000000 in
theorem edge_any (base bm : Nat) (n s : Int) (ev : Value) (ga : Option Addr) (gc : Nat) (es : List Eg) (f t : Int) (q : List Sp) (sa : Option Addr) (sc : Nat) (w : World) (hM : MkAt 95 w base bm n s ev ga gc es) (hs : SpK w base ⟨⟨f, t, q⟩, sa, sc⟩) (hl : es.length + 1 ≤ 1099511627780) :
    Calls Try.prog 64 #[.pointer (some ⟨bm, 0, none⟩), .int .i64 f, .int .i64 t, .slice sa q.length sc] w fun e w' => e = .returned (.tuple #[]) ∧ ∃ ga' gc', MkAt 95 w' base bm n s ev ga' gc' (es ++ [⟨f, t, q⟩]) ∧ Spares base (mkT 95) w w' := by
  have x0 := hM.box.cell 0
  have x1 := hM.box.cell 1
  have x2 := hM.box.cell 2
  have x3 := hM.box.cell 3
  simp only [List.getElem?_cons_zero, List.getElem?_cons_succ] at x0 x1 x2 x3
  have xl := hM.box.lt
  obtain ⟨a2, c2, w2, hrun, hB2, hM2, hS2, hz2⟩ := hM.push 30 ⟨⟨f, t, q⟩, sa, sc⟩ hs hl
  simp only [cellsX] at hrun
  obtain ⟨Q, hQ⟩ : ∃ Q, Hid (q.length = Q) := ⟨_, Lib.hid rfl⟩
  obtain ⟨L, hL⟩ : ∃ Q, Hid (es.length = Q) := ⟨_, Lib.hid rfl⟩
  rw [hQ.out, hL.out] at hrun
  rw [hL.out] at hB2 hM2 hS2 x3
  rw [hQ.out]
  have Hrun := Lib.hid hrun
  have HM2 := Lib.hid hM2
  have HS2 := Lib.hid hS2
  have z3 := hB2.cell 3
  have f3 := hB2.frozen 3
  have zl := hB2.lt
  simp only [List.getElem?_cons_zero, List.getElem?_cons_succ] at z3
  clear hM hs hrun hM2 hS2 hB2 x0 x1 x2
  go_enter Try.func64, Try.ntmps64
  go_wp2_with (at_builtin; refine wpList_append_run rfl _ _ 30 30 rfl _ _ _ _ rfl rfl Hrun.out ?_)
  exact bodyPost_end (v := .tuple #[]) (by simp [results, Try.results64, go_sem]; try rfl) rfl (by first | exact ⟨rfl, a2, c2, HM2.out, HS2.out⟩ | exact ⟨rfl, ⟨a2, c2, HM2.out⟩, HS2.out⟩)

set_option maxRecDepth 100000 in
set_option maxHeartbeats 1000000 in
theorem ahead_any (base bm : Nat) (n : Nat) (s : Int) (ev : Value) (ga : Option Addr) (gc : Nat) (es : List Eg) (f : Int) (w : World) (hM : MkAt 95 w base bm (n : Int) s ev ga gc es) (hl : es.length + 1 ≤ 1099511627780) (hn : n ≤ 1099511627780) :
    Calls Try.prog 62 #[.pointer (some ⟨bm, 0, none⟩), .int .i64 f] w fun e w' => e = .returned (.int .i64 (n : Int)) ∧ ∃ ga' gc', MkAt 95 w' base bm ((n + 1 : Nat) : Int) s ev ga' gc' (es ++ [⟨f, (n : Int), []⟩]) ∧ Spares base (mkT 95) w w' := by
  have HF := Lib.hid (fresh_any base bm n s ev ga gc es w hM hn)
  have HE := Lib.hid (fun (W : World) (h : MkAt 95 W base bm ((n + 1 : Nat) : Int) s ev ga gc es) => edge_any base bm ((n + 1 : Nat) : Int) s ev ga gc es f (n : Int) [] none 0 W h (SpK.nil W base f (n : Int)) hl)
  clear hM
  go_enter Try.func62, Try.ntmps62
  go_wp2_with (fail)
  refine HF.out.mono ?_
  rintro e w1 ⟨rfl, hM1, hS1⟩
  have HC := Lib.hid (HE.out w1 hM1)
  clear hM1
  go_wp2_with (fail)
  refine HC.out.mono ?_
  rintro e w2 ⟨rfl, ga', gc', hM2, hS2⟩
  go_wp2_with (fail)
  exact bodyPost_ret (v := .int .i64 (n : Int)) (by simp [results, Try.results62, go_sem]; try first | rfl | assumption | omega) rfl (by first | exact ⟨rfl, ga', gc', hM2, hS1.trans hS2⟩ | exact ⟨rfl, ⟨ga', gc', hM2⟩, hS1.trans hS2⟩)
end Go.Proofs.Ytngbfjimmdkfeaa

namespace Go.Proofs.Ytngbfjimmdkfeaa
open Go.RowKit Go.Shelf

/-- What was made is r, where it fits; else there are too many states. -/
structure Mad {α : Type} (s : Bs) (d c : Nat) (r r' : α × Bs) : Prop where
  ex : s.1 + d ≤ 2000 → r' = r ∧ r'.2.1 = s.1 + d
  ov : 2000 < s.1 + d → 2000 < r'.2.1
  lo : s.1 ≤ r'.2.1
  hi : r'.2.1 ≤ s.1 + d
  len : r'.2.2.length ≤ s.2.length + c
theorem Mad.of {α : Type} {s : Bs} {d c : Nat} {r : α × Bs} (h : Grows s r.2 d c) : Mad s d c r r :=
  ⟨fun _ => ⟨rfl, h.1⟩, fun e => by rw [h.1]; exact e, by rw [h.1]; omega, by rw [h.1]; omega, h.2.1⟩
theorem Mad.up {α : Type} {s : Bs} {d c : Nat} {r : α × Bs} (x : α) (h : 2000 < s.1) : Mad s d c r (x, s) :=
  ⟨fun e => by omega, fun _ => h, Nat.le_refl _, Nat.le_add_right _ _, Nat.le_add_right _ _⟩
theorem Mad.trans {α β : Type} {s : Bs} {d c d' c' : Nat} {r r' : α × Bs} {r'' : β × Bs} (g : α → Bs → β × Bs) (h : Mad s d c r r') (k : Mad r'.2 d' c' (g r'.1 r'.2) r'') : Mad s (d + d') (c + c') (g r.1 r.2) r'' := by
  refine ⟨fun e => ?_, fun e => ?_, Nat.le_trans h.lo k.lo, by have := h.hi; have := k.hi; omega, by have := h.len; have := k.len; omega⟩
  · obtain ⟨e1, e2⟩ := h.ex (by omega)
    obtain ⟨e3, e4⟩ := k.ex (by omega)
    subst e1
    exact ⟨e3, by omega⟩
  · by_cases hs : s.1 + d ≤ 2000
    · obtain ⟨e1, e2⟩ := h.ex hs
      exact k.ov (by omega)
    · have := h.ov (by omega)
      have := k.lo
      omega
theorem Mad.cast {α : Type} {s : Bs} {d c d' c' : Nat} {r r' : α × Bs} (h : Mad s d c r r') (hd : d = d') (hc : c ≤ c') : Mad s d' c' r r' := by
  subst hd
  exact ⟨h.ex, h.ov, h.lo, h.hi, Nat.le_trans h.len (by omega)⟩
/-- What a making by the reference comes to. -/
def MqN (w0 : World) (bm : Nat) (w : World) (ev : Value) (s : Bs) (d c : Nat) (r : Nat × Bs) : Ending → World → Prop := fun e w' =>
  ∃ r' : Nat × Bs, Mad s d c r r' ∧ e = .returned (.int .i64 (r'.1 : Int)) ∧ ∃ ga' gc', MkAt 95 w' w0.heap.size bm (r'.2.1 : Int) 0 ev ga' gc' r'.2.2 ∧ Spares w0.heap.size (mkT 95) w w'
def MkP (w0 : World) (bm : Nat) (h : Hd) (kids : Fo) : Prop :=
  ∀ (sa : Option Addr) (sc : Nat) (a : Option Addr) (cap : Nat) (f : Nat) (s : Bs) (ev : Value) (ga : Option Addr) (gc : Nat) (w : World), Sps w0 sa sc h.set → Items w0 a cap kids → Below w0.heap.size w0 w →
    MkAt 95 w w0.heap.size bm (s.1 : Int) 0 ev ga gc s.2 → s.1 + stE h kids ≤ 1000000 → s.2.length + 2 * stE h kids ≤ 10000000 →
    Calls Try.prog 47 #[.pointer (some ⟨bm, 0, none⟩), itemV h sa sc a kids.len cap, .int .i64 (f : Int)] w (MqN w0 bm w ev s (stE h kids) (2 * stE h kids) (bE h kids f s))
/-- One of a list may be made. -/
def MkO (w0 : World) (bm : Nat) (h : Hd) (k : Fo) : Prop := MkP w0 bm h k ∧ ∀ a s, Grows s (bE h k a s).2 (stE h k) (2 * stE h k)
section
variable (w0 : World) (bm : Nat) (s : Bs) (ev : Value) (ga : Option Addr) (gc : Nat) (w : World) (hM : MkAt 95 w w0.heap.size bm (s.1 : Int) 0 ev ga gc s.2)
include hM
theorem fresh0 (hn : s.1 + 1 ≤ 1100000) : Calls Try.prog 63 #[.pointer (some ⟨bm, 0, none⟩)] w fun e w' => e = .returned (.int .i64 (s.1 : Int)) ∧ MkAt 95 w' w0.heap.size bm ((s.1 + 1 : Nat) : Int) 0 ev ga gc s.2 ∧ Spares w0.heap.size (mkT 95) w w' :=
  fresh_any _ _ _ _ _ _ _ _ _ hM (by omega)
theorem edge0 (f t : Nat) (hl : s.2.length + 1 ≤ 11000000) : Calls Try.prog 64 #[.pointer (some ⟨bm, 0, none⟩), .int .i64 (f : Int), .int .i64 (t : Int), .slice none 0 0] w fun e w' => e = .returned (.tuple #[]) ∧ ∃ ga' gc', MkAt 95 w' w0.heap.size bm ((lnk f t [] s).1 : Int) 0 ev ga' gc' (lnk f t [] s).2 ∧ Spares w0.heap.size (mkT 95) w w' :=
  edge_any _ _ _ _ _ _ _ _ f t [] none 0 w hM (SpK.nil w _ _ _) (by omega)
theorem edgeQ (f t : Nat) (q : List Sp) (sa : Option Addr) (sc : Nat) (hb : Below w0.heap.size w0 w) (hq : Sps w0 sa sc q) (hl : s.2.length + 1 ≤ 11000000) : Calls Try.prog 64 #[.pointer (some ⟨bm, 0, none⟩), .int .i64 (f : Int), .int .i64 (t : Int), .slice sa q.length sc] w fun e w' => e = .returned (.tuple #[]) ∧ ∃ ga' gc', MkAt 95 w' w0.heap.size bm ((lnk f t q s).1 : Int) 0 ev ga' gc' (lnk f t q s).2 ∧ Spares w0.heap.size (mkT 95) w w' :=
  edge_any _ _ _ _ _ _ _ _ f t q sa sc w hM (SpK.of0 hq hb) (by omega)
theorem ahead0 (f : Nat) (hn : s.1 + 1 ≤ 1100000) (hl : s.2.length + 1 ≤ 11000000) : Calls Try.prog 62 #[.pointer (some ⟨bm, 0, none⟩), .int .i64 (f : Int)] w fun e w' => e = .returned (.int .i64 ((grw f [] s).1 : Int)) ∧ ∃ ga' gc', MkAt 95 w' w0.heap.size bm ((grw f [] s).2.1 : Int) 0 ev ga' gc' (grw f [] s).2.2 ∧ Spares w0.heap.size (mkT 95) w w' :=
  ahead_any w0.heap.size bm s.1 0 ev ga gc s.2 f w hM (by omega) (by omega)
end
/-- An Alt's end as the reference makes it. -/
def altR (l : List Nat) (s : Bs) : Nat × Bs := (s.1, lnkAll s.1 l (s.1 + 1, s.2))
theorem altR_is (r : List Nat × Bs) (h : r.1 ≠ []) : altEnd r = altR r.1 r.2 := by
  obtain ⟨l, s⟩ := r
  cases l with
  | nil => exact absurd rfl h
  | cons x l => rfl
theorem altR_grows (l : List Nat) (s : Bs) : Grows s (altR l s).2 1 l.length := by
  have h : Grows s (s.1 + 1, s.2) 1 0 := ⟨rfl, by simp, [], by simp⟩
  exact (h.trans (grows_all s.1 l (s.1 + 1, s.2))).cast rfl (by omega)
end Go.Proofs.Ytngbfjimmdkfeaa

namespace Go.Proofs.Ytngbfjimmdkfeaa
open Go.RowKit Go.Shelf

attribute [local go_sem] Oper.semAt_some

set_option maxRecDepth 100000 in
set_option maxHeartbeats 1000000 in
theorem rmk_leaf1 (w0 : World) (bm S sc : Nat) (sa : Option Addr) (L cap : Nat) (a : Option Addr) (f : Nat) (s : Bs) (ev : Value) (ga : Option Addr) (gc : Nat) (w : World) (hb : Below w0.heap.size w0 w) (hM : MkAt 95 w w0.heap.size bm (s.1 : Int) 0 ev ga gc s.2) (hn : s.1 + 1 ≤ 1000000) (hl : s.2.length + 2 ≤ 10000000) :
    Calls Try.prog 47 #[.pointer (some ⟨bm, 0, none⟩), .agg #[.int .i64 1, .slice sa S sc, .slice a L cap], .int .i64 (f : Int)] w (MqN w0 bm w ev s 1 2 (grw f [] s)) := by
  have m0 := hM.box.cell 0
  have ml := hM.box.lt
  simp only [List.getElem?_cons_zero] at m0
  have hA0 := Blk.new w 45 #[.int .i64 1, .slice sa S sc, .slice a L cap]
  have hbn : Below w.heap.size w (w.alloc (.cells #[.int .i64 1, .slice sa S sc, .slice a L cap] 45)) := (Below.refl _ w).alloc (Nat.le_refl _) _
  have hM0 := hM.alloc (.cells #[.int .i64 1, .slice sa S sc, .slice a L cap] 45)
  have hS0 : Spares w0.heap.size (mkT 95) w (w.alloc (.cells #[.int .i64 1, .slice sa S sc, .slice a L cap] 45)) := Below.spares hbn hM.base_le
  have hb0 := hb.trans hS0.below
  obtain ⟨W0, hW0⟩ : ∃ W, Hid (w.alloc (.cells #[.int .i64 1, .slice sa S sc, .slice a L cap] 45) = W) := ⟨_, Lib.hid rfl⟩
  rw [hW0.out] at hM0 hS0 hb0
  have hA0 : Blk W0 w.heap.size 45 [.int .i64 1, .slice sa S sc, .slice a L cap] := by rw [← hW0.out]; exact hA0
  have hws : w.heap.size + 1 = W0.heap.size := by rw [← hW0.out]; simp
  have HS0 := Lib.hid hS0
  have HB0 := Lib.hid hb0
  have HM0 := Lib.hid hM0
  have HA0 := Lib.hid hA0
  clear hbn hM0 hM hS0 hb0 hb
  have x0 := HA0.out.cell 0
  have x1 := HA0.out.cell 1
  have x2 := HA0.out.cell 2
  have xl := HA0.out.lt
  simp only [List.getElem?_cons_zero, List.getElem?_cons_succ] at x0 x1 x2
  by_cases hgt : 2000 < s.1
  · have hgI : (2000 : Int) < (s.1 : Int) := by omega
    have HU := Lib.hid hgt
    generalize grw f [] s = R
    obtain ⟨s1, s2⟩ := s
    dsimp only at *
    clear hgt
    go_enter Try.func47, Try.ntmps47
    go_wp2_with (fail)
    rw [hW0.out]
    exact bodyPost_ret (v := .int .i64 ((0 : Nat) : Int)) (by simp [results, Try.results47, go_sem]; try first | rfl | assumption | omega) rfl ⟨(0, (s1, s2)), Mad.up 0 HU.out, rfl, ga, gc, HM0.out, HS0.out⟩
  have hgI : ¬ (2000 : Int) < (s.1 : Int) := by omega
  have Hc := Lib.hid (ahead0 w0 bm s ev ga gc W0 HM0.out f (by omega) (by omega))
  have HG := Lib.hid (Mad.of ((grows_grw f [] s).cast (d' := 1) (c' := 2) rfl (by omega)))
  generalize grw f [] s = G at Hc HG ⊢
  obtain ⟨G1, G2⟩ := G
  obtain ⟨s1, s2⟩ := s
  dsimp only at *
  go_enter Try.func47, Try.ntmps47
  go_wp2_with (fail)
  rw [hW0.out]
  refine Hc.out.mono ?_
  rintro e w1 ⟨rfl, ga1, gc1, hM1, hS1⟩
  have HM1 := Lib.hid hM1
  have HS1 := Lib.hid hS1
  clear hM1 hS1
  go_wp2_with (fail)
  exact bodyPost_ret (v := .int .i64 (G1 : Int)) (by simp [results, Try.results47, go_sem]; try first | rfl | assumption | omega) rfl ⟨(G1, G2), HG.out, rfl, ga1, gc1, HM1.out, HS0.out.trans HS1.out⟩

set_option maxRecDepth 100000 in
set_option maxHeartbeats 1000000 in
theorem rmk_leaf2 (w0 : World) (bm sc L cap : Nat) (sa a : Option Addr) (q : List Sp) (hq : Sps w0 sa sc q) (f : Nat) (s : Bs) (ev : Value) (ga : Option Addr) (gc : Nat) (w : World) (hb : Below w0.heap.size w0 w) (hM : MkAt 95 w w0.heap.size bm (s.1 : Int) 0 ev ga gc s.2) (hn : s.1 + 1 ≤ 1000000) (hl : s.2.length + 2 ≤ 10000000) :
    Calls Try.prog 47 #[.pointer (some ⟨bm, 0, none⟩), .agg #[.int .i64 2, .slice sa q.length sc, .slice a L cap], .int .i64 (f : Int)] w (MqN w0 bm w ev s 1 2 (grw f q s)) := by
  have hmx : q.length ≤ sc ∧ sc ≤ 9223372036854775807 := ⟨hq.le, hq.max⟩
  have Hq := Lib.hid hq
  clear hq
  have m0 := hM.box.cell 0
  have ml := hM.box.lt
  simp only [List.getElem?_cons_zero] at m0
  have hA0 := Blk.new w 45 #[.int .i64 2, .slice sa q.length sc, .slice a L cap]
  have hbn : Below w.heap.size w (w.alloc (.cells #[.int .i64 2, .slice sa q.length sc, .slice a L cap] 45)) := (Below.refl _ w).alloc (Nat.le_refl _) _
  have hM0 := hM.alloc (.cells #[.int .i64 2, .slice sa q.length sc, .slice a L cap] 45)
  have hS0 : Spares w0.heap.size (mkT 95) w (w.alloc (.cells #[.int .i64 2, .slice sa q.length sc, .slice a L cap] 45)) := Below.spares hbn hM.base_le
  have hb0 := hb.trans hS0.below
  obtain ⟨W0, hW0⟩ : ∃ W, Hid (w.alloc (.cells #[.int .i64 2, .slice sa q.length sc, .slice a L cap] 45) = W) := ⟨_, Lib.hid rfl⟩
  rw [hW0.out] at hM0 hS0 hb0
  have hA0 : Blk W0 w.heap.size 45 [.int .i64 2, .slice sa q.length sc, .slice a L cap] := by rw [← hW0.out]; exact hA0
  have hws : w.heap.size + 1 = W0.heap.size := by rw [← hW0.out]; simp
  have HS0 := Lib.hid hS0
  have HB0 := Lib.hid hb0
  have HM0 := Lib.hid hM0
  have HA0 := Lib.hid hA0
  clear hbn hM0 hM hS0 hb0 hb
  have x0 := HA0.out.cell 0
  have x1 := HA0.out.cell 1
  have x2 := HA0.out.cell 2
  have xl := HA0.out.lt
  simp only [List.getElem?_cons_zero, List.getElem?_cons_succ] at x0 x1 x2
  by_cases hgt : 2000 < s.1
  · have hgI : (2000 : Int) < (s.1 : Int) := by omega
    have HU := Lib.hid hgt
    generalize grw f q s = R
    obtain ⟨s1, s2⟩ := s
    dsimp only at *
    clear hgt
    go_enter Try.func47, Try.ntmps47
    go_wp2_with (fail)
    rw [hW0.out]
    exact bodyPost_ret (v := .int .i64 ((0 : Nat) : Int)) (by simp [results, Try.results47, go_sem]; try first | rfl | assumption | omega) rfl ⟨(0, (s1, s2)), Mad.up 0 HU.out, rfl, ga, gc, HM0.out, HS0.out⟩
  have hgI : ¬ (2000 : Int) < (s.1 : Int) := by omega
  have Hc := Lib.hid (fresh0 w0 bm s ev ga gc W0 HM0.out (by omega))
  have HG := Lib.hid (Mad.of ((grows_grw f q s).cast (d' := 1) (c' := 2) rfl (by omega)))
  have HE := Lib.hid (fun (V : World) (h1 : MkAt 95 V w0.heap.size bm (((s.1 + 1, s.2) : Bs).1 : Int) 0 ev ga gc ((s.1 + 1, s.2) : Bs).2) (h2 : Below w0.heap.size w0 V) => edgeQ w0 bm (s.1 + 1, s.2) ev ga gc V h1 f s.1 q sa sc h2 Hq.out (by show s.2.length + 1 ≤ _; omega))
  have hge : lnk f s.1 q (s.1 + 1, s.2) = (grw f q s).2 := rfl
  have hg1 : (grw f q s).1 = s.1 := rfl
  rw [hge] at HE
  clear hge Hq
  obtain ⟨Q, hQ⟩ : ∃ Q, Hid (q.length = Q) := ⟨_, Lib.hid rfl⟩
  have hW1 := hW0.out
  rw [hQ.out] at hW1 hmx HA0 x1 HE ⊢
  replace hW1 := Lib.hid hW1
  generalize grw f q s = G at HE HG hg1 ⊢
  obtain ⟨G1, G2⟩ := G
  obtain ⟨s1, s2⟩ := s
  dsimp only at *
  subst hg1
  go_enter Try.func47, Try.ntmps47
  go_wp2_with (fail)
  rw [hW1.out]
  refine Hc.out.mono ?_
  rintro e w1 ⟨rfl, hM1, hS1⟩
  have hA1 := Lib.hid (hS1.blk HA0.out rfl)
  have Hc2 := Lib.hid (HE.out w1 hM1 (HB0.out.trans hS1.below))
  have HS1 := Lib.hid hS1
  clear hM1 hS1 x0 x1 x2 xl m0 ml HE
  have x0 := hA1.out.cell 0
  have x1 := hA1.out.cell 1
  have x2 := hA1.out.cell 2
  have xl := hA1.out.lt
  simp only [List.getElem?_cons_zero, List.getElem?_cons_succ] at x0 x1 x2
  go_wp2_with (fail)
  refine Hc2.out.mono ?_
  rintro e w2 ⟨rfl, ga2, gc2, hM2, hS2⟩
  have HM2 := Lib.hid hM2
  have HS2 := Lib.hid hS2
  clear hM2 hS2
  go_wp2_with (fail)
  exact bodyPost_ret (v := .int .i64 (G1 : Int)) (by simp [results, Try.results47, go_sem]; try first | rfl | assumption | omega) rfl ⟨(G1, G2), HG.out, rfl, ga2, gc2, HM2.out, HS0.out.trans (HS1.out.trans HS2.out)⟩

end Go.Proofs.Ytngbfjimmdkfeaa

namespace Go.Proofs.Ytngbfjimmdkfeaa
open Go.RowKit Go.Shelf

attribute [local go_sem] Oper.semAt_some

def tl5 (a b : Nat) (s : Bs) : Nat × Bs := grw a [] (lnk b a [] s)
def tl6 (a b : Nat) (s : Bs) : Nat × Bs := grw b [] (lnk b a [] s)
def tl7 (f b : Nat) (s : Bs) : Nat × Bs := ((grw b [] s).1, lnk f (grw b [] s).1 [] (grw b [] s).2)
theorem tl5_is (g : Nat → Bs → Nat × Bs) (f : Nat) (s : Bs) : grw (bLoop g f s).1.1 [] (bLoop g f s).2 = tl5 (grw f [] s).1 (g (grw f [] s).1 (grw f [] s).2).1 (g (grw f [] s).1 (grw f [] s).2).2 := rfl
theorem tl6_is (g : Nat → Bs → Nat × Bs) (f : Nat) (s : Bs) : grw (bLoop g f s).1.2 [] (bLoop g f s).2 = tl6 (grw f [] s).1 (g (grw f [] s).1 (grw f [] s).2).1 (g (grw f [] s).1 (grw f [] s).2).2 := rfl
theorem tl7_is (g : Nat → Bs → Nat × Bs) (f : Nat) (s : Bs) : bOpt g f s = tl7 f (g (grw f [] s).1 (grw f [] s).2).1 (g (grw f [] s).1 (grw f [] s).2).2 := rfl
theorem tl7_eq (f b : Nat) (s : Bs) : tl7 f b s = (s.1, lnk f s.1 [] (lnk b s.1 [] (s.1 + 1, s.2))) := rfl
theorem grows_tl5 (a b : Nat) (s : Bs) : Grows s (tl5 a b s).2 1 2 := ((grows_lnk b a [] s).trans (grows_grw a [] _)).cast rfl (by omega)
theorem grows_tl6 (a b : Nat) (s : Bs) : Grows s (tl6 a b s).2 1 2 := ((grows_lnk b a [] s).trans (grows_grw b [] _)).cast rfl (by omega)
theorem grows_tl7 (f b : Nat) (s : Bs) : Grows s (tl7 f b s).2 1 2 := ((grows_grw b [] s).trans (grows_lnk f _ [] _)).cast rfl (by omega)

set_option maxRecDepth 100000 in
set_option maxHeartbeats 1000000 in
theorem rmk_rep5 (w0 : World) (bm S sc : Nat) (sa : Option Addr) (cap b off : Nat) (c : Hd) (ck : Fo) (esa ea : Option Addr) (esc ec : Nat) (hcap : 1 ≤ cap) (hcap2 : cap ≤ 9223372036854775807) (e0 : w0.cell? ⟨b, off, none⟩ = some (.int .i64 c.k)) (e1 : w0.cell? ⟨b, off + 1, none⟩ = some (.slice esa c.set.length esc)) (e2 : w0.cell? ⟨b, off + 2, none⟩ = some (.slice ea ck.len ec)) (hsp : Sps w0 esa esc c.set) (hI : Items w0 ea ec ck) (hP : MkP w0 bm c ck) (f : Nat) (s : Bs) (ev : Value) (ga : Option Addr) (gc : Nat) (w : World) (hb : Below w0.heap.size w0 w) (hM : MkAt 95 w w0.heap.size bm (s.1 : Int) 0 ev ga gc s.2) (hn : s.1 + stE c ck + 2 ≤ 1000000) (hl : s.2.length + 2 * stE c ck + 4 ≤ 10000000) :
    Calls Try.prog 47 #[.pointer (some ⟨bm, 0, none⟩), .agg #[.int .i64 5, .slice sa S sc, .slice (some ⟨b, off, none⟩) 1 cap], .int .i64 (f : Int)] w (MqN w0 bm w ev s (stE c ck + 2) (2 * stE c ck + 4) (grw (bLoop (bE c ck) f s).1.1 [] (bLoop (bE c ck) f s).2)) := by
  have ebl : b < w0.heap.size := World.block_lt_of_cell? w0 _ e0
  have hmx : ck.len ≤ ec ∧ ec ≤ 9223372036854775807 := ⟨hI.le, hI.max⟩
  have hmx2 : c.set.length ≤ esc ∧ esc ≤ 9223372036854775807 := ⟨hsp.le, hsp.max⟩
  have HY : Hid (∀ W, Below w0.heap.size w0 W → (W.cell? ⟨b, off, none⟩ = some (.int .i64 c.k) ∧ W.cell? ⟨b, off + 1, none⟩ = some (.slice esa c.set.length esc) ∧ W.cell? ⟨b, off + 2, none⟩ = some (.slice ea ck.len ec) ∧ b < W.heap.size)) := Lib.hid (fun W hW => ⟨(hW.cell (p := ⟨b, off, none⟩) ebl).trans e0, (hW.cell (p := ⟨b, off + 1, none⟩) ebl).trans e1, (hW.cell (p := ⟨b, off + 2, none⟩) ebl).trans e2, Nat.lt_of_lt_of_le ebl hW.size⟩)
  have HP := Lib.hid (fun (s2 : Bs) g ga1 gc1 w1 h1 h2 h3 h4 => hP esa esc ea ec g s2 ev ga1 gc1 w1 hsp hI h1 h2 h3 h4)
  clear hP hsp hI e0 e1 e2
  have m0 := hM.box.cell 0
  have ml := hM.box.lt
  simp only [List.getElem?_cons_zero] at m0
  have hA0 := Blk.new w 45 #[.int .i64 5, .slice sa S sc, .slice (some ⟨b, off, none⟩) 1 cap]
  have hbn : Below w.heap.size w (w.alloc (.cells #[.int .i64 5, .slice sa S sc, .slice (some ⟨b, off, none⟩) 1 cap] 45)) := (Below.refl _ w).alloc (Nat.le_refl _) _
  have hM0 := hM.alloc (.cells #[.int .i64 5, .slice sa S sc, .slice (some ⟨b, off, none⟩) 1 cap] 45)
  have hS0 : Spares w0.heap.size (mkT 95) w (w.alloc (.cells #[.int .i64 5, .slice sa S sc, .slice (some ⟨b, off, none⟩) 1 cap] 45)) := Below.spares hbn hM.base_le
  have hb0 := hb.trans hS0.below
  obtain ⟨W0, hW0⟩ : ∃ W, Hid (w.alloc (.cells #[.int .i64 5, .slice sa S sc, .slice (some ⟨b, off, none⟩) 1 cap] 45) = W) := ⟨_, Lib.hid rfl⟩
  rw [hW0.out] at hM0 hS0 hb0
  have hA0 : Blk W0 w.heap.size 45 [.int .i64 5, .slice sa S sc, .slice (some ⟨b, off, none⟩) 1 cap] := by rw [← hW0.out]; exact hA0
  have hws : w.heap.size + 1 = W0.heap.size := by rw [← hW0.out]; simp
  have HS0 := Lib.hid hS0
  have HB0 := Lib.hid hb0
  have HM0 := Lib.hid hM0
  have HA0 := Lib.hid hA0
  clear hbn hM0 hM hS0 hb0 hb
  have x0 := HA0.out.cell 0
  have x1 := HA0.out.cell 1
  have x2 := HA0.out.cell 2
  have xl := HA0.out.lt
  simp only [List.getElem?_cons_zero, List.getElem?_cons_succ] at x0 x1 x2
  by_cases hgt : 2000 < s.1
  · have hgI : (2000 : Int) < (s.1 : Int) := by omega
    have HU := Lib.hid hgt
    generalize grw (bLoop (bE c ck) f s).1.1 [] (bLoop (bE c ck) f s).2 = R
    obtain ⟨s1, s2⟩ := s
    dsimp only at *
    clear hgt
    go_enter Try.func47, Try.ntmps47
    go_wp2_with (fail)
    rw [hW0.out]
    exact bodyPost_ret (v := .int .i64 ((0 : Nat) : Int)) (by simp [results, Try.results47, go_sem]; try first | rfl | assumption | omega) rfl ⟨(0, (s1, s2)), Mad.up 0 HU.out, rfl, ga, gc, HM0.out, HS0.out⟩
  have hgI : ¬ (2000 : Int) < (s.1 : Int) := by omega
  have Hc := Lib.hid (ahead0 w0 bm s ev ga gc W0 HM0.out f (by omega) (by omega))
  obtain ⟨gr1, gr2, _⟩ := grows_grw f [] s
  have HG := Lib.hid (Mad.of (grows_grw f [] s))
  have HR : Hid (grw (bLoop (bE c ck) f s).1.1 [] (bLoop (bE c ck) f s).2 = tl5 (grw f [] s).1 (bE c ck (grw f [] s).1 (grw f [] s).2).1 (bE c ck (grw f [] s).1 (grw f [] s).2).2) := Lib.hid (tl5_is _ f s)
  rw [HR.out]
  clear HR
  generalize grw f [] s = G at gr1 gr2 Hc HG ⊢
  obtain ⟨G1, G2⟩ := G
  obtain ⟨D, hD⟩ : ∃ D, Hid (stE c ck = D) := ⟨_, Lib.hid rfl⟩
  rw [hD.out] at HP hn hl ⊢
  have HT := Lib.hid (fun t : Nat × Bs => fun h : Mad G2 D (2 * D) (bE c ck G1 G2) t => ((Mad.trans (bE c ck) HG.out h).trans (fun b s => tl5 G1 b s) (Mad.of (grows_tl5 G1 t.1 t.2))).cast (d' := D + 2) (c' := 2 * D + 4) (by omega) (by omega))
  clear HG
  obtain ⟨s1, s2⟩ := s
  dsimp only at *
  dsimp only [itemV] at HP
  have HPg := Lib.hid (fun ga1 gc1 w1 h1 h2 h3 h4 => HP.out G2 G1 ga1 gc1 w1 h1 h2 h3 h4)
  clear HP
  generalize bE c ck G1 G2 = H at HPg HT ⊢
  go_enter Try.func47, Try.ntmps47
  go_wp2_with (fail)
  rw [hW0.out]
  refine Hc.out.mono ?_
  rintro e w1 ⟨rfl, ga1, gc1, hM1, hS1⟩
  have hA1 := Lib.hid (hS1.blk HA0.out rfl)
  have HB1 := Lib.hid (HB0.out.trans hS1.below)
  have HM1 := Lib.hid hM1
  have HS1 := Lib.hid (HS0.out.trans hS1)
  clear hM1 hS1 x0 x1 x2 xl m0 ml HB0
  obtain ⟨y0, y1, y2, yl⟩ := HY.out w1 HB1.out
  have x0 := hA1.out.cell 0
  have x1 := hA1.out.cell 1
  have x2 := hA1.out.cell 2
  have xl := hA1.out.lt
  simp only [List.getElem?_cons_zero, List.getElem?_cons_succ] at x0 x1 x2
  go_wp2_with (fail)
  refine (HPg.out ga1 gc1 w1 HB1.out HM1.out (by omega) (by omega)).mono ?_
  rintro e w2 ⟨⟨t, t2⟩, hmad, rfl, ga2, gc2, hM2, hS2⟩
  have HT2 := Lib.hid (HT.out (t, t2) hmad)
  have q1 := hmad.hi
  have q2 := hmad.len
  have hA2 := Lib.hid (hS2.blk hA1.out rfl)
  have HM2 := Lib.hid hM2
  have HS2 := Lib.hid (HS1.out.trans hS2)
  clear hmad hM2 hS2 x0 x1 x2 xl y0 y1 y2 yl hA1
  dsimp only at *
  have Hc3 := Lib.hid (edge0 w0 bm t2 ev ga2 gc2 w2 HM2.out t G1 (by omega))
  obtain ⟨gl1, gl2, _⟩ := grows_lnk t G1 [] t2
  have HT3 : Hid (Mad (s1, s2) (D + 2) (2 * D + 4) (tl5 G1 H.1 H.2) (grw G1 [] (lnk t G1 [] t2))) := HT2
  clear HT2
  generalize lnk t G1 [] t2 = T at Hc3 HT3 gl1 gl2
  have gl3 : T.1 ≤ t2.1 := by omega
  clear gl1
  have x0 := hA2.out.cell 0
  have x1 := hA2.out.cell 1
  have x2 := hA2.out.cell 2
  have xl := hA2.out.lt
  simp only [List.getElem?_cons_zero, List.getElem?_cons_succ] at x0 x1 x2
  go_wp2_with (fail)
  refine Hc3.out.mono ?_
  rintro e w3 ⟨rfl, ga3, gc3, hM3, hS3⟩
  have hA3 := Lib.hid (hS3.blk hA2.out rfl)
  have HM3 := Lib.hid hM3
  have HS3 := Lib.hid (HS2.out.trans hS3)
  clear hM3 hS3 x0 x1 x2 xl hA2
  have x0 := hA3.out.cell 0
  have x1 := hA3.out.cell 1
  have x2 := hA3.out.cell 2
  have xl := hA3.out.lt
  simp only [List.getElem?_cons_zero, List.getElem?_cons_succ] at x0 x1 x2
  have Hc4 := Lib.hid (fresh0 w0 bm T ev ga3 gc3 w3 HM3.out (by omega))
  go_wp2_with (fail)
  refine Hc4.out.mono ?_
  rintro e w4 ⟨rfl, hM4, hS4⟩
  have hA4 := Lib.hid (hS4.blk hA3.out rfl)
  have HS4 := Lib.hid (HS3.out.trans hS4)
  have Hc5 := Lib.hid (edge0 w0 bm (T.1 + 1, T.2) ev ga3 gc3 w4 hM4 G1 T.1 (by show T.2.length + 1 ≤ _; omega))
  clear hM4 hS4 x0 x1 x2 xl hA3
  have x0 := hA4.out.cell 0
  have x1 := hA4.out.cell 1
  have x2 := hA4.out.cell 2
  have xl := hA4.out.lt
  simp only [List.getElem?_cons_zero, List.getElem?_cons_succ] at x0 x1 x2
  obtain ⟨T1, T2⟩ := T
  dsimp only at *
  go_wp2_with (fail)
  refine Hc5.out.mono ?_
  rintro e w5 ⟨rfl, ga5, gc5, hM5, hS5⟩
  have HM5 := Lib.hid hM5
  have HS5 := Lib.hid (HS4.out.trans hS5)
  clear hM5 hS5
  go_wp2_with (fail)
  exact bodyPost_ret (v := .int .i64 (T1 : Int)) (by simp [results, Try.results47, go_sem]; try first | rfl | assumption | omega) rfl ⟨_, HT3.out, rfl, ga5, gc5, HM5.out, HS5.out⟩

set_option maxRecDepth 100000 in
set_option maxHeartbeats 1000000 in
theorem rmk_rep6 (w0 : World) (bm S sc : Nat) (sa : Option Addr) (cap b off : Nat) (c : Hd) (ck : Fo) (esa ea : Option Addr) (esc ec : Nat) (hcap : 1 ≤ cap) (hcap2 : cap ≤ 9223372036854775807) (e0 : w0.cell? ⟨b, off, none⟩ = some (.int .i64 c.k)) (e1 : w0.cell? ⟨b, off + 1, none⟩ = some (.slice esa c.set.length esc)) (e2 : w0.cell? ⟨b, off + 2, none⟩ = some (.slice ea ck.len ec)) (hsp : Sps w0 esa esc c.set) (hI : Items w0 ea ec ck) (hP : MkP w0 bm c ck) (f : Nat) (s : Bs) (ev : Value) (ga : Option Addr) (gc : Nat) (w : World) (hb : Below w0.heap.size w0 w) (hM : MkAt 95 w w0.heap.size bm (s.1 : Int) 0 ev ga gc s.2) (hn : s.1 + stE c ck + 2 ≤ 1000000) (hl : s.2.length + 2 * stE c ck + 4 ≤ 10000000) :
    Calls Try.prog 47 #[.pointer (some ⟨bm, 0, none⟩), .agg #[.int .i64 6, .slice sa S sc, .slice (some ⟨b, off, none⟩) 1 cap], .int .i64 (f : Int)] w (MqN w0 bm w ev s (stE c ck + 2) (2 * stE c ck + 4) (grw (bLoop (bE c ck) f s).1.2 [] (bLoop (bE c ck) f s).2)) := by
  have ebl : b < w0.heap.size := World.block_lt_of_cell? w0 _ e0
  have hmx : ck.len ≤ ec ∧ ec ≤ 9223372036854775807 := ⟨hI.le, hI.max⟩
  have hmx2 : c.set.length ≤ esc ∧ esc ≤ 9223372036854775807 := ⟨hsp.le, hsp.max⟩
  have HY : Hid (∀ W, Below w0.heap.size w0 W → (W.cell? ⟨b, off, none⟩ = some (.int .i64 c.k) ∧ W.cell? ⟨b, off + 1, none⟩ = some (.slice esa c.set.length esc) ∧ W.cell? ⟨b, off + 2, none⟩ = some (.slice ea ck.len ec) ∧ b < W.heap.size)) := Lib.hid (fun W hW => ⟨(hW.cell (p := ⟨b, off, none⟩) ebl).trans e0, (hW.cell (p := ⟨b, off + 1, none⟩) ebl).trans e1, (hW.cell (p := ⟨b, off + 2, none⟩) ebl).trans e2, Nat.lt_of_lt_of_le ebl hW.size⟩)
  have HP := Lib.hid (fun (s2 : Bs) g ga1 gc1 w1 h1 h2 h3 h4 => hP esa esc ea ec g s2 ev ga1 gc1 w1 hsp hI h1 h2 h3 h4)
  clear hP hsp hI e0 e1 e2
  have m0 := hM.box.cell 0
  have ml := hM.box.lt
  simp only [List.getElem?_cons_zero] at m0
  have hA0 := Blk.new w 45 #[.int .i64 6, .slice sa S sc, .slice (some ⟨b, off, none⟩) 1 cap]
  have hbn : Below w.heap.size w (w.alloc (.cells #[.int .i64 6, .slice sa S sc, .slice (some ⟨b, off, none⟩) 1 cap] 45)) := (Below.refl _ w).alloc (Nat.le_refl _) _
  have hM0 := hM.alloc (.cells #[.int .i64 6, .slice sa S sc, .slice (some ⟨b, off, none⟩) 1 cap] 45)
  have hS0 : Spares w0.heap.size (mkT 95) w (w.alloc (.cells #[.int .i64 6, .slice sa S sc, .slice (some ⟨b, off, none⟩) 1 cap] 45)) := Below.spares hbn hM.base_le
  have hb0 := hb.trans hS0.below
  obtain ⟨W0, hW0⟩ : ∃ W, Hid (w.alloc (.cells #[.int .i64 6, .slice sa S sc, .slice (some ⟨b, off, none⟩) 1 cap] 45) = W) := ⟨_, Lib.hid rfl⟩
  rw [hW0.out] at hM0 hS0 hb0
  have hA0 : Blk W0 w.heap.size 45 [.int .i64 6, .slice sa S sc, .slice (some ⟨b, off, none⟩) 1 cap] := by rw [← hW0.out]; exact hA0
  have hws : w.heap.size + 1 = W0.heap.size := by rw [← hW0.out]; simp
  have HS0 := Lib.hid hS0
  have HB0 := Lib.hid hb0
  have HM0 := Lib.hid hM0
  have HA0 := Lib.hid hA0
  clear hbn hM0 hM hS0 hb0 hb
  have x0 := HA0.out.cell 0
  have x1 := HA0.out.cell 1
  have x2 := HA0.out.cell 2
  have xl := HA0.out.lt
  simp only [List.getElem?_cons_zero, List.getElem?_cons_succ] at x0 x1 x2
  by_cases hgt : 2000 < s.1
  · have hgI : (2000 : Int) < (s.1 : Int) := by omega
    have HU := Lib.hid hgt
    generalize grw (bLoop (bE c ck) f s).1.2 [] (bLoop (bE c ck) f s).2 = R
    obtain ⟨s1, s2⟩ := s
    dsimp only at *
    clear hgt
    go_enter Try.func47, Try.ntmps47
    go_wp2_with (fail)
    rw [hW0.out]
    exact bodyPost_ret (v := .int .i64 ((0 : Nat) : Int)) (by simp [results, Try.results47, go_sem]; try first | rfl | assumption | omega) rfl ⟨(0, (s1, s2)), Mad.up 0 HU.out, rfl, ga, gc, HM0.out, HS0.out⟩
  have hgI : ¬ (2000 : Int) < (s.1 : Int) := by omega
  have Hc := Lib.hid (ahead0 w0 bm s ev ga gc W0 HM0.out f (by omega) (by omega))
  obtain ⟨gr1, gr2, _⟩ := grows_grw f [] s
  have HG := Lib.hid (Mad.of (grows_grw f [] s))
  have HR : Hid (grw (bLoop (bE c ck) f s).1.2 [] (bLoop (bE c ck) f s).2 = tl6 (grw f [] s).1 (bE c ck (grw f [] s).1 (grw f [] s).2).1 (bE c ck (grw f [] s).1 (grw f [] s).2).2) := Lib.hid (tl6_is _ f s)
  rw [HR.out]
  clear HR
  generalize grw f [] s = G at gr1 gr2 Hc HG ⊢
  obtain ⟨G1, G2⟩ := G
  obtain ⟨D, hD⟩ : ∃ D, Hid (stE c ck = D) := ⟨_, Lib.hid rfl⟩
  rw [hD.out] at HP hn hl ⊢
  have HT := Lib.hid (fun t : Nat × Bs => fun h : Mad G2 D (2 * D) (bE c ck G1 G2) t => ((Mad.trans (bE c ck) HG.out h).trans (fun b s => tl6 G1 b s) (Mad.of (grows_tl6 G1 t.1 t.2))).cast (d' := D + 2) (c' := 2 * D + 4) (by omega) (by omega))
  clear HG
  obtain ⟨s1, s2⟩ := s
  dsimp only at *
  dsimp only [itemV] at HP
  have HPg := Lib.hid (fun ga1 gc1 w1 h1 h2 h3 h4 => HP.out G2 G1 ga1 gc1 w1 h1 h2 h3 h4)
  clear HP
  generalize bE c ck G1 G2 = H at HPg HT ⊢
  go_enter Try.func47, Try.ntmps47
  go_wp2_with (fail)
  rw [hW0.out]
  refine Hc.out.mono ?_
  rintro e w1 ⟨rfl, ga1, gc1, hM1, hS1⟩
  have hA1 := Lib.hid (hS1.blk HA0.out rfl)
  have HB1 := Lib.hid (HB0.out.trans hS1.below)
  have HM1 := Lib.hid hM1
  have HS1 := Lib.hid (HS0.out.trans hS1)
  clear hM1 hS1 x0 x1 x2 xl m0 ml HB0
  obtain ⟨y0, y1, y2, yl⟩ := HY.out w1 HB1.out
  have x0 := hA1.out.cell 0
  have x1 := hA1.out.cell 1
  have x2 := hA1.out.cell 2
  have xl := hA1.out.lt
  simp only [List.getElem?_cons_zero, List.getElem?_cons_succ] at x0 x1 x2
  go_wp2_with (fail)
  refine (HPg.out ga1 gc1 w1 HB1.out HM1.out (by omega) (by omega)).mono ?_
  rintro e w2 ⟨⟨t, t2⟩, hmad, rfl, ga2, gc2, hM2, hS2⟩
  have HT2 := Lib.hid (HT.out (t, t2) hmad)
  have q1 := hmad.hi
  have q2 := hmad.len
  have hA2 := Lib.hid (hS2.blk hA1.out rfl)
  have HM2 := Lib.hid hM2
  have HS2 := Lib.hid (HS1.out.trans hS2)
  clear hmad hM2 hS2 x0 x1 x2 xl y0 y1 y2 yl hA1
  dsimp only at *
  have Hc3 := Lib.hid (edge0 w0 bm t2 ev ga2 gc2 w2 HM2.out t G1 (by omega))
  obtain ⟨gl1, gl2, _⟩ := grows_lnk t G1 [] t2
  have HT3 : Hid (Mad (s1, s2) (D + 2) (2 * D + 4) (tl6 G1 H.1 H.2) (grw t [] (lnk t G1 [] t2))) := HT2
  clear HT2
  generalize lnk t G1 [] t2 = T at Hc3 HT3 gl1 gl2
  have gl3 : T.1 ≤ t2.1 := by omega
  clear gl1
  have x0 := hA2.out.cell 0
  have x1 := hA2.out.cell 1
  have x2 := hA2.out.cell 2
  have xl := hA2.out.lt
  simp only [List.getElem?_cons_zero, List.getElem?_cons_succ] at x0 x1 x2
  go_wp2_with (fail)
  refine Hc3.out.mono ?_
  rintro e w3 ⟨rfl, ga3, gc3, hM3, hS3⟩
  have hA3 := Lib.hid (hS3.blk hA2.out rfl)
  have HM3 := Lib.hid hM3
  have HS3 := Lib.hid (HS2.out.trans hS3)
  clear hM3 hS3 x0 x1 x2 xl hA2
  have x0 := hA3.out.cell 0
  have x1 := hA3.out.cell 1
  have x2 := hA3.out.cell 2
  have xl := hA3.out.lt
  simp only [List.getElem?_cons_zero, List.getElem?_cons_succ] at x0 x1 x2
  have Hc4 := Lib.hid (fresh0 w0 bm T ev ga3 gc3 w3 HM3.out (by omega))
  go_wp2_with (fail)
  refine Hc4.out.mono ?_
  rintro e w4 ⟨rfl, hM4, hS4⟩
  have hA4 := Lib.hid (hS4.blk hA3.out rfl)
  have HS4 := Lib.hid (HS3.out.trans hS4)
  have Hc5 := Lib.hid (edge0 w0 bm (T.1 + 1, T.2) ev ga3 gc3 w4 hM4 t T.1 (by show T.2.length + 1 ≤ _; omega))
  clear hM4 hS4 x0 x1 x2 xl hA3
  have x0 := hA4.out.cell 0
  have x1 := hA4.out.cell 1
  have x2 := hA4.out.cell 2
  have xl := hA4.out.lt
  simp only [List.getElem?_cons_zero, List.getElem?_cons_succ] at x0 x1 x2
  obtain ⟨T1, T2⟩ := T
  dsimp only at *
  go_wp2_with (fail)
  refine Hc5.out.mono ?_
  rintro e w5 ⟨rfl, ga5, gc5, hM5, hS5⟩
  have HM5 := Lib.hid hM5
  have HS5 := Lib.hid (HS4.out.trans hS5)
  clear hM5 hS5
  go_wp2_with (fail)
  exact bodyPost_ret (v := .int .i64 (T1 : Int)) (by simp [results, Try.results47, go_sem]; try first | rfl | assumption | omega) rfl ⟨_, HT3.out, rfl, ga5, gc5, HM5.out, HS5.out⟩

set_option maxRecDepth 100000 in
set_option maxHeartbeats 1000000 in
theorem rmk_rep7 (w0 : World) (bm S sc : Nat) (sa : Option Addr) (cap b off : Nat) (c : Hd) (ck : Fo) (esa ea : Option Addr) (esc ec : Nat) (hcap : 1 ≤ cap) (hcap2 : cap ≤ 9223372036854775807) (e0 : w0.cell? ⟨b, off, none⟩ = some (.int .i64 c.k)) (e1 : w0.cell? ⟨b, off + 1, none⟩ = some (.slice esa c.set.length esc)) (e2 : w0.cell? ⟨b, off + 2, none⟩ = some (.slice ea ck.len ec)) (hsp : Sps w0 esa esc c.set) (hI : Items w0 ea ec ck) (hP : MkP w0 bm c ck) (f : Nat) (s : Bs) (ev : Value) (ga : Option Addr) (gc : Nat) (w : World) (hb : Below w0.heap.size w0 w) (hM : MkAt 95 w w0.heap.size bm (s.1 : Int) 0 ev ga gc s.2) (hn : s.1 + stE c ck + 2 ≤ 1000000) (hl : s.2.length + 2 * stE c ck + 4 ≤ 10000000) :
    Calls Try.prog 47 #[.pointer (some ⟨bm, 0, none⟩), .agg #[.int .i64 7, .slice sa S sc, .slice (some ⟨b, off, none⟩) 1 cap], .int .i64 (f : Int)] w (MqN w0 bm w ev s (stE c ck + 2) (2 * stE c ck + 4) (bOpt (bE c ck) f s)) := by
  have ebl : b < w0.heap.size := World.block_lt_of_cell? w0 _ e0
  have hmx : ck.len ≤ ec ∧ ec ≤ 9223372036854775807 := ⟨hI.le, hI.max⟩
  have hmx2 : c.set.length ≤ esc ∧ esc ≤ 9223372036854775807 := ⟨hsp.le, hsp.max⟩
  have HY : Hid (∀ W, Below w0.heap.size w0 W → (W.cell? ⟨b, off, none⟩ = some (.int .i64 c.k) ∧ W.cell? ⟨b, off + 1, none⟩ = some (.slice esa c.set.length esc) ∧ W.cell? ⟨b, off + 2, none⟩ = some (.slice ea ck.len ec) ∧ b < W.heap.size)) := Lib.hid (fun W hW => ⟨(hW.cell (p := ⟨b, off, none⟩) ebl).trans e0, (hW.cell (p := ⟨b, off + 1, none⟩) ebl).trans e1, (hW.cell (p := ⟨b, off + 2, none⟩) ebl).trans e2, Nat.lt_of_lt_of_le ebl hW.size⟩)
  have HP := Lib.hid (fun (s2 : Bs) g ga1 gc1 w1 h1 h2 h3 h4 => hP esa esc ea ec g s2 ev ga1 gc1 w1 hsp hI h1 h2 h3 h4)
  clear hP hsp hI e0 e1 e2
  have m0 := hM.box.cell 0
  have ml := hM.box.lt
  simp only [List.getElem?_cons_zero] at m0
  have hA0 := Blk.new w 45 #[.int .i64 7, .slice sa S sc, .slice (some ⟨b, off, none⟩) 1 cap]
  have hbn : Below w.heap.size w (w.alloc (.cells #[.int .i64 7, .slice sa S sc, .slice (some ⟨b, off, none⟩) 1 cap] 45)) := (Below.refl _ w).alloc (Nat.le_refl _) _
  have hM0 := hM.alloc (.cells #[.int .i64 7, .slice sa S sc, .slice (some ⟨b, off, none⟩) 1 cap] 45)
  have hS0 : Spares w0.heap.size (mkT 95) w (w.alloc (.cells #[.int .i64 7, .slice sa S sc, .slice (some ⟨b, off, none⟩) 1 cap] 45)) := Below.spares hbn hM.base_le
  have hb0 := hb.trans hS0.below
  obtain ⟨W0, hW0⟩ : ∃ W, Hid (w.alloc (.cells #[.int .i64 7, .slice sa S sc, .slice (some ⟨b, off, none⟩) 1 cap] 45) = W) := ⟨_, Lib.hid rfl⟩
  rw [hW0.out] at hM0 hS0 hb0
  have hA0 : Blk W0 w.heap.size 45 [.int .i64 7, .slice sa S sc, .slice (some ⟨b, off, none⟩) 1 cap] := by rw [← hW0.out]; exact hA0
  have hws : w.heap.size + 1 = W0.heap.size := by rw [← hW0.out]; simp
  have HS0 := Lib.hid hS0
  have HB0 := Lib.hid hb0
  have HM0 := Lib.hid hM0
  have HA0 := Lib.hid hA0
  clear hbn hM0 hM hS0 hb0 hb
  have x0 := HA0.out.cell 0
  have x1 := HA0.out.cell 1
  have x2 := HA0.out.cell 2
  have xl := HA0.out.lt
  simp only [List.getElem?_cons_zero, List.getElem?_cons_succ] at x0 x1 x2
  by_cases hgt : 2000 < s.1
  · have hgI : (2000 : Int) < (s.1 : Int) := by omega
    have HU := Lib.hid hgt
    generalize bOpt (bE c ck) f s = R
    obtain ⟨s1, s2⟩ := s
    dsimp only at *
    clear hgt
    go_enter Try.func47, Try.ntmps47
    go_wp2_with (fail)
    rw [hW0.out]
    exact bodyPost_ret (v := .int .i64 ((0 : Nat) : Int)) (by simp [results, Try.results47, go_sem]; try first | rfl | assumption | omega) rfl ⟨(0, (s1, s2)), Mad.up 0 HU.out, rfl, ga, gc, HM0.out, HS0.out⟩
  have hgI : ¬ (2000 : Int) < (s.1 : Int) := by omega
  have Hc := Lib.hid (ahead0 w0 bm s ev ga gc W0 HM0.out f (by omega) (by omega))
  obtain ⟨gr1, gr2, _⟩ := grows_grw f [] s
  have HG := Lib.hid (Mad.of (grows_grw f [] s))
  have HR : Hid (bOpt (bE c ck) f s = tl7 f (bE c ck (grw f [] s).1 (grw f [] s).2).1 (bE c ck (grw f [] s).1 (grw f [] s).2).2) := Lib.hid (tl7_is _ f s)
  rw [HR.out]
  clear HR
  generalize grw f [] s = G at gr1 gr2 Hc HG ⊢
  obtain ⟨G1, G2⟩ := G
  obtain ⟨D, hD⟩ : ∃ D, Hid (stE c ck = D) := ⟨_, Lib.hid rfl⟩
  rw [hD.out] at HP hn hl ⊢
  have HT := Lib.hid (fun t : Nat × Bs => fun h : Mad G2 D (2 * D) (bE c ck G1 G2) t => ((Mad.trans (bE c ck) HG.out h).trans (fun b s => tl7 f b s) (Mad.of (grows_tl7 f t.1 t.2))).cast (d' := D + 2) (c' := 2 * D + 4) (by omega) (by omega))
  clear HG
  obtain ⟨s1, s2⟩ := s
  dsimp only at *
  dsimp only [itemV] at HP
  have HPg := Lib.hid (fun ga1 gc1 w1 h1 h2 h3 h4 => HP.out G2 G1 ga1 gc1 w1 h1 h2 h3 h4)
  clear HP
  generalize bE c ck G1 G2 = H at HPg HT ⊢
  go_enter Try.func47, Try.ntmps47
  go_wp2_with (fail)
  rw [hW0.out]
  refine Hc.out.mono ?_
  rintro e w1 ⟨rfl, ga1, gc1, hM1, hS1⟩
  have hA1 := Lib.hid (hS1.blk HA0.out rfl)
  have HB1 := Lib.hid (HB0.out.trans hS1.below)
  have HM1 := Lib.hid hM1
  have HS1 := Lib.hid (HS0.out.trans hS1)
  clear hM1 hS1 x0 x1 x2 xl m0 ml HB0
  obtain ⟨y0, y1, y2, yl⟩ := HY.out w1 HB1.out
  have x0 := hA1.out.cell 0
  have x1 := hA1.out.cell 1
  have x2 := hA1.out.cell 2
  have xl := hA1.out.lt
  simp only [List.getElem?_cons_zero, List.getElem?_cons_succ] at x0 x1 x2
  go_wp2_with (fail)
  refine (HPg.out ga1 gc1 w1 HB1.out HM1.out (by omega) (by omega)).mono ?_
  rintro e w2 ⟨⟨t, t2⟩, hmad, rfl, ga2, gc2, hM2, hS2⟩
  have HT2 := Lib.hid (HT.out (t, t2) hmad)
  have q1 := hmad.hi
  have q2 := hmad.len
  have hA2 := Lib.hid (hS2.blk hA1.out rfl)
  have HM2 := Lib.hid hM2
  have HS2 := Lib.hid (HS1.out.trans hS2)
  clear hmad hM2 hS2 x0 x1 x2 xl y0 y1 y2 yl hA1
  dsimp only at *
  have HT3 : Hid (Mad (s1, s2) (D + 2) (2 * D + 4) (tl7 f H.1 H.2) (t2.1, lnk f t2.1 [] (lnk t t2.1 [] (t2.1 + 1, t2.2)))) := Lib.hid (by rw [← tl7_eq]; exact HT2.out)
  clear HT2
  have Hc4 := Lib.hid (fresh0 w0 bm t2 ev ga2 gc2 w2 HM2.out (by omega))
  have x0 := hA2.out.cell 0
  have x1 := hA2.out.cell 1
  have x2 := hA2.out.cell 2
  have xl := hA2.out.lt
  simp only [List.getElem?_cons_zero, List.getElem?_cons_succ] at x0 x1 x2
  go_wp2_with (fail)
  refine Hc4.out.mono ?_
  rintro e w4 ⟨rfl, hM4, hS4⟩
  have hA4 := Lib.hid (hS4.blk hA2.out rfl)
  have HS4 := Lib.hid (HS2.out.trans hS4)
  have Hc5 := Lib.hid (edge0 w0 bm (t2.1 + 1, t2.2) ev ga2 gc2 w4 hM4 t t2.1 (by show t2.2.length + 1 ≤ _; omega))
  clear hM4 hS4 x0 x1 x2 xl hA2
  have x0 := hA4.out.cell 0
  have x1 := hA4.out.cell 1
  have x2 := hA4.out.cell 2
  have xl := hA4.out.lt
  simp only [List.getElem?_cons_zero, List.getElem?_cons_succ] at x0 x1 x2
  obtain ⟨T1, T2⟩ := t2
  dsimp only at *
  go_wp2_with (fail)
  refine Hc5.out.mono ?_
  rintro e w5 ⟨rfl, ga5, gc5, hM5, hS5⟩
  have HS5 := Lib.hid (HS4.out.trans hS5)
  have hlen : (lnk t T1 [] (T1 + 1, T2)).2.length = T2.length + 1 := by simp [lnk]
  have Hc6 := Lib.hid (edge0 w0 bm (lnk t T1 [] (T1 + 1, T2)) ev ga5 gc5 w5 hM5 f T1 (by omega))
  clear hM5 hS5 hlen
  go_wp2_with (fail)
  refine Hc6.out.mono ?_
  rintro e w6 ⟨rfl, ga6, gc6, hM6, hS6⟩
  have HM6 := Lib.hid hM6
  have HS6 := Lib.hid (HS5.out.trans hS6)
  clear hM6 hS6
  go_wp2_with (fail)
  exact bodyPost_ret (v := .int .i64 (T1 : Int)) (by simp [results, Try.results47, go_sem]; try first | rfl | assumption | omega) rfl ⟨(T1, lnk f T1 [] (lnk t T1 [] (T1 + 1, T2))), HT3.out, rfl, ga6, gc6, HM6.out, HS6.out⟩
end Go.Proofs.Ytngbfjimmdkfeaa

