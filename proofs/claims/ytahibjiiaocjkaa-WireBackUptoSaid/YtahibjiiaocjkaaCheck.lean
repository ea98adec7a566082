/- wire.plain, wire.Check, wire.Size. -/
import Derived.Test.YtahibjiiaocjkaaAll
namespace Go.Proofs.Ytahibjiiaocjkaa
open Go.RowKit Go.Shelf

attribute [local go_sem] Oper.semAt_some

theorem all_walks (w0 w : World) (Bs Bi : Nat) (h : Hd) (kids : Fo) (ka : Option Addr) (kcap : Nat) (hk : Items w0 ka kcap kids) (hW0 : Below w0.heap.size w0 w) (hN : kids.size ≤ 1099511627776)
    (c0 : w.cell? ⟨Bs, 0, none⟩ = some (.int .i64 h.k)) (c1 : w.cell? ⟨Bs, 1, none⟩ = some (.int .i64 h.n)) (c2 : w.cell? ⟨Bs, 2, none⟩ = some (.string h.s)) (c3 : w.cell? ⟨Bs, 3, none⟩ = some (.slice ka kids.len kcap))
    (hi0 : w.heap[Bi]? = some (.cells #[inV] 55 (0, 0))) :
    Walks Try.prog 49 #[.pointer (some ⟨Bs, 0, none⟩), .pointer (some ⟨Bi, 0, none⟩)] encs (Good (Fo.pre 1 (.cons h kids .nil))) (Full (Fo.pre 1 (.cons h kids .nil))) w0.heap.size itT w := by
  intro l J Jx W hW hJ hJx hY h0
  have hB : Bs < w.heap.size := World.block_lt_of_cell? w _ c0
  have hc : ∀ o, W.cell? ⟨Bs, o, none⟩ = w.cell? ⟨Bs, o, none⟩ := fun o => hW.cell (p := ⟨Bs, o, none⟩) hB
  exact all1_in w0 W Bs Bi h kids ka kcap hk (hW0.trans (hW.mono hW0.size)) hN ((hc 0).trans c0) ((hc 1).trans c1) ((hc 2).trans c2) ((hc 3).trans c3) ((hW.block Bi (Array.getElem?_eq_some_iff.1 hi0).1).trans hi0) l J Jx hJ hJx hY h0

/-- Whether an item has just what its kind has. -/
def plainB (h : Hd) (len : Nat) : Bool :=
  if h.k == 1 then h.s.toList.isEmpty && ((len : Int) == 0)
  else if h.k == 2 then (h.n == 0) && ((len : Int) == 0)
  else if h.k == 3 then (h.n == 0) && h.s.toList.isEmpty
  else false

theorem ret_bool {a b : Bool} (h : a = b) : Ending.returned (.bool a) = .returned (.bool b) := by rw [h]

set_option maxRecDepth 100000 in
set_option maxHeartbeats 400000 in
theorem plain_any (h : Hd) (a : Option Addr) (len cap : Nat) (w : World) :
    Calls Try.prog 36 #[itemV h a len cap] w fun e w' => e = .returned (.bool (plainB h len)) ∧ w.grownBy w' none := by
  obtain ⟨k, n, s⟩ := h
  go_enter Try.func36, Try.ntmps36
  go_wp2
  all_goals
    go_ret
    exact ⟨ret_bool (by simp [plainB, *]), World.grownBy_alloc w _ none⟩

def checkE (all : List Nd) : Int :=
  if all.all (fun x => plainB x.h x.len) then (if all.all (fun x => decide (x.d ≤ 40)) then 0 else 3) else 1

/-- Between two rounds: nothing was found that may not be; the error so far. -/
def ChkI (w : World) (pre : List Nx) (W : World) : Prop :=
  Below w.heap.size w W ∧ (Boxed W (w.heap.size + 1) 27 (.int .i64 0) ∧ (Boxed W (w.heap.size + 1 + 1) 27 (.int .i64 (if pre.all (fun x => decide (x.nd.d ≤ 40)) then 0 else 3)) ∧ pre.all (fun x => plainB x.nd.h x.nd.len) = true))
/-- Behind a round that has found one that may not be. -/
def ChkX (w : World) (pre : List Nx) (W : World) : Prop :=
  Below w.heap.size w W ∧ (Boxed W (w.heap.size + 1) 27 (.int .i64 1) ∧ pre.all (fun x => plainB x.nd.h x.nd.len) = false)

set_option maxRecDepth 100000 in
set_option maxHeartbeats 400000 in
theorem wcheck_any (hh : Hd) (kids : Fo) (a : Option Addr) (cap : Nat) (w : World) (hk : Items w a cap kids) (hN : kids.size ≤ 1099511627776) :
    Calls Try.prog 14 #[itemV hh a kids.len cap] w fun e w' => e = .returned (.int .i64 (checkE (Fo.pre 1 (.cons hh kids .nil)))) ∧ Below w.heap.size w w' := by
  refine (callsIn_wide (n := 0)).1 ?_
  refine callsIn_of_wp_marks Try.func14 rfl trivial ?_ rfl
  simp only [Try.ntmps14, List.size_toArray, List.length_cons, List.length_nil, Nat.reduceAdd, Nat.reduceSub, Array.replicate_succ, Array.replicate_zero, List.push_toArray, List.append_toArray, List.nil_append, List.cons_append]
  gi_wp2_with (fail)
  refine ⟨trivial, rfl, ((callsIn_wide (n := 0)).2 (all_any _ rfl _)).mono ?_⟩
  rintro e w' ⟨rfl, rfl⟩
  gi_wp2_with (fail)
  have hbel : Below w.heap.size w (((((w.alloc (.cells #[.int .i64 hh.k, .int .i64 hh.n, .string hh.s, .slice a kids.len cap] 24)).alloc (.cells #[.int .i64 0] 27)).alloc (.cells #[.int .i64 0] 27)).alloc (.cells #[.int .i64 hh.k, .int .i64 hh.n, .string hh.s, .slice a kids.len cap] 24)).alloc (.cells #[inV] 55)) :=
    (((((Below.refl _ w).alloc (Nat.le_refl _) _).alloc (by simp) _).alloc (by simp; omega) _).alloc (by simp; omega) _).alloc (by simp; omega) _
  have hB3 := (Blk.new (((w.alloc (.cells #[.int .i64 hh.k, .int .i64 hh.n, .string hh.s, .slice a kids.len cap] 24)).alloc (.cells #[.int .i64 0] 27)).alloc (.cells #[.int .i64 0] 27)) 24 #[.int .i64 hh.k, .int .i64 hh.n, .string hh.s, .slice a kids.len cap]).alloc (.cells #[inV] 55)
  have hBi := World.alloc_heap_new ((((w.alloc (.cells #[.int .i64 hh.k, .int .i64 hh.n, .string hh.s, .slice a kids.len cap] 24)).alloc (.cells #[.int .i64 0] 27)).alloc (.cells #[.int .i64 0] 27)).alloc (.cells #[.int .i64 hh.k, .int .i64 hh.n, .string hh.s, .slice a kids.len cap] 24)) (.cells #[inV] 55)
  rw [World.size_alloc, World.size_alloc, World.size_alloc, World.size_alloc] at hBi
  have hb1 : Boxed (((((w.alloc (.cells #[.int .i64 hh.k, .int .i64 hh.n, .string hh.s, .slice a kids.len cap] 24)).alloc (.cells #[.int .i64 0] 27)).alloc (.cells #[.int .i64 0] 27)).alloc (.cells #[.int .i64 hh.k, .int .i64 hh.n, .string hh.s, .slice a kids.len cap] 24)).alloc (.cells #[inV] 55)) (w.heap.size + 1) 27 (.int .i64 0) := by
    have := (Boxed.new (w.alloc (.cells #[.int .i64 hh.k, .int .i64 hh.n, .string hh.s, .slice a kids.len cap] 24)) 27 (.int .i64 0))
    rw [World.size_alloc] at this
    exact ((this.alloc _).alloc _).alloc _
  have hb2 : Boxed (((((w.alloc (.cells #[.int .i64 hh.k, .int .i64 hh.n, .string hh.s, .slice a kids.len cap] 24)).alloc (.cells #[.int .i64 0] 27)).alloc (.cells #[.int .i64 0] 27)).alloc (.cells #[.int .i64 hh.k, .int .i64 hh.n, .string hh.s, .slice a kids.len cap] 24)).alloc (.cells #[inV] 55)) (w.heap.size + 1 + 1) 27 (.int .i64 0) := by
    have := (Boxed.new ((w.alloc (.cells #[.int .i64 hh.k, .int .i64 hh.n, .string hh.s, .slice a kids.len cap] 24)).alloc (.cells #[.int .i64 0] 27)) 27 (.int .i64 0))
    rw [World.size_alloc, World.size_alloc] at this
    exact (this.alloc _).alloc _
  rw [World.size_alloc, World.size_alloc, World.size_alloc] at hB3
  have hws : (((((w.alloc (.cells #[.int .i64 hh.k, .int .i64 hh.n, .string hh.s, .slice a kids.len cap] 24)).alloc (.cells #[.int .i64 0] 27)).alloc (.cells #[.int .i64 0] 27)).alloc (.cells #[.int .i64 hh.k, .int .i64 hh.n, .string hh.s, .slice a kids.len cap] 24)).alloc (.cells #[inV] 55)).heap.size = w.heap.size + 1 + 1 + 1 + 1 + 1 := by simp
  generalize (((((w.alloc (.cells #[.int .i64 hh.k, .int .i64 hh.n, .string hh.s, .slice a kids.len cap] 24)).alloc (.cells #[.int .i64 0] 27)).alloc (.cells #[.int .i64 0] 27)).alloc (.cells #[.int .i64 hh.k, .int .i64 hh.n, .string hh.s, .slice a kids.len cap] 24)).alloc (.cells #[inV] 55)) = wl at hbel hB3 hBi hb1 hb2 hws ⊢
  have Hws := Lib.hid hws
  clear hws
  refine range_law (T := itT) (n₀ := w.heap.size) (encs := encs) (Good := Good (Fo.pre 1 (.cons hh kids .nil))) (Full := Full (Fo.pre 1 (.cons hh kids .nil))) (gf := 49) (lb := #[.pointer (some ⟨w.heap.size + 1 + 1 + 1, 0, none⟩), .pointer (some ⟨w.heap.size + 1 + 1 + 1 + 1, 0, none⟩)]) rfl (enters_of Try.func49 (by kernel_rfl) rfl)
    hbel.size (all_walks w wl (w.heap.size + 1 + 1 + 1) (w.heap.size + 1 + 1 + 1 + 1) hh kids a cap hk hbel hN (hB3.cell 0) (hB3.cell 1) (hB3.cell 2) (hB3.cell 3) hBi) (fun _ => rfl)
    (ChkI w) (ChkX w)
    ?bI ?bIx ?h0 ?round ?done ?stop
  case bI => exact (bears_below hbel.size (Nat.le_refl _)).and ((bears_boxed _ _ _ (by decide) _).and ((bears_boxed _ _ _ (by decide) _).and (bears_pure _ _ _)))
  case bIx => exact (bears_below hbel.size (Nat.le_refl _)).and ((bears_boxed _ _ _ (by decide) _).and (bears_pure _ _ _))
  case h0 => exact ⟨hbel, hb1, by simpa using hb2, rfl⟩
  case round =>
    rintro l pre ⟨⟨d, hd, len⟩, xa, xcap⟩ W hl ⟨r, hr⟩ hI hgood
    obtain ⟨hB, h1, h2, hp⟩ := hI
    have Hp := Lib.hid hp
    clear hp hgood
    dsimp only [encs, itemV]
    have hws : w.heap.size + 4 ≤ wl.heap.size := by have := Hws.out; omega
    have hlW : l < W.heap.size := (Array.getElem?_eq_some_iff.1 hr).1
    gi_wp2_with (fail)
    refine ⟨(KeepsOthers.alloc W _).from _, Spares.grown (World.grownBy_alloc W _ none) hB.size (fun r e => by cases e), fun W2 hg2 => ?_⟩
    have hx := (Blk.new W 24 #[.int .i64 hd.k, .int .i64 hd.n, .string hd.s, .slice xa len xcap]).kept hg2 (by simp; omega)
    have hb1 := (h1.alloc (.cells #[.int .i64 hd.k, .int .i64 hd.n, .string hd.s, .slice xa len xcap] 24)).kept hg2 (by simp; omega)
    have hb2 := (h2.alloc (.cells #[.int .i64 hd.k, .int .i64 hd.n, .string hd.s, .slice xa len xcap] 24)).kept hg2 (by simp; omega)
    have hB2 : Below w.heap.size w W2 := hB.trans (((Below.refl w.heap.size W).alloc hB.size _).grown hg2 (by have := hB.size; simp; omega) (fun k e => by cases e; omega))
    have x0 := hx.cell 0
    have x1 := hx.cell 1
    have x2 := hx.cell 2
    have x3 := hx.cell 3
    simp only [List.getElem?_cons_zero, List.getElem?_cons_succ] at x0 x1 x2 x3
    clear hx h1 h2 hg2 hr hB hlW
    gi_wp2_with (fail)
    refine ⟨trivial, rfl, (CallsIn.inRound l ((callsIn_wide (n := 0)).2 (plain_any hd xa len xcap _))).mono ?_⟩
    rintro e W3 ⟨rfl, hg3⟩
    have hc1 := hb1.kept hg3 (by simp)
    have hc2 := hb2.kept hg3 (by simp)
    have k1 := hc1.cell
    have k2 := hc2.cell
    have f1 := hc1.frozen
    have f2 := hc2.frozen
    have hs3 : Spares w.heap.size itT W2 W3 := Spares.grown hg3 hB2.size (fun r e => by cases e)
    have hk3 : KeepsFrom wl.heap.size W2 W3 := KeepsFrom.of_grownBy hg3 (fun r e => by cases e)
    have hB3' : Below w.heap.size w W3 := hB2.trans hs3.below
    clear x0 x1 x2 x3 hb1 hb2 hg3
    by_cases hpl : plainB hd len = true
    · rw [hpl]
      by_cases hd40 : d ≤ 40
      · gi_wp2
        refine ⟨hk3, hs3, hB3', hc1, ?_, ?_⟩
        · rw [List.all_append]; simpa [hd40] using hc2
        · rw [List.all_append, Hp.out]; simp [hpl]
      · gi_wp2
        have hg4 := grownBy_set W3 (w.heap.size + 1 + 1) 0 (.int .i64 3)
        have hc4 := hc2.set (.int .i64 3)
        refine ⟨hk3.trans ((KeepsOthers.setCell W3 _ _).from _), hs3.trans (Spares.grown hg4 hB3'.size (fun r e => by cases e; exact ⟨by omega, fun cs t fr hcs => by rw [show W3.heap[w.heap.size + 1 + 1]? = _ from hc2] at hcs; cases hcs; decide⟩)), hB3'.setCell (p := ⟨w.heap.size + 1 + 1, 0, none⟩) (by simp; omega) _, hc1.kept hg4 (by simp), ?_, ?_⟩
        · rw [List.all_append]; simpa [hd40] using hc4
        · rw [List.all_append, Hp.out]; simp [hpl]
    · have hpl' : plainB hd len = false := by simpa using hpl
      rw [hpl']
      gi_wp2
      have hc4 := hc1.set (.int .i64 1)
      exact ⟨hk3.trans ((KeepsOthers.setCell W3 _ _).from _), hB3'.setCell (p := ⟨w.heap.size + 1, 0, none⟩) (by simp) _, hc4, by rw [List.all_append]; simp [hpl']⟩
  case done =>
    rintro D xs W hD hfull hI hK
    obtain ⟨hB, h1, h2, hp⟩ := hI
    have Hp := Lib.hid hp
    clear hp
    have hws : w.heap.size + 4 ≤ wl.heap.size := by have := Hws.out; omega
    have k1 := h1.cell
    have k2 := h2.cell
    have f1 := h1.frozen
    have f2 := h2.frozen
    have hres : checkE (Fo.pre 1 (.cons hh kids .nil)) = if xs.all (fun x => decide (x.nd.d ≤ 40)) then 0 else 3 := by
      unfold checkE
      rw [← (show _ = _ from hfull), List.all_map, List.all_map]
      rw [if_pos (by simpa [Function.comp_def] using Hp.out)]
      rfl
    have Hres := Lib.hid hres
    clear hres hfull
    generalize (if xs.all (fun x => decide (x.nd.d ≤ 40)) then (0 : Int) else 3) = E at k2 h2 Hres
    gi_wp2
    have hK' := (KeepsOthers.setCell W ⟨w.heap.size + 1, 0, none⟩ (.int .i64 E)).same D _ hK rfl
    refine ⟨by simp, .inl ⟨_, _, rfl, run_takeDeferred hK', ?_⟩⟩
    have hc5 := (h1.set (.int .i64 E)).kept (grownBy_putObj' _ D (.deferred none)) (by simp; omega)
    have hc6 := hc5.cell
    refine ⟨.int .i64 E, ?_, by rw [Hres.out], ?_⟩
    · simp [results, Try.f14, go_sem, hc6]
    · exact (hB.setCell (p := ⟨w.heap.size + 1, 0, none⟩) (by simp) _).trans ((Below.refl w.heap.size _).grown (grownBy_putObj' _ D (.deferred none)) (by have := hB.size; simp [World.setCell]; omega) (fun k e => by cases e; omega))
  case stop =>
    rintro D pre W hD hgood hI hK
    obtain ⟨hB, h1, hp⟩ := hI
    have hws : w.heap.size + 4 ≤ wl.heap.size := by have := Hws.out; omega
    have hres : checkE (Fo.pre 1 (.cons hh kids .nil)) = 1 := by
      obtain ⟨r, hr⟩ := hgood
      unfold checkE
      rw [← hr, List.all_append, List.all_map]
      rw [if_neg]
      simp only [Function.comp_def, hp]
      simp
    have k1 := h1.cell
    have f1 := h1.frozen
    have Hres := Lib.hid hres
    clear hres hgood hp
    gi_wp2
    refine ⟨by simp, .inl ⟨_, _, rfl, run_takeDeferred hK, ?_⟩⟩
    have hc5 := h1.kept (grownBy_putObj' _ D (.deferred none)) (by simp; omega)
    have hc6 := hc5.cell
    refine ⟨.int .i64 1, ?_, by rw [Hres.out], ?_⟩
    · simp [results, Try.f14, go_sem, hc6]
    · exact hB.trans ((Below.refl w.heap.size _).grown (grownBy_putObj' _ D (.deferred none)) hB.size (fun k e => by cases e; omega))
end Go.Proofs.Ytahibjiiaocjkaa
