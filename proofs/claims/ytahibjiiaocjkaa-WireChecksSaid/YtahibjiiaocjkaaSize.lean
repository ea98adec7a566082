/- wire.Size: how many items the walk over all meets. -/
import Derived.Test.YtahibjiiaocjkaaSame
namespace Go.Proofs.Ytahibjiiaocjkaa
open Go.RowKit Go.Shelf

attribute [local go_sem] Oper.semAt_some

def SizI (w : World) (pre : List Nx) (W : World) : Prop :=
  Below w.heap.size w W ∧ Boxed W (w.heap.size + 1) 3 (.int .i64 (pre.length : Int))
def SizX (_ : World) (_ : List Nx) (_ : World) : Prop := False

set_option maxRecDepth 100000 in
set_option maxHeartbeats 400000 in
theorem wsize_any (hh : Hd) (kids : Fo) (a : Option Addr) (cap : Nat) (w : World) (hk : Items w a cap kids) (hN : kids.size ≤ 1099511627776) :
    Calls Try.prog 18 #[itemV hh a kids.len cap] w fun e w' => e = .returned (.int .i64 ((kids.size : Int) + 1)) ∧ Below w.heap.size w w' := by
  refine (callsIn_wide (n := 0)).1 ?_
  refine callsIn_of_wp_marks Try.func18 rfl trivial ?_ rfl
  simp only [Try.ntmps18, List.size_toArray, List.length_cons, List.length_nil, Nat.reduceAdd, Nat.reduceSub, Array.replicate_succ, Array.replicate_zero, List.push_toArray, List.append_toArray, List.nil_append, List.cons_append]
  gi_wp2_with (fail)
  refine ⟨trivial, rfl, ((callsIn_wide (n := 0)).2 (all_any _ rfl _)).mono ?_⟩
  rintro e w' ⟨rfl, rfl⟩
  gi_wp2_with (fail)
  have hbel : Below w.heap.size w ((((w.alloc (.cells #[.int .i64 hh.k, .int .i64 hh.n, .string hh.s, .slice a kids.len cap] 24)).alloc (.cells #[.int .i64 0] 3)).alloc (.cells #[.int .i64 hh.k, .int .i64 hh.n, .string hh.s, .slice a kids.len cap] 24)).alloc (.cells #[inV] 55)) :=
    ((((Below.refl _ w).alloc (Nat.le_refl _) _).alloc (by simp) _).alloc (by simp; omega) _).alloc (by simp; omega) _
  have hB3 := (Blk.new ((w.alloc (.cells #[.int .i64 hh.k, .int .i64 hh.n, .string hh.s, .slice a kids.len cap] 24)).alloc (.cells #[.int .i64 0] 3)) 24 #[.int .i64 hh.k, .int .i64 hh.n, .string hh.s, .slice a kids.len cap]).alloc (.cells #[inV] 55)
  have hBi := World.alloc_heap_new (((w.alloc (.cells #[.int .i64 hh.k, .int .i64 hh.n, .string hh.s, .slice a kids.len cap] 24)).alloc (.cells #[.int .i64 0] 3)).alloc (.cells #[.int .i64 hh.k, .int .i64 hh.n, .string hh.s, .slice a kids.len cap] 24)) (.cells #[inV] 55)
  rw [World.size_alloc, World.size_alloc, World.size_alloc] at hBi
  have hb1 : Boxed ((((w.alloc (.cells #[.int .i64 hh.k, .int .i64 hh.n, .string hh.s, .slice a kids.len cap] 24)).alloc (.cells #[.int .i64 0] 3)).alloc (.cells #[.int .i64 hh.k, .int .i64 hh.n, .string hh.s, .slice a kids.len cap] 24)).alloc (.cells #[inV] 55)) (w.heap.size + 1) 3 (.int .i64 0) := by
    have := (Boxed.new (w.alloc (.cells #[.int .i64 hh.k, .int .i64 hh.n, .string hh.s, .slice a kids.len cap] 24)) 3 (.int .i64 0))
    rw [World.size_alloc] at this
    exact (this.alloc _).alloc _
  rw [World.size_alloc, World.size_alloc] at hB3
  have hws : ((((w.alloc (.cells #[.int .i64 hh.k, .int .i64 hh.n, .string hh.s, .slice a kids.len cap] 24)).alloc (.cells #[.int .i64 0] 3)).alloc (.cells #[.int .i64 hh.k, .int .i64 hh.n, .string hh.s, .slice a kids.len cap] 24)).alloc (.cells #[inV] 55)).heap.size = w.heap.size + 1 + 1 + 1 + 1 := by simp
  generalize ((((w.alloc (.cells #[.int .i64 hh.k, .int .i64 hh.n, .string hh.s, .slice a kids.len cap] 24)).alloc (.cells #[.int .i64 0] 3)).alloc (.cells #[.int .i64 hh.k, .int .i64 hh.n, .string hh.s, .slice a kids.len cap] 24)).alloc (.cells #[inV] 55)) = wl at hbel hB3 hBi hb1 hws ⊢
  have Hws := Lib.hid hws
  clear hws
  refine range_law (T := itT) (n₀ := w.heap.size) (encs := encs) (Good := Good (Fo.pre 1 (.cons hh kids .nil))) (Full := Full (Fo.pre 1 (.cons hh kids .nil))) (gf := 49) (lb := #[.pointer (some ⟨w.heap.size + 1 + 1, 0, none⟩), .pointer (some ⟨w.heap.size + 1 + 1 + 1, 0, none⟩)]) rfl (enters_of Try.func49 (by kernel_rfl) rfl)
    hbel.size (all_walks w wl (w.heap.size + 1 + 1) (w.heap.size + 1 + 1 + 1) hh kids a cap hk hbel hN (hB3.cell 0) (hB3.cell 1) (hB3.cell 2) (hB3.cell 3) hBi) (fun _ => rfl)
    (SizI w) (SizX w)
    ?bI ?bIx ?h0 ?round ?done ?stop
  case bI => exact (bears_below hbel.size (Nat.le_refl _)).and (bears_boxed _ _ _ (by decide) _)
  case bIx => exact bears_pure _ _ _
  case h0 => exact ⟨hbel, hb1⟩
  case round =>
    rintro l pre ⟨⟨d, hd, len⟩, xa, xcap⟩ W hl ⟨r, hr⟩ hI hgood
    obtain ⟨hB, h1⟩ := hI
    have hpl : Hid (pre.length ≤ 1099511627777) := by
      obtain ⟨r', hr'⟩ := hgood
      have := congrArg List.length hr'
      rw [Fo.pre_length] at this
      simp [Fo.size] at this
      exact Lib.hid (by omega)
    clear hgood
    dsimp only [encs, itemV]
    have hws : w.heap.size + 3 ≤ wl.heap.size := by have := Hws.out; omega
    have hlW : l < W.heap.size := (Array.getElem?_eq_some_iff.1 hr).1
    gi_wp2_with (fail)
    refine ⟨KeepsFrom.of_grownBy (row := none) ⟨rfl, rfl, rfl, Nat.le_refl _, fun _ _ _ => rfl⟩ (fun r e => by cases e), Spares.grown (row := none) ⟨rfl, rfl, rfl, Nat.le_refl _, fun _ _ _ => rfl⟩ hB.size (fun r e => by cases e), fun W2 hg2 => ?_⟩
    have hb1 := h1.kept hg2 (by simp; omega)
    have hB2 : Below w.heap.size w W2 := hB.trans ((Below.refl w.heap.size W).grown hg2 hB.size (fun k e => by cases e; omega))
    have k1 := hb1.cell
    have f1 := hb1.frozen
    have hpl' := hpl.out
    clear h1 hg2 hr hB hlW
    gi_wp2
    have hg4 := grownBy_set W2 (w.heap.size + 1) 0 (.int .i64 ((pre.length : Int) + 1))
    have hc4 := hb1.set (.int .i64 ((pre.length : Int) + 1))
    refine ⟨(KeepsOthers.setCell W2 _ _).from _, Spares.grown hg4 hB2.size (fun r e => by cases e; exact ⟨by omega, fun cs t fr hcs => by rw [show W2.heap[w.heap.size + 1]? = _ from hb1] at hcs; cases hcs; decide⟩), hB2.setCell (p := ⟨w.heap.size + 1, 0, none⟩) (by simp) _, ?_⟩
    rw [List.length_append]; simpa using hc4
  case done =>
    rintro D xs W hD hfull hI hK
    obtain ⟨hB, h1⟩ := hI
    have hws : w.heap.size + 3 ≤ wl.heap.size := by have := Hws.out; omega
    have hlen : xs.length = kids.size + 1 := by
      have := congrArg List.length (show _ = _ from hfull)
      rw [Fo.pre_length] at this
      simpa [Fo.size] using this
    rw [hlen] at h1
    have k1 := h1.cell
    have f1 := h1.frozen
    clear hlen hfull
    gi_wp2
    refine ⟨by simp, .inl ⟨_, _, rfl, run_takeDeferred hK, ?_⟩⟩
    refine ⟨.int .i64 ((kids.size : Int) + 1), ?_, rfl, ?_⟩
    · simp [results, Try.f18, go_sem]
    · exact hB.trans ((Below.refl w.heap.size _).grown (grownBy_putObj' _ D (.deferred none)) hB.size (fun k e => by cases e; omega))
  case stop =>
    rintro D pre W hD hgood hI hK
    exact hI.elim
end Go.Proofs.Ytahibjiiaocjkaa
