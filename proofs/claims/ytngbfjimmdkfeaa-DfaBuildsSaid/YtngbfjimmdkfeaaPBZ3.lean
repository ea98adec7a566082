/- Texts joined: Zd Ze. -/
import Derived.Test.YtngbfjimmdkfeaaPBW1
import Derived.Test.YtngbfjimmdkfeaaPBK3
import Derived.Test.YtngbfjimmdkfeaaPBZ1
set_option linter.unusedVariables false
set_option linter.unusedSimpArgs false
namespace Go.Proofs.Ytngbfjimmdkfeaa
open Go.RowKit Go.Shelf

attribute [local go_sem] Oper.semAt_some

end Go.Proofs.Ytngbfjimmdkfeaa

namespace Go.Proofs.Ytngbfjimmdkfeaa
open Go.RowKit Go.Shelf

open Classical in
/-- All that edges by none lead to from S, rising. -/
noncomputable def cloP (x : Nf) (S : Nat → Prop) : List Nat := (List.range x.n.toNat).filter (fun v => decide (Rn x S v))
theorem range_rising : ∀ n, Rising (List.range n) := fun n => by
  unfold Rising
  exact List.pairwise_lt_range
open Classical in
theorem cloP_rising (x : Nf) (S : Nat → Prop) : Rising (cloP x S) := List.Pairwise.filter _ (range_rising _)
theorem rn_lt {x : Nf} {S : Nat → Prop} (hl : linkB x = true) (hS : ∀ a, S a → a < x.n.toNat) {a : Nat} (h : Rn x S a) : a < x.n.toNat :=
  Rn.closed (C := fun a => a < x.n.toNat) hS (fun a b _ ⟨e, he, _, _, h2⟩ => by
    obtain ⟨_, ⟨t, ht, htn⟩⟩ := link_ends hl he
    rw [ht] at h2
    have : t = b := by omega
    omega) h
open Classical in
theorem cloP_mem {x : Nf} {S : Nat → Prop} (hl : linkB x = true) (hS : ∀ a, S a → a < x.n.toNat) (v : Nat) : v ∈ cloP x S ↔ Rn x S v := by
  unfold cloP
  rw [List.mem_filter, List.mem_range, decide_eq_true_eq]
  exact ⟨fun h => h.2, fun h => ⟨rn_lt hl hS h, h⟩⟩
theorem cloP_is {x : Nf} {S : Nat → Prop} (hl : linkB x = true) (hS : ∀ a, S a → a < x.n.toNat) {out : List Nat} (hr : Rising out) (h : ∀ v, v ∈ out ↔ Rn x S v) : out = cloP x S :=
  rising_eq hr (cloP_rising x S) (fun v => (h v).trans (cloP_mem hl hS v).symm)
theorem rn_mono {x : Nf} {S T : Nat → Prop} (h : ∀ a, S a → T a) {a : Nat} : Rn x S a → Rn x T a :=
  Rn.closed (C := fun a => Rn x T a) (fun a ha => .base (h a ha)) (fun a b ha hb => .step ha hb)
theorem bstep_lt {x : Nf} (hl : linkB x = true) {c a b : Nat} (h : bstep x c a b) : b < x.n.toNat := by
  obtain ⟨e, he, _, _, h2⟩ := h
  obtain ⟨_, ⟨t, ht, htn⟩⟩ := link_ends hl he
  rw [ht] at h2
  have : t = b := by omega
  omega

/-- A list is answered, in a row that lies somewhere. -/
def AnsL (V : World) (C : List Nat) : Ending → World → Prop := fun e V' => ∃ oa oc, e = .returned (.slice oa C.length oc) ∧ IntsN V' oa oc C ∧ Below V.heap.size V V'
section
variable (x : Nf) (p : NfL) (set : List Nat) (a : Option Addr) (cap : Nat) (w : World) (hx : NfAt w x p) (hl : linkB x = true) (hs : IntsN w a cap set) (hlt : ∀ v ∈ set, v < x.n.toNat)
include hx hl hs hlt
theorem nclose_is (hM : x.es.length ≤ 500000) : Calls Try.prog 54 #[.agg #[.int .i64 x.n, .int .i64 x.s, .slice p.ea x.ends.length p.ec, .slice p.ga x.es.length p.gc], .slice a set.length cap] w (AnsL w (cloP x (· ∈ set))) := by
  refine (nclose_any x p set a cap w hx hl hM hs hlt).mono ?_
  rintro e w' ⟨oa, oc, out, rfl, ⟨h1, h2, h3, _⟩, h5⟩
  have := cloP_is hl hlt h2 h3
  subst this
  exact ⟨oa, oc, rfl, h1, h5⟩
end
end Go.Proofs.Ytngbfjimmdkfeaa

