/- Texts joined: Ttc. -/
import Derived.Test.YthogiakfbgehnaaRCAi
import Derived.Test.YthogiakfbgehnaaRCAb
import Derived.Test.YthogiakfbgehnaaRCAe
set_option linter.unusedVariables false
set_option linter.unusedSimpArgs false
namespace Go.Proofs.Ythogiakfbgehnaa
open Go.RowKit Go.Maps

attribute [local go_sem] Oper.semAt_some

def e13D (h : Nat) : CfD := ⟨[⟨#[97]⟩, ⟨#[98]⟩], some ⟨h + 1, 0, none⟩, 2, [⟨#[83]⟩], some ⟨h + 1 + 1, 0, none⟩, 1, [⟨[⟨[0, -1, 1], some ⟨h + 1 + 1 + 1, 0, none⟩, 3⟩, ⟨[], none, 0⟩], some ⟨h + 1 + 1 + 1 + 1, 0, none⟩, 2⟩], some ⟨h + 1 + 1 + 1 + 1 + 1, 0, none⟩, 1⟩
def e13F : TrF := .cons ⟨0, 0, 0⟩ .nil (.cons ⟨-1, 0, 0⟩ (.cons ⟨0, 0, 1⟩ .nil (.cons ⟨-1, 1, 0⟩ .nil (.cons ⟨1, 0, 2⟩ .nil .nil))) (.cons ⟨1, 0, 3⟩ .nil .nil))
def e13T : Tre := ⟨-1, 0, 0, e13F⟩
theorem e13_grow (h : Nat) : gwGrow (e13D h) [0, 0, 1] = .ok e13T 3 4 19993 := by kernel_rfl
def e13P : List NdT := (TrF.cons ⟨-1, 0, 0⟩ e13F .nil).pre true 1
theorem e13_ok (h : Nat) : ∀ q r, q ++ r = (TrF.cons ⟨-1, 0, 0⟩ e13F .nil).pre true 1 → TxOk (txAll (e13D h) q) := by
  intro q r hqr
  have h1 : q = e13P.take q.length := by
    have : e13P.take q.length = q := by show ((TrF.cons ⟨-1, 0, 0⟩ e13F .nil).pre true 1).take q.length = q; rw [← hqr]; simp
    exact this.symm
  have h2 : q.length ≤ 7 := by
    have := congrArg List.length hqr
    rw [List.length_append] at this
    have h3 : ((TrF.cons ⟨-1, 0, 0⟩ e13F .nil).pre true 1).length = 7 := by kernel_rfl
    omega
  rw [h1]
  generalize q.length = k at h2
  have hk : k = 0 ∨ k = 1 ∨ k = 2 ∨ k = 3 ∨ k = 4 ∨ k = 5 ∨ k = 6 ∨ k = 7 := by omega
  unfold TxOk
  rcases hk with rfl | rfl | rfl | rfl | rfl | rfl | rfl | rfl <;> exact of_decide_eq_true (by kernel_rfl)
theorem e13_lo : ∀ x ∈ (TrF.cons ⟨-1, 0, 0⟩ e13F .nil).pre true 1, -9223372036854775808 ≤ x.h.k ∧ 1 ≤ x.d ∧ x.d ≤ 1000 := by
  have h : ((TrF.cons ⟨-1, 0, 0⟩ e13F .nil).pre true 1).all (fun x => decide (-9223372036854775808 ≤ x.h.k) && decide (1 ≤ x.d) && decide (x.d ≤ 1000)) = true := by kernel_rfl
  intro x hx
  have := List.all_eq_true.1 h x hx
  simp only [Bool.and_eq_true, decide_eq_true_eq] at this
  exact ⟨this.1.1, this.1.2, this.2⟩
theorem e13_txt (h : Nat) : txT (e13D h) ((TrF.cons ⟨-1, 0, 0⟩ e13F .nil).pre true 1) = [83, 40, 97, 32, 83, 40, 97, 32, 83, 40, 41, 32, 98, 41, 32, 98, 41] := by kernel_rfl
theorem e13_yt : (TrF.cons ⟨-1, 0, 0⟩ e13F .nil).yt = [0, 0, 1, 1] := by kernel_rfl
theorem e13_st : (TrF.cons ⟨-1, 0, 0⟩ e13F .nil).st = [0, 0, 1] := by kernel_rfl
theorem e13_ya : (TrF.cons ⟨-1, 0, 0⟩ e13F .nil).ya = rngI 0 4 := by kernel_rfl
theorem e13_sz : e13F.size = 6 := by kernel_rfl
theorem e13_chk (h : Nat) : ChkD (e13D h) ⟨-1, 0, 0⟩ e13F [0, 0, 1, 1] := by
  refine ⟨rfl, (good_pre (e13D h) _ _ 1).2 ⟨rfl, fun x hx => ?_⟩, e13_yt, e13_ya⟩
  have h1 : ((TrF.cons ⟨-1, 0, 0⟩ e13F .nil).pre true 1).all (fun x => rightD (e13D h) x.h x.kids) = true := by kernel_rfl
  exact List.all_eq_true.1 h1 x hx
theorem e13_rng (h : Nat) : ∀ r ∈ (e13D h).alts, ∀ a ∈ r.ds, ∀ x ∈ a.l, -9223372036854775808 ≤ x ∧ x ≤ 9223372036854775807 := by
  have h1 : (e13D h).alts.all (fun r => r.ds.all (fun a => a.l.all (fun x => decide (-9223372036854775808 ≤ x) && decide (x ≤ 9223372036854775807)))) = true := by kernel_rfl
  intro r hr a ha x hx
  have := List.all_eq_true.1 (List.all_eq_true.1 (List.all_eq_true.1 h1 r hr) a ha) x hx
  simp only [Bool.and_eq_true, decide_eq_true_eq] at this
  exact this
def e13C (h : Nat) : Obj := .cells #[.slice (some ⟨h + 1, 0, none⟩) 2 2, .slice (some ⟨h + 1 + 1, 0, none⟩) 1 1, .slice (some ⟨h + 1 + 1 + 1 + 1 + 1, 0, none⟩) 1 1] 25
def e13Os (h : Nat) : List Obj := [e13C h, .cells #[.string ⟨#[97]⟩, .string ⟨#[98]⟩] 9, .cells #[.string ⟨#[83]⟩] 9, .cells #[.int .i64 0, .int .i64 (-1), .int .i64 1] 3, .cells #[.slice (some ⟨h + 1 + 1 + 1, 0, none⟩) 3 3, .slice none 0 0] 35, .cells #[.slice (some ⟨h + 1 + 1 + 1 + 1, 0, none⟩) 2 2] 32]
set_option maxRecDepth 100000 in
theorem e13_c (w : World) : CfAt (allocs w (e13Os w.heap.size)) (e13D w.heap.size) := by
  refine ⟨allocs_vs _ w 1 _ _ rfl 2 rfl (e9_mx 2 (by omega)), allocs_vs _ w 2 _ _ rfl 1 rfl (e9_mx 1 (by omega)), allocs_vs _ w 5 _ _ rfl 1 rfl (e9_mx 1 (by omega)), fun r hr => ?_⟩
  have hr : r = ⟨[⟨[0, -1, 1], some ⟨w.heap.size + 1 + 1 + 1, 0, none⟩, 3⟩, ⟨[], none, 0⟩], some ⟨w.heap.size + 1 + 1 + 1 + 1, 0, none⟩, 2⟩ := by simpa [e13D] using hr
  subst hr
  refine ⟨allocs_vs _ w 4 _ _ rfl 2 rfl (e9_mx 2 (by omega)), fun d hd => ?_⟩
  have hd : d = ⟨[0, -1, 1], some ⟨w.heap.size + 1 + 1 + 1, 0, none⟩, 3⟩ ∨ d = ⟨[], none, 0⟩ := by simpa using hd
  rcases hd with rfl | rfl
  · exact allocs_vs _ w 3 _ _ rfl 3 rfl (e9_mx 3 (by omega))
  · exact Vs.nil _
set_option maxRecDepth 100000 in
set_option maxHeartbeats 4000000 in
theorem ab_any (w : World) : Calls Try.prog 92 #[] w fun e W => e = .returned (e13D w.heap.size).v ∧ CfAt W (e13D w.heap.size) ∧ Below w.heap.size w W := by
  go_enter Try.func92, Try.ntmps92
  go_wp2_with (fail)
  have hX := (allocs_at (e13Os w.heap.size) w 0 _ rfl)
  rw [Nat.add_zero] at hX
  exact bodyPost_ret (v := (e13D w.heap.size).v) (results_cell_row (p := 0) (ty := 25) rfl _ _ w.heap.size 25 #[.slice (some ⟨w.heap.size + 1, 0, none⟩) 2 2, .slice (some ⟨w.heap.size + 1 + 1, 0, none⟩) 1 1, .slice (some ⟨w.heap.size + 1 + 1 + 1 + 1 + 1, 0, none⟩) 1 1] (0, 0) _ rfl hX Try.underlying25 rfl (by kernel_rfl)) rfl ⟨rfl, e13_c w, allocs_below (e13Os w.heap.size) w⟩
/-- What is told of the example's tree, as values. -/
abbrev e13V (ga : Option Addr) (gc : Nat) : Value := .agg #[.int .i64 (-1), .int .i64 0, .int .i64 0, .slice ga 3 gc]
theorem grow13_any (h : Nat) (sa : Option Addr) (sc : Nat) (w : World) (hd : CfAt w (e13D h)) (hs : Ints w sa sc [0, 0, 1]) :
    Calls Try.prog 54 #[(e13D h).v, .slice sa 3 sc] w fun e W => ∃ ga gc, e = .returned (.tuple #[e13V ga gc, .int .i64 0, .int .i64 0]) ∧ TrS W (fun _ => True) ga gc e13F ∧ Below w.heap.size w W := by
  refine (tgrow_any (e13D h) sa sc [0, 0, 1] w hd (e13_rng h) hs).mono ?_
  rintro e W ⟨hb, hq⟩
  rw [e13_grow h] at hq
  obtain ⟨ga, gc, rfl, ht⟩ := hq
  exact ⟨ga, gc, rfl, ht.imp (fun _ _ _ => trivial), hb⟩
theorem yield13_any (ga : Option Addr) (gc : Nat) (w : World) (ht : TrS w (fun _ => True) ga gc e13F) :
    Calls Try.prog 53 #[e13V ga gc] w fun e W => ∃ ya yc, e = .returned (.slice ya 4 yc) ∧ Ints W ya yc [0, 0, 1, 1] ∧ Below w.heap.size w W := by
  have h := tyield_any ⟨-1, 0, 0⟩ e13F ga gc w ht (by rw [e13_sz]; omega)
  rw [e13_yt] at h
  refine Calls.mono h ?_
  rintro e W ⟨ya, yc, rfl, ho, hb⟩
  exact ⟨ya, yc, rfl, OwnKZ.vs ho, hb⟩
theorem steps13_any (ga : Option Addr) (gc : Nat) (w : World) (ht : TrS w (fun _ => True) ga gc e13F) :
    Calls Try.prog 55 #[e13V ga gc] w fun e W => ∃ ya yc, e = .returned (.slice ya 3 yc) ∧ Ints W ya yc [0, 0, 1] ∧ Below w.heap.size w W := by
  have h := tsteps_any ⟨-1, 0, 0⟩ e13F ga gc w ht (by rw [e13_sz]; omega)
  rw [e13_st] at h
  refine Calls.mono h ?_
  rintro e W ⟨ya, yc, rfl, ho, hb⟩
  exact ⟨ya, yc, rfl, OwnKZ.vs ho, hb⟩
theorem size13_any (ga : Option Addr) (gc : Nat) (w : World) (ht : TrS w (fun _ => True) ga gc e13F) :
    Calls Try.prog 58 #[e13V ga gc] w fun e W => e = .returned (.int .i64 7) ∧ Below w.heap.size w W := by
  have h := tsize_any ⟨-1, 0, 0⟩ e13F ga gc w ht (by rw [e13_sz]; omega)
  rw [e13_sz] at h
  exact h
theorem check13_any (h : Nat) (ga : Option Addr) (gc : Nat) (ka : Option Addr) (kc : Nat) (w : World) (hd : CfAt w (e13D h)) (ht : TrS w (fun _ => True) ga gc e13F) (hk : Ints w ka kc [0, 0, 1, 1]) :
    Calls Try.prog 52 #[(e13D h).v, e13V ga gc, .slice ka 4 kc] w fun e W => e = .returned (.bool true) ∧ Below w.heap.size w W := by
  have h := tcheck_any (e13D h) ⟨-1, 0, 0⟩ e13F ga gc ka kc [0, 0, 1, 1] w hd ht hk (by rw [e13_sz]; omega) (fun x hx => (e13_lo x hx).1)
  refine Calls.mono h ?_
  rintro e W ⟨b, rfl, hb, hw⟩
  rw [hb.2 (e13_chk _)]
  exact ⟨rfl, hw⟩
theorem text13_any (h : Nat) (ga : Option Addr) (gc : Nat) (w : World) (hd : CfAt w (e13D h)) (ht : TrS w (fun _ => True) ga gc e13F) :
    Calls Try.prog 93 #[(e13D h).v, e13V ga gc] w fun e W => e = .returned (.string ⟨#[83, 40, 97, 32, 83, 40, 97, 32, 83, 40, 41, 32, 98, 41, 32, 98, 41]⟩) ∧ Below w.heap.size w W := by
  have h := ttext_any (e13D h) ⟨-1, 0, 0⟩ e13F ga gc w hd ht (by rw [e13_sz]; omega) e13_lo (e13_ok h)
  rw [e13_txt] at h
  exact h
theorem si13_any (l : List Int) (n : Nat) (hn : l.length = n) (a b : Option Addr) (ac bc : Nat) (w : World) (ha : Ints w a ac l) (hb : Ints w b bc l) :
    Calls Try.prog 25 #[.slice a n ac, .slice b n bc] w fun e W => e = .returned (.bool true) ∧ Below w.heap.size w W := by
  subst hn
  have h := sameInts8_any a b ac bc l l w ha hb
  rw [decide_eq_true rfl] at h
  exact h
end Go.Proofs.Ythogiakfbgehnaa

