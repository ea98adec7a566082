/- Texts joined: Ttc Ttd Tte Ttf Ty Ttg Qr Qs Km. -/
import Derived.Test.YthogiakfbgehnaaREAq
import Derived.Test.YthogiakfbgehnaaREAj
import Derived.Test.YthogiakfbgehnaaREAm
import Derived.Test.YthogiakfbgehnaaREAi
import Derived.IntWalk
import Derived.Deep.CutRange
import Derived.Test.YthogiakfbgehnaaREAg
set_option linter.unusedVariables false
set_option linter.unusedSimpArgs false
namespace Go.Proofs.Ythogiakfbgehnaa
open Go.RowKit Go.Maps

attribute [local go_sem] Oper.semAt_some

def e13D (h : Nat) : CfD := ⟨[⟨#[97]⟩, ⟨#[98]⟩], some ⟨h + 1, 0, none⟩, 2, [⟨#[83]⟩], some ⟨h + 1 + 1, 0, none⟩, 1, [⟨[⟨[0, -1, 1], some ⟨h + 1 + 1 + 1, 0, none⟩, 3⟩, ⟨[], none, 0⟩], some ⟨h + 1 + 1 + 1 + 1, 0, none⟩, 2⟩], some ⟨h + 1 + 1 + 1 + 1 + 1, 0, none⟩, 1⟩
def e13F : TrF := .cons ⟨0, 0, 0⟩ .nil (.cons ⟨-1, 0, 0⟩ (.cons ⟨0, 0, 1⟩ .nil (.cons ⟨-1, 1, 0⟩ .nil (.cons ⟨1, 0, 2⟩ .nil .nil))) (.cons ⟨1, 0, 3⟩ .nil .nil))
def e13T : Tre := ⟨-1, 0, 0, e13F⟩
theorem e13_grow (h : Nat) : gwGrow (e13D h) [0, 0, 1] = .ok e13T 3 4 19993 := by kernel_rfl
def e13P : List NdT := (TrF.cons ⟨-1, 0, 0⟩ e13F .nil).pre true 1
theorem e13_ok (h : Nat) : ∀ q r, q ++ r = (TrF.cons ⟨-1, 0, 0⟩ e13F .nil).pre true 1 → TxOk (txAll (e13D h) q) := by
  intro q r hqr
  have h1 : q = e13P.take q.length := by
    have : e13P.take q.length = q := by show ((TrF.cons ⟨-1, 0, 0⟩ e13F .nil).pre true 1).take q.length = q; rw [← hqr]; simp
    exact this.symm
  have h2 : q.length ≤ 7 := by
    have := congrArg List.length hqr
    rw [List.length_append] at this
    have h3 : ((TrF.cons ⟨-1, 0, 0⟩ e13F .nil).pre true 1).length = 7 := by kernel_rfl
    omega
  rw [h1]
  generalize q.length = k at h2
  have hk : k = 0 ∨ k = 1 ∨ k = 2 ∨ k = 3 ∨ k = 4 ∨ k = 5 ∨ k = 6 ∨ k = 7 := by omega
  unfold TxOk
  rcases hk with rfl | rfl | rfl | rfl | rfl | rfl | rfl | rfl <;> exact of_decide_eq_true (by kernel_rfl)
theorem e13_lo : ∀ x ∈ (TrF.cons ⟨-1, 0, 0⟩ e13F .nil).pre true 1, -9223372036854775808 ≤ x.h.k ∧ 1 ≤ x.d ∧ x.d ≤ 1000 := by
  have h : ((TrF.cons ⟨-1, 0, 0⟩ e13F .nil).pre true 1).all (fun x => decide (-9223372036854775808 ≤ x.h.k) && decide (1 ≤ x.d) && decide (x.d ≤ 1000)) = true := by kernel_rfl
  intro x hx
  have := List.all_eq_true.1 h x hx
  simp only [Bool.and_eq_true, decide_eq_true_eq] at this
  exact ⟨this.1.1, this.1.2, this.2⟩
theorem e13_txt (h : Nat) : txT (e13D h) ((TrF.cons ⟨-1, 0, 0⟩ e13F .nil).pre true 1) = [83, 40, 97, 32, 83, 40, 97, 32, 83, 40, 41, 32, 98, 41, 32, 98, 41] := by kernel_rfl
theorem e13_yt : (TrF.cons ⟨-1, 0, 0⟩ e13F .nil).yt = [0, 0, 1, 1] := by kernel_rfl
theorem e13_st : (TrF.cons ⟨-1, 0, 0⟩ e13F .nil).st = [0, 0, 1] := by kernel_rfl
theorem e13_ya : (TrF.cons ⟨-1, 0, 0⟩ e13F .nil).ya = rngI 0 4 := by kernel_rfl
theorem e13_sz : e13F.size = 6 := by kernel_rfl
theorem e13_chk (h : Nat) : ChkD (e13D h) ⟨-1, 0, 0⟩ e13F [0, 0, 1, 1] := by
  refine ⟨rfl, (good_pre (e13D h) _ _ 1).2 ⟨rfl, fun x hx => ?_⟩, e13_yt, e13_ya⟩
  have h1 : ((TrF.cons ⟨-1, 0, 0⟩ e13F .nil).pre true 1).all (fun x => rightD (e13D h) x.h x.kids) = true := by kernel_rfl
  exact List.all_eq_true.1 h1 x hx
theorem e13_rng (h : Nat) : ∀ r ∈ (e13D h).alts, ∀ a ∈ r.ds, ∀ x ∈ a.l, -9223372036854775808 ≤ x ∧ x ≤ 9223372036854775807 := by
  have h1 : (e13D h).alts.all (fun r => r.ds.all (fun a => a.l.all (fun x => decide (-9223372036854775808 ≤ x) && decide (x ≤ 9223372036854775807)))) = true := by kernel_rfl
  intro r hr a ha x hx
  have := List.all_eq_true.1 (List.all_eq_true.1 (List.all_eq_true.1 h1 r hr) a ha) x hx
  simp only [Bool.and_eq_true, decide_eq_true_eq] at this
  exact this
def e13C (h : Nat) : Obj := .cells #[.slice (some ⟨h + 1, 0, none⟩) 2 2, .slice (some ⟨h + 1 + 1, 0, none⟩) 1 1, .slice (some ⟨h + 1 + 1 + 1 + 1 + 1, 0, none⟩) 1 1] 25
def e13Os (h : Nat) : List Obj := [e13C h, .cells #[.string ⟨#[97]⟩, .string ⟨#[98]⟩] 9, .cells #[.string ⟨#[83]⟩] 9, .cells #[.int .i64 0, .int .i64 (-1), .int .i64 1] 3, .cells #[.slice (some ⟨h + 1 + 1 + 1, 0, none⟩) 3 3, .slice none 0 0] 35, .cells #[.slice (some ⟨h + 1 + 1 + 1 + 1, 0, none⟩) 2 2] 32]
set_option maxRecDepth 100000 in
theorem e13_c (w : World) : CfAt (allocs w (e13Os w.heap.size)) (e13D w.heap.size) := by
  refine ⟨allocs_vs _ w 1 _ _ rfl 2 rfl (e9_mx 2 (by omega)), allocs_vs _ w 2 _ _ rfl 1 rfl (e9_mx 1 (by omega)), allocs_vs _ w 5 _ _ rfl 1 rfl (e9_mx 1 (by omega)), fun r hr => ?_⟩
  have hr : r = ⟨[⟨[0, -1, 1], some ⟨w.heap.size + 1 + 1 + 1, 0, none⟩, 3⟩, ⟨[], none, 0⟩], some ⟨w.heap.size + 1 + 1 + 1 + 1, 0, none⟩, 2⟩ := by simpa [e13D] using hr
  subst hr
  refine ⟨allocs_vs _ w 4 _ _ rfl 2 rfl (e9_mx 2 (by omega)), fun d hd => ?_⟩
  have hd : d = ⟨[0, -1, 1], some ⟨w.heap.size + 1 + 1 + 1, 0, none⟩, 3⟩ ∨ d = ⟨[], none, 0⟩ := by simpa using hd
  rcases hd with rfl | rfl
  · exact allocs_vs _ w 3 _ _ rfl 3 rfl (e9_mx 3 (by omega))
  · exact Vs.nil _
set_option maxRecDepth 100000 in
set_option maxHeartbeats 4000000 in
theorem ab_any (w : World) : Calls Try.prog 92 #[] w fun e W => e = .returned (e13D w.heap.size).v ∧ CfAt W (e13D w.heap.size) ∧ Below w.heap.size w W := by
  go_enter Try.func92, Try.ntmps92
  go_wp2_with (fail)
  have hX := (allocs_at (e13Os w.heap.size) w 0 _ rfl)
  rw [Nat.add_zero] at hX
  exact bodyPost_ret (v := (e13D w.heap.size).v) (results_cell_row (p := 0) (ty := 25) rfl _ _ w.heap.size 25 #[.slice (some ⟨w.heap.size + 1, 0, none⟩) 2 2, .slice (some ⟨w.heap.size + 1 + 1, 0, none⟩) 1 1, .slice (some ⟨w.heap.size + 1 + 1 + 1 + 1 + 1, 0, none⟩) 1 1] (0, 0) _ rfl hX Try.underlying25 rfl (by kernel_rfl)) rfl ⟨rfl, e13_c w, allocs_below (e13Os w.heap.size) w⟩
/-- What is told of the example's tree, as values. -/
abbrev e13V (ga : Option Addr) (gc : Nat) : Value := .agg #[.int .i64 (-1), .int .i64 0, .int .i64 0, .slice ga 3 gc]
theorem grow13_any (h : Nat) (sa : Option Addr) (sc : Nat) (w : World) (hd : CfAt w (e13D h)) (hs : Ints w sa sc [0, 0, 1]) :
    Calls Try.prog 54 #[(e13D h).v, .slice sa 3 sc] w fun e W => ∃ ga gc, e = .returned (.tuple #[e13V ga gc, .int .i64 0, .int .i64 0]) ∧ TrS W (fun _ => True) ga gc e13F ∧ Below w.heap.size w W := by
  refine (tgrow_any (e13D h) sa sc [0, 0, 1] w hd (e13_rng h) hs).mono ?_
  rintro e W ⟨hb, hq⟩
  rw [e13_grow h] at hq
  obtain ⟨ga, gc, rfl, ht⟩ := hq
  exact ⟨ga, gc, rfl, ht.imp (fun _ _ _ => trivial), hb⟩
theorem yield13_any (ga : Option Addr) (gc : Nat) (w : World) (ht : TrS w (fun _ => True) ga gc e13F) :
    Calls Try.prog 53 #[e13V ga gc] w fun e W => ∃ ya yc, e = .returned (.slice ya 4 yc) ∧ Ints W ya yc [0, 0, 1, 1] ∧ Below w.heap.size w W := by
  have h := tyield_any ⟨-1, 0, 0⟩ e13F ga gc w ht (by rw [e13_sz]; omega)
  rw [e13_yt] at h
  refine Calls.mono h ?_
  rintro e W ⟨ya, yc, rfl, ho, hb⟩
  exact ⟨ya, yc, rfl, OwnKZ.vs ho, hb⟩
theorem steps13_any (ga : Option Addr) (gc : Nat) (w : World) (ht : TrS w (fun _ => True) ga gc e13F) :
    Calls Try.prog 55 #[e13V ga gc] w fun e W => ∃ ya yc, e = .returned (.slice ya 3 yc) ∧ Ints W ya yc [0, 0, 1] ∧ Below w.heap.size w W := by
  have h := tsteps_any ⟨-1, 0, 0⟩ e13F ga gc w ht (by rw [e13_sz]; omega)
  rw [e13_st] at h
  refine Calls.mono h ?_
  rintro e W ⟨ya, yc, rfl, ho, hb⟩
  exact ⟨ya, yc, rfl, OwnKZ.vs ho, hb⟩
theorem size13_any (ga : Option Addr) (gc : Nat) (w : World) (ht : TrS w (fun _ => True) ga gc e13F) :
    Calls Try.prog 58 #[e13V ga gc] w fun e W => e = .returned (.int .i64 7) ∧ Below w.heap.size w W := by
  have h := tsize_any ⟨-1, 0, 0⟩ e13F ga gc w ht (by rw [e13_sz]; omega)
  rw [e13_sz] at h
  exact h
theorem check13_any (h : Nat) (ga : Option Addr) (gc : Nat) (ka : Option Addr) (kc : Nat) (w : World) (hd : CfAt w (e13D h)) (ht : TrS w (fun _ => True) ga gc e13F) (hk : Ints w ka kc [0, 0, 1, 1]) :
    Calls Try.prog 52 #[(e13D h).v, e13V ga gc, .slice ka 4 kc] w fun e W => e = .returned (.bool true) ∧ Below w.heap.size w W := by
  have h := tcheck_any (e13D h) ⟨-1, 0, 0⟩ e13F ga gc ka kc [0, 0, 1, 1] w hd ht hk (by rw [e13_sz]; omega) (fun x hx => (e13_lo x hx).1)
  refine Calls.mono h ?_
  rintro e W ⟨b, rfl, hb, hw⟩
  rw [hb.2 (e13_chk _)]
  exact ⟨rfl, hw⟩
theorem text13_any (h : Nat) (ga : Option Addr) (gc : Nat) (w : World) (hd : CfAt w (e13D h)) (ht : TrS w (fun _ => True) ga gc e13F) :
    Calls Try.prog 93 #[(e13D h).v, e13V ga gc] w fun e W => e = .returned (.string ⟨#[83, 40, 97, 32, 83, 40, 97, 32, 83, 40, 41, 32, 98, 41, 32, 98, 41]⟩) ∧ Below w.heap.size w W := by
  have h := ttext_any (e13D h) ⟨-1, 0, 0⟩ e13F ga gc w hd ht (by rw [e13_sz]; omega) e13_lo (e13_ok h)
  rw [e13_txt] at h
  exact h
theorem si13_any (l : List Int) (n : Nat) (hn : l.length = n) (a b : Option Addr) (ac bc : Nat) (w : World) (ha : Ints w a ac l) (hb : Ints w b bc l) :
    Calls Try.prog 25 #[.slice a n ac, .slice b n bc] w fun e W => e = .returned (.bool true) ∧ Below w.heap.size w W := by
  subst hn
  have h := sameInts8_any a b ac bc l l w ha hb
  rw [decide_eq_true rfl] at h
  exact h
end Go.Proofs.Ythogiakfbgehnaa

namespace Go.Proofs.Ythogiakfbgehnaa
open Go.RowKit Go.Maps

attribute [local go_sem] Oper.semAt_some

set_option maxRecDepth 100000 in
set_option maxHeartbeats 16000000 in
theorem live13_any (w : World) : Calls Try.prog 49 #[] w fun e w' => e = .returned (.bool true) ∧ Below w.heap.size w w' := by
  go_enter Try.func49, Try.ntmps49
  go_wp2_with (fail)
  refine (ab_any w).mono ?_
  rintro e w1 ⟨rfl, hd1, hb1⟩
  have hs1 : Ints (w1.alloc (.cells #[.int .i64 0, .int .i64 0, .int .i64 1] 3)) (some ⟨w1.heap.size, 0, none⟩) 3 [0, 0, 1] := ints_new w1 [0, 0, 1] 3 rfl (e9_mx 3 (by omega))
  have hb2 : Below w1.heap.size w1 (w1.alloc (.cells #[.int .i64 0, .int .i64 0, .int .i64 1] 3)) := (Below.refl _ _).alloc (Nat.le_refl _) _
  have HG := Lib.hid (grow13_any w.heap.size _ 3 _ (hd1.grown hb2) hs1)
  have HV1 := Lib.hid (hb1.trans (hb2.mono hb1.size))
  clear hd1 hs1 hb2 hb1
  unfold e13D CfD.v at HG ⊢
  go_wp2_with (fail)
  refine HG.out.mono ?_
  rintro e w3 ⟨ga, gc, rfl, ht, hb⟩
  have HV3 := Lib.hid (HV1.out.trans (hb.mono HV1.out.size))
  have hb4 : Below w3.heap.size w3 (w3.alloc (.cells #[.int .i64 (-1), .int .i64 0, .int .i64 0, .slice ga 3 gc] 51)) := (Below.refl _ _).alloc (Nat.le_refl _) _
  have HT3 := Lib.hid (ht.grown hb4)
  have HX3 := Lib.hid (Blk.new w3 51 #[.int .i64 (-1), .int .i64 0, .int .i64 0, .slice ga 3 gc])
  have HV4 := Lib.hid (HV3.out.trans (hb4.mono HV3.out.size))
  clear HG hb ht hb4
  dsimp only
  go_upto_region 2 with fail
  obtain ⟨tb, htb⟩ : ∃ q, Hid (w3.heap.size = q) := ⟨_, Lib.hid rfl⟩
  rw [htb.out] at HX3 ⊢
  generalize World.alloc w3 _ = w4 at HT3 HX3 HV4 ⊢
  have HT := HT3
  have HX := HX3
  have HV := HV4
  clear HT3 HX3 HV4 HV3 HV1
  have HB0 := Lib.hid ((Below.refl w4.heap.size w4).drew)
  have HS0 : Hid ((w4.drew).cell? ⟨tb, 0, none⟩ = some (.int .i64 (-1)) ∧ (w4.drew).cell? ⟨tb, 1, none⟩ = some (.int .i64 0) ∧ (w4.drew).cell? ⟨tb, 2, none⟩ = some (.int .i64 0) ∧ (w4.drew).cell? ⟨tb, 3, none⟩ = some (.slice ga 3 gc)) := Lib.hid ⟨(HX.out.below HB0.out HX.out.lt).cell 0, (HX.out.below HB0.out HX.out.lt).cell 1, (HX.out.below HB0.out HX.out.lt).cell 2, (HX.out.below HB0.out HX.out.lt).cell 3⟩
  refine wp_region_held_drew (S := fun w' => w'.cell? ⟨tb, 0, none⟩ = some (.int .i64 (-1)) ∧ w'.cell? ⟨tb, 1, none⟩ = some (.int .i64 0) ∧ w'.cell? ⟨tb, 2, none⟩ = some (.int .i64 0) ∧ w'.cell? ⟨tb, 3, none⟩ = some (.slice ga 3 gc)) (by kernel_rfl) ?_ (fun hHeld => ?_)
  · exact HS0.out
  generalize World.drew w4 = K0 at HB0 HS0 hHeld ⊢
  refine wpAnyH_take (i := 0) (v := ?_) (iatLS iatZS) (by kernel_rfl) (by kernel_rfl) (by kernel_rfl) (fun _ _ _ h => h) (Or.inl ⟨by rfl, ?_⟩) (by assumption) ?_
  rotate_left
  · intro w hSw
    try dsimp only at hSw
    go_simp
    all_goals with_reducible rfl
  try simp only [Act.put, List.setIfInBounds_toArray, List.set_cons_zero, List.set_cons_succ]
  refine wpAnyH_take (i := 1) (v := ?_) (iatLS (iatSS iatZS)) (by kernel_rfl) (by kernel_rfl) (by kernel_rfl) (fun _ _ _ h => h) (Or.inl ⟨by rfl, ?_⟩) (by assumption) ?_
  rotate_left
  · intro w hSw
    try dsimp only at hSw
    go_simp
    all_goals with_reducible rfl
  try simp only [Act.put, List.setIfInBounds_toArray, List.set_cons_zero, List.set_cons_succ]
  refine wpAnyH_take (i := 2) (v := ?_) (iatLS (iatSS (iatSS iatZS))) (by kernel_rfl) (by kernel_rfl) (by kernel_rfl) (fun _ _ _ h => h) (Or.inl ⟨by rfl, ?_⟩) (by assumption) ?_
  rotate_left
  · intro w hSw
    try dsimp only at hSw
    go_simp
    all_goals with_reducible rfl
  try simp only [Act.put, List.setIfInBounds_toArray, List.set_cons_zero, List.set_cons_succ]
  refine wpAnyH_take (i := 3) (v := ?_) (iatLS (iatSS (iatSS (iatSS iatZS)))) (by kernel_rfl) (by kernel_rfl) (by kernel_rfl) (fun _ _ _ h => h) (Or.inl ⟨by rfl, ?_⟩) (by assumption) ?_
  rotate_left
  · intro w hSw
    try dsimp only at hSw
    go_simp
    all_goals with_reducible rfl
  try simp only [Act.put, List.setIfInBounds_toArray, List.set_cons_zero, List.set_cons_succ]
  refine wpAnyH_take (i := 4) (v := ?_) (iatLS (iatSS (iatSS (iatSS (iatSS iatZS))))) (by kernel_rfl) (by kernel_rfl) (by kernel_rfl) (fun _ _ _ h => h) (Or.inl ⟨by rfl, ?_⟩) (by assumption) ?_
  rotate_left
  · intro w hSw
    try dsimp only at hSw
    go_simp
    all_goals with_reducible rfl
  try simp only [Act.put, List.setIfInBounds_toArray, List.set_cons_zero, List.set_cons_succ]
  refine wpAnyH_take (i := 5) (v := ?_) (iatLS (iatSS (iatSS (iatSS (iatSS (iatSS iatZS)))))) (by kernel_rfl) (by kernel_rfl) (by kernel_rfl) (fun _ _ _ h => h) (Or.inl ⟨by rfl, ?_⟩) (by assumption) ?_
  rotate_left
  · intro w hSw
    try dsimp only at hSw
    go_simp
    all_goals with_reducible rfl
  try simp only [Act.put, List.setIfInBounds_toArray, List.set_cons_zero, List.set_cons_succ]
  refine wpAnyH_take (i := 6) (v := ?_) (iatLS (iatSS (iatSS (iatSS (iatSS (iatSS (iatSS iatZS))))))) (by kernel_rfl) (by kernel_rfl) (by kernel_rfl) (fun _ _ _ h => h) (Or.inl ⟨by rfl, ?_⟩) (by assumption) ?_
  rotate_left
  · intro w hSw
    try dsimp only at hSw
    go_simp
    all_goals with_reducible rfl
  try simp only [Act.put, List.setIfInBounds_toArray, List.set_cons_zero, List.set_cons_succ]
  refine wpAnyH_take (i := 7) (v := ?_) (iatLS (iatSS (iatSS (iatSS (iatSS (iatSS (iatSS (iatSS iatZS)))))))) (by kernel_rfl) (by kernel_rfl) (by kernel_rfl) (fun _ _ _ h => h) (Or.inl ⟨by rfl, ?_⟩) (by assumption) ?_
  rotate_left
  · intro w hSw
    try dsimp only at hSw
    go_simp
    all_goals with_reducible rfl
  try simp only [Act.put, List.setIfInBounds_toArray, List.set_cons_zero, List.set_cons_succ]
  refine wpAnyH_ready (rs := [8, 9]) (by kernel_rfl) (by simp) ?_
  refine AllReadyH.cons (iatLS (iatSS (iatSS (iatSS (iatSS (iatSS (iatSS (iatSS (iatSS iatZS))))))))) (fun K hK => ?_) (AllReadyH.cons (iatLS (iatSS (iatSS (iatSS (iatSS (iatSS (iatSS (iatSS (iatSS (iatSS iatZS)))))))))) (fun K hK => ?_) (AllReadyH.nil))
  go_simp
  refine (yield13_any ga gc K0 (HT.out.grown HB0.out)).mono ?_
  rintro e9 K1 ⟨ya, yc, rfl, hy, hb⟩
  have HY1 := Lib.hid hy
  clear hy
  have HB1 := Lib.hid (HB0.out.trans (hb.mono HB0.out.size))
  have HS1 : Hid (K1.cell? ⟨tb, 0, none⟩ = some (.int .i64 (-1)) ∧ K1.cell? ⟨tb, 1, none⟩ = some (.int .i64 0) ∧ K1.cell? ⟨tb, 2, none⟩ = some (.int .i64 0) ∧ K1.cell? ⟨tb, 3, none⟩ = some (.slice ga 3 gc)) := Lib.hid ⟨(HX.out.below HB1.out HX.out.lt).cell 0, (HX.out.below HB1.out HX.out.lt).cell 1, (HX.out.below HB1.out HX.out.lt).cell 2, (HX.out.below HB1.out HX.out.lt).cell 3⟩
  clear hb
  try dsimp only
  refine hK.out _ _ ?_ (fun hHeld => ?_)
  · exact HS1.out
  clear hK K
  try simp only [Act.put, List.setIfInBounds_toArray, List.set_cons_zero, List.set_cons_succ]
  refine wpAnyH_ready (rs := [9]) (by kernel_rfl) (by simp) ?_
  refine AllReadyH.cons (iatLS (iatSS (iatSS (iatSS (iatSS (iatSS (iatSS (iatSS (iatSS (iatSS iatZS)))))))))) (fun K hK => ?_) AllReadyH.nil
  go_simp
  obtain ⟨lbHL, hlbHL⟩ : ∃ q, Hid (K1.heap.size = q) := ⟨_, Lib.hid rfl⟩
  rw [hlbHL.out]
  have hI := ints_new K1 [0, 0, 1, 1] 4 rfl (e9_mx 4 (by omega))
  rw [hlbHL.out] at hI
  have hb : Below K1.heap.size K1 (K1.alloc (.cells ([0, 0, 1, 1].map (Value.int .i64)).toArray 3)) := (Below.refl _ _).alloc (Nat.le_refl _) _
  change Below _ _ (K1.alloc (.cells #[.int .i64 0, .int .i64 0, .int .i64 1, .int .i64 1] 3)) at hb
  change Ints (K1.alloc (.cells #[.int .i64 0, .int .i64 0, .int .i64 1, .int .i64 1] 3)) _ _ _ at hI
  generalize K1.alloc (.cells #[.int .i64 0, .int .i64 0, .int .i64 1, .int .i64 1] 3) = K2 at hI hb ⊢
  have HL2 := Lib.hid hI
  clear hI
  have HB2 := Lib.hid (HB1.out.trans (hb.mono HB1.out.size))
  have HY2 := Lib.hid (HY1.out.grown hb)
  have HS2 : Hid (K2.cell? ⟨tb, 0, none⟩ = some (.int .i64 (-1)) ∧ K2.cell? ⟨tb, 1, none⟩ = some (.int .i64 0) ∧ K2.cell? ⟨tb, 2, none⟩ = some (.int .i64 0) ∧ K2.cell? ⟨tb, 3, none⟩ = some (.slice ga 3 gc)) := Lib.hid ⟨(HX.out.below HB2.out HX.out.lt).cell 0, (HX.out.below HB2.out HX.out.lt).cell 1, (HX.out.below HB2.out HX.out.lt).cell 2, (HX.out.below HB2.out HX.out.lt).cell 3⟩
  clear hb
  try dsimp only
  refine hK.out _ _ ?_ (fun hHeld => ?_)
  · exact HS2.out
  clear hK K
  try simp only [Act.put, List.setIfInBounds_toArray, List.set_cons_zero, List.set_cons_succ]
  rotate_left
  go_simp
  obtain ⟨lbHL, hlbHL⟩ : ∃ q, Hid (K0.heap.size = q) := ⟨_, Lib.hid rfl⟩
  rw [hlbHL.out]
  have hI := ints_new K0 [0, 0, 1, 1] 4 rfl (e9_mx 4 (by omega))
  rw [hlbHL.out] at hI
  have hb : Below K0.heap.size K0 (K0.alloc (.cells ([0, 0, 1, 1].map (Value.int .i64)).toArray 3)) := (Below.refl _ _).alloc (Nat.le_refl _) _
  change Below _ _ (K0.alloc (.cells #[.int .i64 0, .int .i64 0, .int .i64 1, .int .i64 1] 3)) at hb
  change Ints (K0.alloc (.cells #[.int .i64 0, .int .i64 0, .int .i64 1, .int .i64 1] 3)) _ _ _ at hI
  generalize K0.alloc (.cells #[.int .i64 0, .int .i64 0, .int .i64 1, .int .i64 1] 3) = K1 at hI hb ⊢
  have HL1 := Lib.hid hI
  clear hI
  have HB1 := Lib.hid (HB0.out.trans (hb.mono HB0.out.size))
  have HS1 : Hid (K1.cell? ⟨tb, 0, none⟩ = some (.int .i64 (-1)) ∧ K1.cell? ⟨tb, 1, none⟩ = some (.int .i64 0) ∧ K1.cell? ⟨tb, 2, none⟩ = some (.int .i64 0) ∧ K1.cell? ⟨tb, 3, none⟩ = some (.slice ga 3 gc)) := Lib.hid ⟨(HX.out.below HB1.out HX.out.lt).cell 0, (HX.out.below HB1.out HX.out.lt).cell 1, (HX.out.below HB1.out HX.out.lt).cell 2, (HX.out.below HB1.out HX.out.lt).cell 3⟩
  clear hb
  try dsimp only
  refine hK.out _ _ ?_ (fun hHeld => ?_)
  · exact HS1.out
  clear hK K
  try simp only [Act.put, List.setIfInBounds_toArray, List.set_cons_zero, List.set_cons_succ]
  refine wpAnyH_ready (rs := [8]) (by kernel_rfl) (by simp) ?_
  refine AllReadyH.cons (iatLS (iatSS (iatSS (iatSS (iatSS (iatSS (iatSS (iatSS (iatSS iatZS))))))))) (fun K hK => ?_) AllReadyH.nil
  go_simp
  refine (yield13_any ga gc K1 (HT.out.grown HB1.out)).mono ?_
  rintro e9 K2 ⟨ya, yc, rfl, hy, hb⟩
  have HY2 := Lib.hid hy
  clear hy
  have HB2 := Lib.hid (HB1.out.trans (hb.mono HB1.out.size))
  have HL2 := Lib.hid (HL1.out.grown hb)
  have HS2 : Hid (K2.cell? ⟨tb, 0, none⟩ = some (.int .i64 (-1)) ∧ K2.cell? ⟨tb, 1, none⟩ = some (.int .i64 0) ∧ K2.cell? ⟨tb, 2, none⟩ = some (.int .i64 0) ∧ K2.cell? ⟨tb, 3, none⟩ = some (.slice ga 3 gc)) := Lib.hid ⟨(HX.out.below HB2.out HX.out.lt).cell 0, (HX.out.below HB2.out HX.out.lt).cell 1, (HX.out.below HB2.out HX.out.lt).cell 2, (HX.out.below HB2.out HX.out.lt).cell 3⟩
  clear hb
  try dsimp only
  refine hK.out _ _ ?_ (fun hHeld => ?_)
  · exact HS2.out
  clear hK K
  try simp only [Act.put, List.setIfInBounds_toArray, List.set_cons_zero, List.set_cons_succ]
  rotate_left
  all_goals
    refine wpAnyH_ready (rs := [10]) (by kernel_rfl) (by simp) ?_
    refine AllReadyH.cons (iatLS (iatSS (iatSS (iatSS (iatSS (iatSS (iatSS (iatSS (iatSS (iatSS (iatSS iatZS))))))))))) (fun K hK => ?_) AllReadyH.nil
    go_simp
    refine (si13_any [0, 0, 1, 1] 4 rfl ya (some ⟨lbHL, 0, none⟩) yc 4 K2 HY2.out HL2.out).mono ?_
    rintro e9 K3 ⟨rfl, hb⟩
    have HB3 := Lib.hid (HB2.out.trans (hb.mono HB2.out.size))
    have HS3 : Hid (K3.cell? ⟨tb, 0, none⟩ = some (.int .i64 (-1)) ∧ K3.cell? ⟨tb, 1, none⟩ = some (.int .i64 0) ∧ K3.cell? ⟨tb, 2, none⟩ = some (.int .i64 0) ∧ K3.cell? ⟨tb, 3, none⟩ = some (.slice ga 3 gc)) := Lib.hid ⟨(HX.out.below HB3.out HX.out.lt).cell 0, (HX.out.below HB3.out HX.out.lt).cell 1, (HX.out.below HB3.out HX.out.lt).cell 2, (HX.out.below HB3.out HX.out.lt).cell 3⟩
    clear hb
    try dsimp only
    refine hK.out _ _ ?_ (fun hHeld => ?_)
    · exact HS3.out
    clear hK K
    try simp only [Act.put, List.setIfInBounds_toArray, List.set_cons_zero, List.set_cons_succ]
    refine wpAnyH_take (i := 11) (v := ?_) (iatLS (iatSS (iatSS (iatSS (iatSS (iatSS (iatSS (iatSS (iatSS (iatSS (iatSS (iatSS iatZS)))))))))))) (by kernel_rfl) (by kernel_rfl) (by kernel_rfl) (fun _ _ _ h => h) (Or.inl ⟨by rfl, ?_⟩) (by assumption) ?_
    rotate_left
    · intro w hSw
      try dsimp only at hSw
      go_simp
      all_goals with_reducible rfl
    try simp only [Act.put, List.setIfInBounds_toArray, List.set_cons_zero, List.set_cons_succ]
    refine wpAnyH_take (i := 12) (v := ?_) (iatLS (iatSS (iatSS (iatSS (iatSS (iatSS (iatSS (iatSS (iatSS (iatSS (iatSS (iatSS (iatSS iatZS))))))))))))) (by kernel_rfl) (by kernel_rfl) (by kernel_rfl) (fun _ _ _ h => h) (Or.inl ⟨by rfl, ?_⟩) (by assumption) ?_
    rotate_left
    · intro w hSw
      try dsimp only at hSw
      go_simp
      all_goals with_reducible rfl
    try simp only [Act.put, List.setIfInBounds_toArray, List.set_cons_zero, List.set_cons_succ]
    refine wpAnyH_take (i := 14) (v := ?_) (iatLS (iatSS (iatSS (iatSS (iatSS (iatSS (iatSS (iatSS (iatSS (iatSS (iatSS (iatSS (iatSS (iatSS (iatSS iatZS))))))))))))))) (by kernel_rfl) (by kernel_rfl) (by kernel_rfl) (fun _ _ _ h => h) (Or.inl ⟨by rfl, ?_⟩) (by assumption) ?_
    rotate_left
    · intro w hSw
      try dsimp only at hSw
      go_simp
      all_goals with_reducible rfl
    try simp only [Act.put, List.setIfInBounds_toArray, List.set_cons_zero, List.set_cons_succ]
    refine wpAnyH_ready (rs := [13, 15]) (by kernel_rfl) (by simp) ?_
    refine AllReadyH.cons (iatLS (iatSS (iatSS (iatSS (iatSS (iatSS (iatSS (iatSS (iatSS (iatSS (iatSS (iatSS (iatSS (iatSS iatZS)))))))))))))) (fun K hK => ?_) (AllReadyH.cons (iatLS (iatSS (iatSS (iatSS (iatSS (iatSS (iatSS (iatSS (iatSS (iatSS (iatSS (iatSS (iatSS (iatSS (iatSS (iatSS iatZS)))))))))))))))) (fun K hK => ?_) (AllReadyH.nil))
    go_simp
    obtain ⟨qh, hqh⟩ : ∃ q, Hid (K3.heap.size = q) := ⟨_, Lib.hid rfl⟩
    have hab := ab_any K3
    rw [hqh.out] at hab
    refine Calls.mono hab ?_
    rintro e9 K4 ⟨rfl, hc, hb⟩
    rw [← hqh.out] at hb
    clear hab
    have HC4 := Lib.hid hc
    clear hc
    have HB4 := Lib.hid (HB3.out.trans (hb.mono HB3.out.size))
    have HS4 : Hid (K4.cell? ⟨tb, 0, none⟩ = some (.int .i64 (-1)) ∧ K4.cell? ⟨tb, 1, none⟩ = some (.int .i64 0) ∧ K4.cell? ⟨tb, 2, none⟩ = some (.int .i64 0) ∧ K4.cell? ⟨tb, 3, none⟩ = some (.slice ga 3 gc)) := Lib.hid ⟨(HX.out.below HB4.out HX.out.lt).cell 0, (HX.out.below HB4.out HX.out.lt).cell 1, (HX.out.below HB4.out HX.out.lt).cell 2, (HX.out.below HB4.out HX.out.lt).cell 3⟩
    clear hb
    try dsimp only
    refine hK.out _ _ ?_ (fun hHeld => ?_)
    · exact HS4.out
    clear hK K
    try simp only [Act.put, List.setIfInBounds_toArray, List.set_cons_zero, List.set_cons_succ]
    refine wpAnyH_ready (rs := [15]) (by kernel_rfl) (by simp) ?_
    refine AllReadyH.cons (iatLS (iatSS (iatSS (iatSS (iatSS (iatSS (iatSS (iatSS (iatSS (iatSS (iatSS (iatSS (iatSS (iatSS (iatSS (iatSS iatZS)))))))))))))))) (fun K hK => ?_) AllReadyH.nil
    go_simp
    obtain ⟨lbHL, hlbHL⟩ : ∃ q, Hid (K4.heap.size = q) := ⟨_, Lib.hid rfl⟩
    rw [hlbHL.out]
    have hI := ints_new K4 [0, 0, 1, 1] 4 rfl (e9_mx 4 (by omega))
    rw [hlbHL.out] at hI
    have hb : Below K4.heap.size K4 (K4.alloc (.cells ([0, 0, 1, 1].map (Value.int .i64)).toArray 3)) := (Below.refl _ _).alloc (Nat.le_refl _) _
    change Below _ _ (K4.alloc (.cells #[.int .i64 0, .int .i64 0, .int .i64 1, .int .i64 1] 3)) at hb
    change Ints (K4.alloc (.cells #[.int .i64 0, .int .i64 0, .int .i64 1, .int .i64 1] 3)) _ _ _ at hI
    generalize K4.alloc (.cells #[.int .i64 0, .int .i64 0, .int .i64 1, .int .i64 1] 3) = K5 at hI hb ⊢
    have HL5 := Lib.hid hI
    clear hI
    have HB5 := Lib.hid (HB4.out.trans (hb.mono HB4.out.size))
    have HC5 := Lib.hid (HC4.out.grown hb)
    have HS5 : Hid (K5.cell? ⟨tb, 0, none⟩ = some (.int .i64 (-1)) ∧ K5.cell? ⟨tb, 1, none⟩ = some (.int .i64 0) ∧ K5.cell? ⟨tb, 2, none⟩ = some (.int .i64 0) ∧ K5.cell? ⟨tb, 3, none⟩ = some (.slice ga 3 gc)) := Lib.hid ⟨(HX.out.below HB5.out HX.out.lt).cell 0, (HX.out.below HB5.out HX.out.lt).cell 1, (HX.out.below HB5.out HX.out.lt).cell 2, (HX.out.below HB5.out HX.out.lt).cell 3⟩
    clear hb
    try dsimp only
    refine hK.out _ _ ?_ (fun hHeld => ?_)
    · exact HS5.out
    clear hK K
    try simp only [Act.put, List.setIfInBounds_toArray, List.set_cons_zero, List.set_cons_succ]
    rotate_left
    go_simp
    obtain ⟨lbHL, hlbHL⟩ : ∃ q, Hid (K3.heap.size = q) := ⟨_, Lib.hid rfl⟩
    rw [hlbHL.out]
    have hI := ints_new K3 [0, 0, 1, 1] 4 rfl (e9_mx 4 (by omega))
    rw [hlbHL.out] at hI
    have hb : Below K3.heap.size K3 (K3.alloc (.cells ([0, 0, 1, 1].map (Value.int .i64)).toArray 3)) := (Below.refl _ _).alloc (Nat.le_refl _) _
    change Below _ _ (K3.alloc (.cells #[.int .i64 0, .int .i64 0, .int .i64 1, .int .i64 1] 3)) at hb
    change Ints (K3.alloc (.cells #[.int .i64 0, .int .i64 0, .int .i64 1, .int .i64 1] 3)) _ _ _ at hI
    generalize K3.alloc (.cells #[.int .i64 0, .int .i64 0, .int .i64 1, .int .i64 1] 3) = K4 at hI hb ⊢
    have HL4 := Lib.hid hI
    clear hI
    have HB4 := Lib.hid (HB3.out.trans (hb.mono HB3.out.size))
    have HS4 : Hid (K4.cell? ⟨tb, 0, none⟩ = some (.int .i64 (-1)) ∧ K4.cell? ⟨tb, 1, none⟩ = some (.int .i64 0) ∧ K4.cell? ⟨tb, 2, none⟩ = some (.int .i64 0) ∧ K4.cell? ⟨tb, 3, none⟩ = some (.slice ga 3 gc)) := Lib.hid ⟨(HX.out.below HB4.out HX.out.lt).cell 0, (HX.out.below HB4.out HX.out.lt).cell 1, (HX.out.below HB4.out HX.out.lt).cell 2, (HX.out.below HB4.out HX.out.lt).cell 3⟩
    clear hb
    try dsimp only
    refine hK.out _ _ ?_ (fun hHeld => ?_)
    · exact HS4.out
    clear hK K
    try simp only [Act.put, List.setIfInBounds_toArray, List.set_cons_zero, List.set_cons_succ]
    refine wpAnyH_ready (rs := [13]) (by kernel_rfl) (by simp) ?_
    refine AllReadyH.cons (iatLS (iatSS (iatSS (iatSS (iatSS (iatSS (iatSS (iatSS (iatSS (iatSS (iatSS (iatSS (iatSS (iatSS iatZS)))))))))))))) (fun K hK => ?_) AllReadyH.nil
    go_simp
    obtain ⟨qh, hqh⟩ : ∃ q, Hid (K4.heap.size = q) := ⟨_, Lib.hid rfl⟩
    have hab := ab_any K4
    rw [hqh.out] at hab
    refine Calls.mono hab ?_
    rintro e9 K5 ⟨rfl, hc, hb⟩
    rw [← hqh.out] at hb
    clear hab
    have HC5 := Lib.hid hc
    clear hc
    have HB5 := Lib.hid (HB4.out.trans (hb.mono HB4.out.size))
    have HL5 := Lib.hid (HL4.out.grown hb)
    have HS5 : Hid (K5.cell? ⟨tb, 0, none⟩ = some (.int .i64 (-1)) ∧ K5.cell? ⟨tb, 1, none⟩ = some (.int .i64 0) ∧ K5.cell? ⟨tb, 2, none⟩ = some (.int .i64 0) ∧ K5.cell? ⟨tb, 3, none⟩ = some (.slice ga 3 gc)) := Lib.hid ⟨(HX.out.below HB5.out HX.out.lt).cell 0, (HX.out.below HB5.out HX.out.lt).cell 1, (HX.out.below HB5.out HX.out.lt).cell 2, (HX.out.below HB5.out HX.out.lt).cell 3⟩
    clear hb
    try dsimp only
    refine hK.out _ _ ?_ (fun hHeld => ?_)
    · exact HS5.out
    clear hK K
    try simp only [Act.put, List.setIfInBounds_toArray, List.set_cons_zero, List.set_cons_succ]
    rotate_left
    all_goals
      refine wpAnyH_ready (rs := [16]) (by kernel_rfl) (by simp) ?_
      refine AllReadyH.cons (iatLS (iatSS (iatSS (iatSS (iatSS (iatSS (iatSS (iatSS (iatSS (iatSS (iatSS (iatSS (iatSS (iatSS (iatSS (iatSS (iatSS iatZS))))))))))))))))) (fun K hK => ?_) AllReadyH.nil
      go_simp
      refine (check13_any qh ga gc (some ⟨lbHL, 0, none⟩) 4 K5 HC5.out (HT.out.grown HB5.out) HL5.out).mono ?_
      rintro e9 K6 ⟨rfl, hb⟩
      have HB6 := Lib.hid (HB5.out.trans (hb.mono HB5.out.size))
      have HS6 : Hid (K6.cell? ⟨tb, 0, none⟩ = some (.int .i64 (-1)) ∧ K6.cell? ⟨tb, 1, none⟩ = some (.int .i64 0) ∧ K6.cell? ⟨tb, 2, none⟩ = some (.int .i64 0) ∧ K6.cell? ⟨tb, 3, none⟩ = some (.slice ga 3 gc)) := Lib.hid ⟨(HX.out.below HB6.out HX.out.lt).cell 0, (HX.out.below HB6.out HX.out.lt).cell 1, (HX.out.below HB6.out HX.out.lt).cell 2, (HX.out.below HB6.out HX.out.lt).cell 3⟩
      clear hb
      try dsimp only
      refine hK.out _ _ ?_ (fun hHeld => ?_)
      · exact HS6.out
      clear hK K
      try simp only [Act.put, List.setIfInBounds_toArray, List.set_cons_zero, List.set_cons_succ]
      refine wpAnyH_take (i := 17) (v := ?_) (iatLS (iatSS (iatSS (iatSS (iatSS (iatSS (iatSS (iatSS (iatSS (iatSS (iatSS (iatSS (iatSS (iatSS (iatSS (iatSS (iatSS (iatSS iatZS)))))))))))))))))) (by kernel_rfl) (by kernel_rfl) (by kernel_rfl) (fun _ _ _ h => h) (Or.inl ⟨by rfl, ?_⟩) (by assumption) ?_
      rotate_left
      · intro w hSw
        try dsimp only at hSw
        go_simp
        all_goals with_reducible rfl
      try simp only [Act.put, List.setIfInBounds_toArray, List.set_cons_zero, List.set_cons_succ]
      refine wpAnyH_take (i := 18) (v := ?_) (iatLS (iatSS (iatSS (iatSS (iatSS (iatSS (iatSS (iatSS (iatSS (iatSS (iatSS (iatSS (iatSS (iatSS (iatSS (iatSS (iatSS (iatSS (iatSS iatZS))))))))))))))))))) (by kernel_rfl) (by kernel_rfl) (by kernel_rfl) (fun _ _ _ h => h) (Or.inl ⟨by rfl, ?_⟩) (by assumption) ?_
      rotate_left
      · intro w hSw
        try dsimp only at hSw
        go_simp
        all_goals with_reducible rfl
      try simp only [Act.put, List.setIfInBounds_toArray, List.set_cons_zero, List.set_cons_succ]
      refine wpAnyH_take (i := 20) (v := ?_) (iatLS (iatSS (iatSS (iatSS (iatSS (iatSS (iatSS (iatSS (iatSS (iatSS (iatSS (iatSS (iatSS (iatSS (iatSS (iatSS (iatSS (iatSS (iatSS (iatSS (iatSS iatZS))))))))))))))))))))) (by kernel_rfl) (by kernel_rfl) (by kernel_rfl) (fun _ _ _ h => h) (Or.inl ⟨by rfl, ?_⟩) (by assumption) ?_
      rotate_left
      · intro w hSw
        try dsimp only at hSw
        go_simp
        all_goals with_reducible rfl
      try simp only [Act.put, List.setIfInBounds_toArray, List.set_cons_zero, List.set_cons_succ]
      refine wpAnyH_ready (rs := [19]) (by kernel_rfl) (by simp) ?_
      refine AllReadyH.cons (iatLS (iatSS (iatSS (iatSS (iatSS (iatSS (iatSS (iatSS (iatSS (iatSS (iatSS (iatSS (iatSS (iatSS (iatSS (iatSS (iatSS (iatSS (iatSS (iatSS iatZS)))))))))))))))))))) (fun K hK => ?_) AllReadyH.nil
      go_simp
      obtain ⟨qh, hqh⟩ : ∃ q, Hid (K6.heap.size = q) := ⟨_, Lib.hid rfl⟩
      have hab := ab_any K6
      rw [hqh.out] at hab
      refine Calls.mono hab ?_
      rintro e9 K7 ⟨rfl, hc, hb⟩
      rw [← hqh.out] at hb
      clear hab
      have HC7 := Lib.hid hc
      clear hc
      have HB7 := Lib.hid (HB6.out.trans (hb.mono HB6.out.size))
      have HS7 : Hid (K7.cell? ⟨tb, 0, none⟩ = some (.int .i64 (-1)) ∧ K7.cell? ⟨tb, 1, none⟩ = some (.int .i64 0) ∧ K7.cell? ⟨tb, 2, none⟩ = some (.int .i64 0) ∧ K7.cell? ⟨tb, 3, none⟩ = some (.slice ga 3 gc)) := Lib.hid ⟨(HX.out.below HB7.out HX.out.lt).cell 0, (HX.out.below HB7.out HX.out.lt).cell 1, (HX.out.below HB7.out HX.out.lt).cell 2, (HX.out.below HB7.out HX.out.lt).cell 3⟩
      clear hb
      try dsimp only
      refine hK.out _ _ ?_ (fun hHeld => ?_)
      · exact HS7.out
      clear hK K
      try simp only [Act.put, List.setIfInBounds_toArray, List.set_cons_zero, List.set_cons_succ]
      refine wpAnyH_ready (rs := [21]) (by kernel_rfl) (by simp) ?_
      refine AllReadyH.cons (iatLS (iatSS (iatSS (iatSS (iatSS (iatSS (iatSS (iatSS (iatSS (iatSS (iatSS (iatSS (iatSS (iatSS (iatSS (iatSS (iatSS (iatSS (iatSS (iatSS (iatSS (iatSS iatZS)))))))))))))))))))))) (fun K hK => ?_) AllReadyH.nil
      go_simp
      refine (text13_any qh ga gc K7 HC7.out (HT.out.grown HB7.out)).mono ?_
      rintro e9 K8 ⟨rfl, hb⟩
      have HB8 := Lib.hid (HB7.out.trans (hb.mono HB7.out.size))
      have HS8 : Hid (K8.cell? ⟨tb, 0, none⟩ = some (.int .i64 (-1)) ∧ K8.cell? ⟨tb, 1, none⟩ = some (.int .i64 0) ∧ K8.cell? ⟨tb, 2, none⟩ = some (.int .i64 0) ∧ K8.cell? ⟨tb, 3, none⟩ = some (.slice ga 3 gc)) := Lib.hid ⟨(HX.out.below HB8.out HX.out.lt).cell 0, (HX.out.below HB8.out HX.out.lt).cell 1, (HX.out.below HB8.out HX.out.lt).cell 2, (HX.out.below HB8.out HX.out.lt).cell 3⟩
      clear hb
      try dsimp only
      refine hK.out _ _ ?_ (fun hHeld => ?_)
      · exact HS8.out
      clear hK K
      try simp only [Act.put, List.setIfInBounds_toArray, List.set_cons_zero, List.set_cons_succ]
      refine wpAnyH_take (i := 22) (v := ?_) (iatLS (iatSS (iatSS (iatSS (iatSS (iatSS (iatSS (iatSS (iatSS (iatSS (iatSS (iatSS (iatSS (iatSS (iatSS (iatSS (iatSS (iatSS (iatSS (iatSS (iatSS (iatSS (iatSS iatZS))))))))))))))))))))))) (by kernel_rfl) (by kernel_rfl) (by kernel_rfl) (fun _ _ _ h => h) (Or.inl ⟨by rfl, ?_⟩) (by assumption) ?_
      rotate_left
      · intro w hSw
        try dsimp only at hSw
        go_simp
        all_goals with_reducible rfl
      try simp only [Act.put, List.setIfInBounds_toArray, List.set_cons_zero, List.set_cons_succ]
      refine wpAnyH_take (i := 23) (v := ?_) (iatLS (iatSS (iatSS (iatSS (iatSS (iatSS (iatSS (iatSS (iatSS (iatSS (iatSS (iatSS (iatSS (iatSS (iatSS (iatSS (iatSS (iatSS (iatSS (iatSS (iatSS (iatSS (iatSS (iatSS iatZS)))))))))))))))))))))))) (by kernel_rfl) (by kernel_rfl) (by kernel_rfl) (fun _ _ _ h => h) (Or.inl ⟨by rfl, ?_⟩) (by assumption) ?_
      rotate_left
      · intro w hSw
        try dsimp only at hSw
        go_simp
        all_goals with_reducible rfl
      try simp only [Act.put, List.setIfInBounds_toArray, List.set_cons_zero, List.set_cons_succ]
      refine wpAnyH_take (i := 24) (v := ?_) (iatLS (iatSS (iatSS (iatSS (iatSS (iatSS (iatSS (iatSS (iatSS (iatSS (iatSS (iatSS (iatSS (iatSS (iatSS (iatSS (iatSS (iatSS (iatSS (iatSS (iatSS (iatSS (iatSS (iatSS (iatSS iatZS))))))))))))))))))))))))) (by kernel_rfl) (by kernel_rfl) (by kernel_rfl) (fun _ _ _ h => h) (Or.inl ⟨by rfl, ?_⟩) (by assumption) ?_
      rotate_left
      · intro w hSw
        try dsimp only at hSw
        go_simp
        all_goals with_reducible rfl
      try simp only [Act.put, List.setIfInBounds_toArray, List.set_cons_zero, List.set_cons_succ]
      refine wpAnyH_take (i := 25) (v := ?_) (iatLS (iatSS (iatSS (iatSS (iatSS (iatSS (iatSS (iatSS (iatSS (iatSS (iatSS (iatSS (iatSS (iatSS (iatSS (iatSS (iatSS (iatSS (iatSS (iatSS (iatSS (iatSS (iatSS (iatSS (iatSS (iatSS iatZS)))))))))))))))))))))))))) (by kernel_rfl) (by kernel_rfl) (by kernel_rfl) (fun _ _ _ h => h) (Or.inl ⟨by rfl, ?_⟩) (by assumption) ?_
      rotate_left
      · intro w hSw
        try dsimp only at hSw
        go_simp
        all_goals with_reducible rfl
      try simp only [Act.put, List.setIfInBounds_toArray, List.set_cons_zero, List.set_cons_succ]
      refine wpAnyH_ready (rs := [26, 27]) (by kernel_rfl) (by simp) ?_
      refine AllReadyH.cons (iatLS (iatSS (iatSS (iatSS (iatSS (iatSS (iatSS (iatSS (iatSS (iatSS (iatSS (iatSS (iatSS (iatSS (iatSS (iatSS (iatSS (iatSS (iatSS (iatSS (iatSS (iatSS (iatSS (iatSS (iatSS (iatSS (iatSS iatZS))))))))))))))))))))))))))) (fun K hK => ?_) (AllReadyH.cons (iatLS (iatSS (iatSS (iatSS (iatSS (iatSS (iatSS (iatSS (iatSS (iatSS (iatSS (iatSS (iatSS (iatSS (iatSS (iatSS (iatSS (iatSS (iatSS (iatSS (iatSS (iatSS (iatSS (iatSS (iatSS (iatSS (iatSS (iatSS iatZS)))))))))))))))))))))))))))) (fun K hK => ?_) (AllReadyH.nil))
      go_simp
      refine (steps13_any ga gc K8 (HT.out.grown HB8.out)).mono ?_
      rintro e9 K9 ⟨ya, yc, rfl, hy, hb⟩
      have HY9 := Lib.hid hy
      clear hy
      have HB9 := Lib.hid (HB8.out.trans (hb.mono HB8.out.size))
      have HS9 : Hid (K9.cell? ⟨tb, 0, none⟩ = some (.int .i64 (-1)) ∧ K9.cell? ⟨tb, 1, none⟩ = some (.int .i64 0) ∧ K9.cell? ⟨tb, 2, none⟩ = some (.int .i64 0) ∧ K9.cell? ⟨tb, 3, none⟩ = some (.slice ga 3 gc)) := Lib.hid ⟨(HX.out.below HB9.out HX.out.lt).cell 0, (HX.out.below HB9.out HX.out.lt).cell 1, (HX.out.below HB9.out HX.out.lt).cell 2, (HX.out.below HB9.out HX.out.lt).cell 3⟩
      clear hb
      try dsimp only
      refine hK.out _ _ ?_ (fun hHeld => ?_)
      · exact HS9.out
      clear hK K
      try simp only [Act.put, List.setIfInBounds_toArray, List.set_cons_zero, List.set_cons_succ]
      refine wpAnyH_ready (rs := [27]) (by kernel_rfl) (by simp) ?_
      refine AllReadyH.cons (iatLS (iatSS (iatSS (iatSS (iatSS (iatSS (iatSS (iatSS (iatSS (iatSS (iatSS (iatSS (iatSS (iatSS (iatSS (iatSS (iatSS (iatSS (iatSS (iatSS (iatSS (iatSS (iatSS (iatSS (iatSS (iatSS (iatSS (iatSS iatZS)))))))))))))))))))))))))))) (fun K hK => ?_) AllReadyH.nil
      go_simp
      obtain ⟨lbHL, hlbHL⟩ : ∃ q, Hid (K9.heap.size = q) := ⟨_, Lib.hid rfl⟩
      rw [hlbHL.out]
      have hI := ints_new K9 [0, 0, 1] 3 rfl (e9_mx 3 (by omega))
      rw [hlbHL.out] at hI
      have hb : Below K9.heap.size K9 (K9.alloc (.cells ([0, 0, 1].map (Value.int .i64)).toArray 3)) := (Below.refl _ _).alloc (Nat.le_refl _) _
      change Below _ _ (K9.alloc (.cells #[.int .i64 0, .int .i64 0, .int .i64 1] 3)) at hb
      change Ints (K9.alloc (.cells #[.int .i64 0, .int .i64 0, .int .i64 1] 3)) _ _ _ at hI
      generalize K9.alloc (.cells #[.int .i64 0, .int .i64 0, .int .i64 1] 3) = K10 at hI hb ⊢
      have HL10 := Lib.hid hI
      clear hI
      have HB10 := Lib.hid (HB9.out.trans (hb.mono HB9.out.size))
      have HY10 := Lib.hid (HY9.out.grown hb)
      have HS10 : Hid (K10.cell? ⟨tb, 0, none⟩ = some (.int .i64 (-1)) ∧ K10.cell? ⟨tb, 1, none⟩ = some (.int .i64 0) ∧ K10.cell? ⟨tb, 2, none⟩ = some (.int .i64 0) ∧ K10.cell? ⟨tb, 3, none⟩ = some (.slice ga 3 gc)) := Lib.hid ⟨(HX.out.below HB10.out HX.out.lt).cell 0, (HX.out.below HB10.out HX.out.lt).cell 1, (HX.out.below HB10.out HX.out.lt).cell 2, (HX.out.below HB10.out HX.out.lt).cell 3⟩
      clear hb
      try dsimp only
      refine hK.out _ _ ?_ (fun hHeld => ?_)
      · exact HS10.out
      clear hK K
      try simp only [Act.put, List.setIfInBounds_toArray, List.set_cons_zero, List.set_cons_succ]
      rotate_left
      go_simp
      obtain ⟨lbHL, hlbHL⟩ : ∃ q, Hid (K8.heap.size = q) := ⟨_, Lib.hid rfl⟩
      rw [hlbHL.out]
      have hI := ints_new K8 [0, 0, 1] 3 rfl (e9_mx 3 (by omega))
      rw [hlbHL.out] at hI
      have hb : Below K8.heap.size K8 (K8.alloc (.cells ([0, 0, 1].map (Value.int .i64)).toArray 3)) := (Below.refl _ _).alloc (Nat.le_refl _) _
      change Below _ _ (K8.alloc (.cells #[.int .i64 0, .int .i64 0, .int .i64 1] 3)) at hb
      change Ints (K8.alloc (.cells #[.int .i64 0, .int .i64 0, .int .i64 1] 3)) _ _ _ at hI
      generalize K8.alloc (.cells #[.int .i64 0, .int .i64 0, .int .i64 1] 3) = K9 at hI hb ⊢
      have HL9 := Lib.hid hI
      clear hI
      have HB9 := Lib.hid (HB8.out.trans (hb.mono HB8.out.size))
      have HS9 : Hid (K9.cell? ⟨tb, 0, none⟩ = some (.int .i64 (-1)) ∧ K9.cell? ⟨tb, 1, none⟩ = some (.int .i64 0) ∧ K9.cell? ⟨tb, 2, none⟩ = some (.int .i64 0) ∧ K9.cell? ⟨tb, 3, none⟩ = some (.slice ga 3 gc)) := Lib.hid ⟨(HX.out.below HB9.out HX.out.lt).cell 0, (HX.out.below HB9.out HX.out.lt).cell 1, (HX.out.below HB9.out HX.out.lt).cell 2, (HX.out.below HB9.out HX.out.lt).cell 3⟩
      clear hb
      try dsimp only
      refine hK.out _ _ ?_ (fun hHeld => ?_)
      · exact HS9.out
      clear hK K
      try simp only [Act.put, List.setIfInBounds_toArray, List.set_cons_zero, List.set_cons_succ]
      refine wpAnyH_ready (rs := [26]) (by kernel_rfl) (by simp) ?_
      refine AllReadyH.cons (iatLS (iatSS (iatSS (iatSS (iatSS (iatSS (iatSS (iatSS (iatSS (iatSS (iatSS (iatSS (iatSS (iatSS (iatSS (iatSS (iatSS (iatSS (iatSS (iatSS (iatSS (iatSS (iatSS (iatSS (iatSS (iatSS (iatSS iatZS))))))))))))))))))))))))))) (fun K hK => ?_) AllReadyH.nil
      go_simp
      refine (steps13_any ga gc K9 (HT.out.grown HB9.out)).mono ?_
      rintro e9 K10 ⟨ya, yc, rfl, hy, hb⟩
      have HY10 := Lib.hid hy
      clear hy
      have HB10 := Lib.hid (HB9.out.trans (hb.mono HB9.out.size))
      have HL10 := Lib.hid (HL9.out.grown hb)
      have HS10 : Hid (K10.cell? ⟨tb, 0, none⟩ = some (.int .i64 (-1)) ∧ K10.cell? ⟨tb, 1, none⟩ = some (.int .i64 0) ∧ K10.cell? ⟨tb, 2, none⟩ = some (.int .i64 0) ∧ K10.cell? ⟨tb, 3, none⟩ = some (.slice ga 3 gc)) := Lib.hid ⟨(HX.out.below HB10.out HX.out.lt).cell 0, (HX.out.below HB10.out HX.out.lt).cell 1, (HX.out.below HB10.out HX.out.lt).cell 2, (HX.out.below HB10.out HX.out.lt).cell 3⟩
      clear hb
      try dsimp only
      refine hK.out _ _ ?_ (fun hHeld => ?_)
      · exact HS10.out
      clear hK K
      try simp only [Act.put, List.setIfInBounds_toArray, List.set_cons_zero, List.set_cons_succ]
      rotate_left
      all_goals
        refine wpAnyH_ready (rs := [28]) (by kernel_rfl) (by simp) ?_
        refine AllReadyH.cons (iatLS (iatSS (iatSS (iatSS (iatSS (iatSS (iatSS (iatSS (iatSS (iatSS (iatSS (iatSS (iatSS (iatSS (iatSS (iatSS (iatSS (iatSS (iatSS (iatSS (iatSS (iatSS (iatSS (iatSS (iatSS (iatSS (iatSS (iatSS (iatSS iatZS))))))))))))))))))))))))))))) (fun K hK => ?_) AllReadyH.nil
        go_simp
        refine (si13_any [0, 0, 1] 3 rfl ya (some ⟨lbHL, 0, none⟩) yc 3 K10 HY10.out HL10.out).mono ?_
        rintro e9 K11 ⟨rfl, hb⟩
        have HB11 := Lib.hid (HB10.out.trans (hb.mono HB10.out.size))
        have HS11 : Hid (K11.cell? ⟨tb, 0, none⟩ = some (.int .i64 (-1)) ∧ K11.cell? ⟨tb, 1, none⟩ = some (.int .i64 0) ∧ K11.cell? ⟨tb, 2, none⟩ = some (.int .i64 0) ∧ K11.cell? ⟨tb, 3, none⟩ = some (.slice ga 3 gc)) := Lib.hid ⟨(HX.out.below HB11.out HX.out.lt).cell 0, (HX.out.below HB11.out HX.out.lt).cell 1, (HX.out.below HB11.out HX.out.lt).cell 2, (HX.out.below HB11.out HX.out.lt).cell 3⟩
        clear hb
        try dsimp only
        refine hK.out _ _ ?_ (fun hHeld => ?_)
        · exact HS11.out
        clear hK K
        try simp only [Act.put, List.setIfInBounds_toArray, List.set_cons_zero, List.set_cons_succ]
        refine wpAnyH_take (i := 29) (v := ?_) (iatLS (iatSS (iatSS (iatSS (iatSS (iatSS (iatSS (iatSS (iatSS (iatSS (iatSS (iatSS (iatSS (iatSS (iatSS (iatSS (iatSS (iatSS (iatSS (iatSS (iatSS (iatSS (iatSS (iatSS (iatSS (iatSS (iatSS (iatSS (iatSS (iatSS iatZS)))))))))))))))))))))))))))))) (by kernel_rfl) (by kernel_rfl) (by kernel_rfl) (fun _ _ _ h => h) (Or.inl ⟨by rfl, ?_⟩) (by assumption) ?_
        rotate_left
        · intro w hSw
          try dsimp only at hSw
          go_simp
          all_goals with_reducible rfl
        try simp only [Act.put, List.setIfInBounds_toArray, List.set_cons_zero, List.set_cons_succ]
        refine wpAnyH_take (i := 30) (v := ?_) (iatLS (iatSS (iatSS (iatSS (iatSS (iatSS (iatSS (iatSS (iatSS (iatSS (iatSS (iatSS (iatSS (iatSS (iatSS (iatSS (iatSS (iatSS (iatSS (iatSS (iatSS (iatSS (iatSS (iatSS (iatSS (iatSS (iatSS (iatSS (iatSS (iatSS (iatSS iatZS))))))))))))))))))))))))))))))) (by kernel_rfl) (by kernel_rfl) (by kernel_rfl) (fun _ _ _ h => h) (Or.inl ⟨by rfl, ?_⟩) (by assumption) ?_
        rotate_left
        · intro w hSw
          try dsimp only at hSw
          go_simp
          all_goals with_reducible rfl
        try simp only [Act.put, List.setIfInBounds_toArray, List.set_cons_zero, List.set_cons_succ]
        refine wpAnyH_take (i := 31) (v := ?_) (iatLS (iatSS (iatSS (iatSS (iatSS (iatSS (iatSS (iatSS (iatSS (iatSS (iatSS (iatSS (iatSS (iatSS (iatSS (iatSS (iatSS (iatSS (iatSS (iatSS (iatSS (iatSS (iatSS (iatSS (iatSS (iatSS (iatSS (iatSS (iatSS (iatSS (iatSS (iatSS iatZS)))))))))))))))))))))))))))))))) (by kernel_rfl) (by kernel_rfl) (by kernel_rfl) (fun _ _ _ h => h) (Or.inl ⟨by rfl, ?_⟩) (by assumption) ?_
        rotate_left
        · intro w hSw
          try dsimp only at hSw
          go_simp
          all_goals with_reducible rfl
        try simp only [Act.put, List.setIfInBounds_toArray, List.set_cons_zero, List.set_cons_succ]
        refine wpAnyH_ready (rs := [32]) (by kernel_rfl) (by simp) ?_
        refine AllReadyH.cons (iatLS (iatSS (iatSS (iatSS (iatSS (iatSS (iatSS (iatSS (iatSS (iatSS (iatSS (iatSS (iatSS (iatSS (iatSS (iatSS (iatSS (iatSS (iatSS (iatSS (iatSS (iatSS (iatSS (iatSS (iatSS (iatSS (iatSS (iatSS (iatSS (iatSS (iatSS (iatSS (iatSS iatZS))))))))))))))))))))))))))))))))) (fun K hK => ?_) AllReadyH.nil
        go_simp
        refine (size13_any ga gc K11 (HT.out.grown HB11.out)).mono ?_
        rintro e9 K12 ⟨rfl, hb⟩
        have HB12 := Lib.hid (HB11.out.trans (hb.mono HB11.out.size))
        have HS12 : Hid (K12.cell? ⟨tb, 0, none⟩ = some (.int .i64 (-1)) ∧ K12.cell? ⟨tb, 1, none⟩ = some (.int .i64 0) ∧ K12.cell? ⟨tb, 2, none⟩ = some (.int .i64 0) ∧ K12.cell? ⟨tb, 3, none⟩ = some (.slice ga 3 gc)) := Lib.hid ⟨(HX.out.below HB12.out HX.out.lt).cell 0, (HX.out.below HB12.out HX.out.lt).cell 1, (HX.out.below HB12.out HX.out.lt).cell 2, (HX.out.below HB12.out HX.out.lt).cell 3⟩
        clear hb
        try dsimp only
        refine hK.out _ _ ?_ (fun hHeld => ?_)
        · exact HS12.out
        clear hK K
        try simp only [Act.put, List.setIfInBounds_toArray, List.set_cons_zero, List.set_cons_succ]
        refine wpAnyH_take (i := 33) (v := ?_) (iatLS (iatSS (iatSS (iatSS (iatSS (iatSS (iatSS (iatSS (iatSS (iatSS (iatSS (iatSS (iatSS (iatSS (iatSS (iatSS (iatSS (iatSS (iatSS (iatSS (iatSS (iatSS (iatSS (iatSS (iatSS (iatSS (iatSS (iatSS (iatSS (iatSS (iatSS (iatSS (iatSS (iatSS iatZS)))))))))))))))))))))))))))))))))) (by kernel_rfl) (by kernel_rfl) (by kernel_rfl) (fun _ _ _ h => h) (Or.inl ⟨by rfl, ?_⟩) (by assumption) ?_
        rotate_left
        · intro w hSw
          try dsimp only at hSw
          go_simp
          all_goals with_reducible rfl
        try simp only [Act.put, List.setIfInBounds_toArray, List.set_cons_zero, List.set_cons_succ]
        refine wpAnyH_take (i := 34) (v := ?_) (iatLS (iatSS (iatSS (iatSS (iatSS (iatSS (iatSS (iatSS (iatSS (iatSS (iatSS (iatSS (iatSS (iatSS (iatSS (iatSS (iatSS (iatSS (iatSS (iatSS (iatSS (iatSS (iatSS (iatSS (iatSS (iatSS (iatSS (iatSS (iatSS (iatSS (iatSS (iatSS (iatSS (iatSS (iatSS iatZS))))))))))))))))))))))))))))))))))) (by kernel_rfl) (by kernel_rfl) (by kernel_rfl) (fun _ _ _ h => h) (Or.inl ⟨by rfl, ?_⟩) (by assumption) ?_
        rotate_left
        · intro w hSw
          try dsimp only at hSw
          go_simp
          all_goals with_reducible rfl
        try simp only [Act.put, List.setIfInBounds_toArray, List.set_cons_zero, List.set_cons_succ]
        refine wpAnyH_take (i := 35) (v := ?_) (iatLS (iatSS (iatSS (iatSS (iatSS (iatSS (iatSS (iatSS (iatSS (iatSS (iatSS (iatSS (iatSS (iatSS (iatSS (iatSS (iatSS (iatSS (iatSS (iatSS (iatSS (iatSS (iatSS (iatSS (iatSS (iatSS (iatSS (iatSS (iatSS (iatSS (iatSS (iatSS (iatSS (iatSS (iatSS (iatSS iatZS)))))))))))))))))))))))))))))))))))) (by kernel_rfl) (by kernel_rfl) (by kernel_rfl) (fun _ _ _ h => h) (Or.inl ⟨by rfl, ?_⟩) (by assumption) ?_
        rotate_left
        · intro w hSw
          try dsimp only at hSw
          go_simp
          all_goals with_reducible rfl
        try simp only [Act.put, List.setIfInBounds_toArray, List.set_cons_zero, List.set_cons_succ]
        refine wpAnyH_done (by kernel_rfl) ?_ _
        go_wp2_with (fail)
        exact bodyPost_ret (v := .bool true) (by simp [results, Try.results49, go_sem]; try first | rfl | assumption | omega) rfl ⟨rfl, HV.out.trans (HB12.out.mono HV.out.size)⟩
end Go.Proofs.Ythogiakfbgehnaa

namespace Go.Proofs.Ythogiakfbgehnaa
open Go.RowKit

attribute [local go_sem] Oper.semAt_some

end Go.Proofs.Ythogiakfbgehnaa

namespace Go.Proofs.Ythogiakfbgehnaa
open Go.RowKit Go.Maps

attribute [local go_sem] Oper.semAt_some

/-- What Grow answers, told for a law. -/
theorem grow_law (d : CfD) (sa : Option Addr) (sc : Nat) (st : List Int) (w : World) (hd : CfAt w d) (hrg : ∀ r ∈ d.alts, ∀ a ∈ r.ds, ∀ x ∈ a.l, -9223372036854775808 ≤ x ∧ x ≤ 9223372036854775807) (hst : Ints w sa sc st) :
    Calls Try.prog 54 #[d.v, .slice sa st.length sc] w fun e W => Below w.heap.size w W ∧ ((∃ (s : Nat) (x : Int), x ≠ 0 ∧ gwGrow d st = .bad s x ∧ e = .returned (.tuple #[.agg #[.int .i64 0, .int .i64 0, .int .i64 0, .slice none 0 0], .int .i64 (s : Int), .int .i64 x])) ∨
      (∃ t s a n ga gc, gwGrow d st = .ok t s a n ∧ e = .returned (.tuple #[.agg #[.int .i64 t.k, .int .i64 t.i, .int .i64 t.a, .slice ga t.l.len gc], .int .i64 0, .int .i64 0]) ∧ TrS W (fun g => w.heap.size ≤ g) ga gc t.l)) := by
  refine (tgrow_any d sa sc st w hd hrg hst).mono ?_
  rintro e W ⟨hb, hq⟩
  refine ⟨hb, ?_⟩
  cases hg : gwGrow d st with
  | bad s x =>
    rw [hg] at hq
    exact .inl ⟨s, x, hq.1, rfl, hq.2⟩
  | ok t s a n =>
    rw [hg] at hq
    obtain ⟨ga, gc, he, ht⟩ := hq
    exact .inr ⟨t, s, a, n, ga, gc, rfl, he, ht⟩
end Go.Proofs.Ythogiakfbgehnaa

namespace Go.Proofs.Ythogiakfbgehnaa
open Go.RowKit

end Go.Proofs.Ythogiakfbgehnaa

namespace Go.Proofs.Ythogiakfbgehnaa
open Go.RowKit Go.Maps

attribute [local go_sem] Oper.semAt_some

end Go.Proofs.Ythogiakfbgehnaa

namespace Go.Proofs.Ythogiakfbgehnaa
open Go.RowKit Go.Maps

attribute [local go_sem] Oper.semAt_some

end Go.Proofs.Ythogiakfbgehnaa

namespace Go.Proofs.Ythogiakfbgehnaa
open Go.RowKit Go.Maps

attribute [local go_sem] Oper.semAt_some

end Go.Proofs.Ythogiakfbgehnaa

namespace Go.Proofs.Ythogiakfbgehnaa
open Go.RowKit

theorem mem_lay {l : List Fl} {x f : Fl} : f ∈ layP l x ↔ f ∈ l ∨ f = x := by
  unfold layP
  split
  · next h =>
    rw [memF_iff] at h
    exact ⟨fun h1 => .inl h1, fun h1 => h1.elim id (fun e => e ▸ h)⟩
  · rw [List.mem_append, List.mem_singleton]
theorem mem_unkS {ts names : List ByteArray} {o : List Fl} {n : ByteArray} {f : Fl} : f ∈ unkS ts names o n ↔ f ∈ o ∨ (n ∉ names ∧ n ∉ ts ∧ f = (2, n)) := by
  have h1 : (!mem n names && !mem n ts) = true ↔ n ∉ names ∧ n ∉ ts := by
    simp only [Bool.and_eq_true, Bool.not_eq_true', Bool.eq_false_iff]
    exact and_congr (not_congr mem_iff) (not_congr mem_iff)
  unfold unkS
  split
  · next h => rw [mem_lay]; have := h1.1 h; exact ⟨fun h => h.imp id (fun e => ⟨this.1, this.2, e⟩), fun h => h.imp id (fun e => e.2.2)⟩
  · next h => exact ⟨fun h => .inl h, fun h2 => h2.elim id (fun e => absurd (h1.2 ⟨e.1, e.2.1⟩) h)⟩
theorem mem_unkA {ts names : List ByteArray} {f : Fl} : ∀ (l : List ByteArray) (o : List Fl), f ∈ unkA ts names l o ↔ f ∈ o ∨ ∃ n ∈ l, n ∉ names ∧ n ∉ ts ∧ f = (2, n)
  | [], o => by simp [unkA]
  | m :: l, o => by
    have h : unkA ts names (m :: l) o = unkA ts names l (unkS ts names o m) := rfl
    rw [h, mem_unkA l, mem_unkS]
    simp only [List.mem_cons, exists_eq_or_imp, or_assoc]
theorem mem_unkAs {ts names : List ByteArray} {f : Fl} : ∀ (al : List (List ByteArray)) (o : List Fl), f ∈ unkAs ts names al o ↔ f ∈ o ∨ ∃ a ∈ al, ∃ n ∈ a, n ∉ names ∧ n ∉ ts ∧ f = (2, n)
  | [], o => by simp [unkAs]
  | m :: l, o => by
    have h : unkAs ts names (m :: l) o = unkAs ts names l (unkA ts names m o) := rfl
    rw [h, mem_unkAs l, mem_unkA]
    simp only [List.mem_cons, exists_eq_or_imp, or_assoc]
theorem mem_unkP {ts names : List ByteArray} {f : Fl} : ∀ (rs : List Rl) (o : List Fl), f ∈ unkP ts names rs o ↔ f ∈ o ∨ ∃ r ∈ rs, ∃ a ∈ r.2, ∃ n ∈ a, n ∉ names ∧ n ∉ ts ∧ f = (2, n)
  | [], o => by simp [unkP]
  | m :: l, o => by
    have h : unkP ts names (m :: l) o = unkP ts names l (unkAs ts names m.2 o) := rfl
    rw [h, mem_unkP l, mem_unkAs]
    simp only [List.mem_cons, exists_eq_or_imp, or_assoc]
theorem mem_restM {kd : Int} {m : ByteArray → Bool} {f : Fl} : ∀ (l : List ByteArray) (o : List Fl), f ∈ restM kd m l o ↔ f ∈ o ∨ ∃ n ∈ l, m n = false ∧ f = (kd, n)
  | [], o => by simp [restM]
  | n :: l, o => by
    have h : restM kd m (n :: l) o = restM kd m l (if (!m n) = true then layP o (kd, n) else o) := rfl
    rw [h, mem_restM l]
    simp only [List.mem_cons, exists_eq_or_imp]
    cases hm : m n
    · rw [if_pos (by rfl), mem_lay, or_assoc]
      simp
    · rw [if_neg (by decide)]
      simp
theorem mem_FLW {rs : List RlD} {ts : List ByteArray} {f : Fl} : f ∈ FLW rs ts ↔ f ∈ dblN ts (rs.map RlD.n) rs.length ∨ (∃ r ∈ grP rs, ∃ a ∈ r.2, ∃ n ∈ a, n ∉ rs.map RlD.n ∧ n ∉ ts ∧ f = (2, n)) ∨ (∃ n ∈ rs.map RlD.n, fertM rs ts n = false ∧ f = (3, n)) ∨ ∃ n ∈ rs.map RlD.n, nearM rs n = false ∧ f = (4, n) := by
  unfold FLW
  rw [mem_restM, mem_restM, mem_unkP]
  simp only [or_assoc]
end Go.Proofs.Ythogiakfbgehnaa

