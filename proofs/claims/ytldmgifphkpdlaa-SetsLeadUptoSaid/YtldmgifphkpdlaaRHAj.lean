/- Texts joined: Jb Jc Jd Oz Oc. -/
import Derived.Test.YtldmgifphkpdlaaRHAi
import Derived.Test.YtldmgifphkpdlaaRHAf
import Derived.BigQuiet
import Derived.Test.YtldmgifphkpdlaaRHAd
import Derived.Test.YtldmgifphkpdlaaRHAa
import Derived.Maps.AppendAt
set_option linter.unusedVariables false
set_option linter.unusedSimpArgs false
namespace Go.Proofs.Ytldmgifphkpdlaa

/-- How many tokens come from a list, if so many come from each rule. -/
def lenP (V : Nat → Int) : List Int → Int
  | [] => 0
  | k :: s => (if k < 0 then V (ruL k) else 1) + lenP V s
theorem len_app (V : Nat → Int) : ∀ (s t : List Int), lenP V (s ++ t) = lenP V s + lenP V t
  | [], t => by simp [lenP]
  | k :: s, t => by rw [List.cons_append, lenP, lenP, len_app V s t]; omega
theorem len_take (V : Nat → Int) (s : List Int) (i : Nat) (h : i < s.length) : lenP V (s.take (i + 1)) = lenP V (s.take i) + (if s[i] < 0 then V (ruL s[i]) else 1) := by
  rw [List.take_add_one, List.getElem?_eq_getElem h, len_app]
  simp [lenP]
theorem len_mono {V W : Nat → Int} : ∀ {s : List Int}, (∀ k ∈ s, k < 0 → V (ruL k) ≤ W (ruL k)) → lenP V s ≤ lenP W s
  | [], _ => Int.le_refl _
  | k :: s, h => by
    have h1 := len_mono (s := s) (fun j hj => h j (List.mem_cons_of_mem _ hj))
    have h2 := h k (by simp)
    rw [lenP, lenP]
    split
    · next hk => have := h2 hk; omega
    · omega
theorem len_nonneg {V : Nat → Int} : ∀ {s : List Int}, (∀ k ∈ s, k < 0 → 0 ≤ V (ruL k)) → 0 ≤ lenP V s
  | [], _ => Int.le_refl _
  | k :: s, h => by
    have h1 := len_nonneg (s := s) (fun j hj => h j (List.mem_cons_of_mem _ hj))
    have h2 := h k (by simp)
    rw [lenP]
    split
    · next hk => have := h2 hk; omega
    · omega
theorem len_ge {V : Nat → Int} : ∀ {s : List Int}, (∀ k ∈ s, k < 0 → 0 ≤ V (ruL k)) → ∀ k ∈ s, k < 0 → V (ruL k) ≤ lenP V s
  | [], _, k, hk, _ => by cases hk
  | j :: s, h, k, hk, h0 => by
    have h1 := len_nonneg (s := s) (fun j hj => h j (List.mem_cons_of_mem _ hj))
    have h2 := h j (by simp)
    rw [lenP]
    rcases List.mem_cons.1 hk with rfl | hk
    · rw [if_pos h0]; omega
    · have h3 := len_ge (s := s) (fun j hj => h j (List.mem_cons_of_mem _ hj)) k hk h0
      split
      · next hj => have := h2 hj; omega
      · omega
theorem len_upper {V : Nat → Int} {B : Int} (hB : 1 ≤ B) : ∀ {s : List Int}, (∀ k ∈ s, k < 0 → V (ruL k) ≤ B) → lenP V s ≤ s.length * B
  | [], _ => by simp [lenP]
  | k :: s, h => by
    have h1 := len_upper hB (s := s) (fun j hj => h j (List.mem_cons_of_mem _ hj))
    have h2 := h k (by simp)
    rw [lenP, List.length_cons]
    have h3 : ((s.length + 1 : Nat) : Int) * B = (s.length : Int) * B + B := by rw [Int.natCast_add, Int.add_mul]; simp
    rw [h3]
    split
    · next hk => have := h2 hk; omega
    · omega
/-- Of two families, one never above the other, that come to the same: each is the same. -/
theorem len_same {V W : Nat → Int} : ∀ {s : List Int}, (∀ k ∈ s, k < 0 → V (ruL k) ≤ W (ruL k)) → lenP V s = lenP W s → ∀ k ∈ s, k < 0 → V (ruL k) = W (ruL k)
  | [], _, _, k, hk, _ => by cases hk
  | j :: s, h, e, k, hk, h0 => by
    have h1 := len_mono (s := s) (fun j hj => h j (List.mem_cons_of_mem _ hj))
    have h2 := h j (by simp)
    rw [lenP, lenP] at e
    have e1 : lenP V s = lenP W s ∧ (j < 0 → V (ruL j) = W (ruL j)) := by
      by_cases hj : j < 0
      · rw [if_pos hj, if_pos hj] at e
        have := h2 hj
        exact ⟨by omega, fun _ => by omega⟩
      · rw [if_neg hj, if_neg hj] at e
        exact ⟨by omega, fun h => absurd h hj⟩
    rcases List.mem_cons.1 hk with rfl | hk
    · exact e1.2 h0
    · exact len_same (fun j hj => h j (List.mem_cons_of_mem _ hj)) e1.1 k hk h0
theorem len_congr {V W : Nat → Int} : ∀ {s : List Int}, (∀ k ∈ s, k < 0 → V (ruL k) = W (ruL k)) → lenP V s = lenP W s := fun h =>
  Int.le_antisymm (len_mono fun k hk h0 => Int.le_of_eq (h k hk h0)) (len_mono fun k hk h0 => Int.le_of_eq (h k hk h0).symm)

/-- A rule has a sentence of so many tokens. -/
inductive Der (al : List (List (List Int))) : Nat → Int → Prop
  | by_ {r : Nat} {a : List Int} (W : Nat → Int) : a ∈ al.getD r [] → (∀ k ∈ a, k < 0 → Der al (ruL k) (W (ruL k))) → Der al r (lenP W a)
theorem Der.nonneg {al : List (List (List Int))} {r : Nat} {m : Int} (h : Der al r m) : 0 ≤ m := by
  induction h with
  | by_ W h1 h2 ih => exact len_nonneg ih
abbrev farI : Int := 2147483647
theorem least_ex {p : Nat → Prop} (h : ∃ n, p n) : ∃ n, p n ∧ ∀ m, p m → n ≤ m := by
  obtain ⟨n, hn⟩ := h
  induction n using Nat.strongRecOn with
  | ind n ih =>
    by_cases hx : ∃ m, m < n ∧ p m
    · obtain ⟨m, h1, h2⟩ := hx
      exact ih m h1 h2
    · exact ⟨n, hn, fun m hm => by
        by_cases h : n ≤ m
        · exact h
        · exact absurd ⟨m, by omega, hm⟩ hx⟩
open Classical in
/-- How short a rule's sentences may be; all that is longer is far. -/
noncomputable def shP (al : List (List (List Int))) (r : Nat) : Int := if h : ∃ n : Nat, Der al r (n : Int) ∧ (n : Int) ≤ farI then ((Classical.choose (least_ex h) : Nat) : Int) else farI
theorem sh_le (al : List (List (List Int))) (r : Nat) : shP al r ≤ farI := by
  classical
  unfold shP
  split
  · next h => exact (Classical.choose_spec (least_ex h)).1.2
  · exact Int.le_refl _
theorem sh_nonneg (al : List (List (List Int))) (r : Nat) : 0 ≤ shP al r := by
  classical
  unfold shP
  split
  · omega
  · decide
theorem sh_der {al : List (List (List Int))} {r : Nat} : shP al r = farI ∨ Der al r (shP al r) := by
  classical
  unfold shP
  split
  · next h => exact .inr (Classical.choose_spec (least_ex h)).1.1
  · exact .inl rfl
theorem sh_least {al : List (List (List Int))} {r : Nat} {m : Int} (h : Der al r m) : shP al r ≤ m := by
  classical
  have h0 := h.nonneg
  by_cases hm : m ≤ farI
  · obtain ⟨n, rfl⟩ : ∃ n : Nat, m = (n : Int) := ⟨m.toNat, by omega⟩
    have hx : ∃ n : Nat, Der al r (n : Int) ∧ (n : Int) ≤ farI := ⟨n, h, hm⟩
    unfold shP
    rw [dif_pos hx]
    have := (Classical.choose_spec (least_ex hx)).2 n ⟨h, hm⟩
    omega
  · have := sh_le al r
    omega
/-- It is the shortest of the alternatives. -/
theorem sh_alt {al : List (List (List Int))} {r : Nat} {a : List Int} (ha : a ∈ al.getD r []) : shP al r ≤ lenP (shP al) a := by
  by_cases h : ∀ k ∈ a, k < 0 → Der al (ruL k) (shP al (ruL k))
  · exact sh_least (Der.by_ _ ha h)
  · have : ∃ k ∈ a, k < 0 ∧ shP al (ruL k) = farI := by
      by_cases hx : ∃ k ∈ a, k < 0 ∧ shP al (ruL k) = farI
      · exact hx
      · exact absurd (fun k hk h0 => (sh_der (al := al) (r := ruL k)).resolve_left (fun e => hx ⟨k, hk, h0, e⟩)) h
    obtain ⟨k, hk, h0, e⟩ := this
    have h1 := len_ge (V := shP al) (fun k _ _ => sh_nonneg al (ruL k)) k hk h0
    have h2 := sh_le al r
    rw [e] at h1
    omega
theorem sh_nul {al : List (List (List Int))} (hal : ∀ r, al.length ≤ r → al.getD r [] = []) {r : Nat} : shP al r = 0 ↔ nulB al r = true := by
  constructor
  · intro h
    have h1 := (sh_der (al := al) (r := r)).resolve_left (by rw [h]; decide)
    rw [h] at h1
    have key : ∀ {r : Nat} {m : Int}, Der al r m → m = 0 → nulB al r = true := by
      intro r m hd
      induction hd with
      | @by_ r a W ha hk ih =>
        intro e
        have hr : r < al.length := by
          by_cases h : r < al.length
          · exact h
          · rw [hal r (by omega)] at ha
            cases ha
        refine (nul_iff hr).2 ⟨a, ha, emp_iff.2 fun k hka => ?_⟩
        have hnn : ∀ k ∈ a, k < 0 → 0 ≤ W (ruL k) := fun k hk' h0 => (hk k hk' h0).nonneg
        have hneg : k < 0 := by
          by_cases h0 : k < 0
          · exact h0
          · exfalso
            obtain ⟨s, t, rfl⟩ := List.append_of_mem hka
            rw [len_app, lenP, if_neg h0] at e
            have e1 := len_nonneg (V := W) (s := s) (fun k hk' h0 => hnn k (by simp [hk']) h0)
            have e2 := len_nonneg (V := W) (s := t) (fun k hk' h0 => hnn k (by simp [hk']) h0)
            omega
        refine ⟨hneg, ih k hka hneg ?_⟩
        have e1 := len_ge (V := W) hnn k hka hneg
        have e2 := hnn k hka hneg
        omega
    exact key h1 rfl
  · intro h
    have h1 : Der al r 0 := by
      have h2 := nulB_iff.1 h
      unfold NulP at h2
      have key : ∀ {x : Int}, Mk (nulW al al.length) x → Der al (ruL x) 0 := by
        intro x k
        induction k with
        | @by_ w hw hn ih =>
          obtain ⟨s, hs, a, ha, rfl⟩ := nulW_mem.1 hw
          dsimp only at hn ih
          rw [ruL_of]
          have hz : lenP (fun _ => 0) a = 0 := by
            have : ∀ k ∈ a, k < 0 := fun k hk => by
              obtain ⟨q, _, rfl⟩ := mk_neg (hn k hk)
              omega
            clear ih hn hw ha
            induction a with
            | nil => rfl
            | cons k a ih2 =>
              rw [lenP, if_pos (this k (by simp)), ih2 (fun j hj => this j (List.mem_cons_of_mem _ hj))]
              rfl
          have := Der.by_ (fun _ => 0) ha (fun k hk _ => ih k hk)
          rwa [hz] at this
      have := key h2
      rwa [ruL_of] at this
    have h2 := sh_least h1
    have h3 := sh_nonneg al r
    omega
/-- What is kept while it shrinks: each is far, or some sentence's. -/
structure ShInv (al : List (List (List Int))) (V : Nat → Int) : Prop where
  le : ∀ r, V r ≤ farI
  der : ∀ r, V r = farI ∨ Der al r (V r)
theorem ShInv.start (al : List (List (List Int))) : ShInv al (fun _ => farI) := ⟨fun _ => Int.le_refl _, fun _ => .inl rfl⟩
theorem ShInv.nonneg {al : List (List (List Int))} {V : Nat → Int} (h : ShInv al V) (r : Nat) : 0 ≤ V r := by
  rcases h.der r with e | e
  · rw [e]; decide
  · exact e.nonneg
theorem ShInv.ge {al : List (List (List Int))} {V : Nat → Int} (h : ShInv al V) (r : Nat) : shP al r ≤ V r := by
  rcases h.der r with e | e
  · rw [e]; exact sh_le al r
  · exact sh_least e
/-- A rule is put lower. -/
theorem ShInv.put {al : List (List (List Int))} {V : Nat → Int} (h : ShInv al V) {r : Nat} {a : List Int} (ha : a ∈ al.getD r []) (hl : lenP V a < V r) : ShInv al (fun s => if s = r then lenP V a else V s) := by
  have hlf : lenP V a < farI := by have := h.le r; omega
  refine ⟨fun s => ?_, fun s => ?_⟩
  · split
    · omega
    · exact h.le s
  · split
    · next e =>
      subst e
      refine .inr (Der.by_ V ha fun k hk h0 => ?_)
      have h1 := len_ge (V := V) (fun k _ _ => h.nonneg (ruL k)) k hk h0
      exact (h.der (ruL k)).resolve_left (by omega)
    · exact h.der s
/-- Nothing can be put lower: this is it. -/
theorem ShInv.done {al : List (List (List Int))} {V : Nat → Int} (h : ShInv al V) (hc : ∀ r, ∀ a ∈ al.getD r [], V r ≤ lenP V a) (r : Nat) : V r = shP al r := by
  refine Int.le_antisymm ?_ (h.ge r)
  have key : ∀ {r : Nat} {m : Int}, Der al r m → V r ≤ m := by
    intro r m hd
    induction hd with
    | @by_ r a W ha hk ih => exact Int.le_trans (hc r a ha) (len_mono ih)
  rcases sh_der (al := al) (r := r) with e | e
  · rw [e]; exact h.le r
  · exact key e
/-- As long as one is not yet as low as it may be, one may be put as low as it may be. -/
theorem sh_next {al : List (List (List Int))} {V : Nat → Int} : ∀ {r : Nat} {m : Int}, Der al r m → m = shP al r → V r ≠ shP al r → ∃ r, V r ≠ shP al r ∧ ∃ a ∈ al.getD r [], lenP V a = shP al r := by
  intro r m hd
  induction hd with
  | @by_ r a W ha hk ih =>
    intro e hV
    have h1 := sh_alt ha
    have h2 : ∀ k ∈ a, k < 0 → shP al (ruL k) ≤ W (ruL k) := fun k hk' h0 => sh_least (hk k hk' h0)
    have h3 := len_mono h2
    have h4 : lenP (shP al) a = lenP W a := by omega
    have h5 := len_same h2 h4
    by_cases hs : ∀ k ∈ a, k < 0 → V (ruL k) = shP al (ruL k)
    · exact ⟨r, hV, a, ha, by rw [len_congr hs]; omega⟩
    · have : ∃ k ∈ a, k < 0 ∧ V (ruL k) ≠ shP al (ruL k) := by
        by_cases hx : ∃ k ∈ a, k < 0 ∧ V (ruL k) ≠ shP al (ruL k)
        · exact hx
        · exact absurd (fun k hk h0 => Classical.byContradiction fun e => hx ⟨k, hk, h0, e⟩) hs
      obtain ⟨k, hka, h0, hne⟩ := this
      exact ih k hka h0 (h5 k hka h0).symm hne
/-- How many are not yet as low as they may be. -/
noncomputable def shL (al : List (List (List Int))) (V : Nat → Int) : Nat := (List.range al.length).countP (fun r => decide (V r ≠ shP al r))
theorem sh_round {al : List (List (List Int))} (hal : ∀ r, al.length ≤ r → al.getD r [] = []) {V0 V : Nat → Int} (h0 : ShInv al V0) (h1 : ShInv al V) (hm : ∀ r, V r ≤ V0 r) (hc : ∀ r, r < al.length → ∀ a ∈ al.getD r [], V r ≤ lenP V0 a) (k : Nat) (hk : shL al V0 ≤ k) : shL al V ≤ k - 1 := by
  have hmono : ∀ r ∈ List.range al.length, decide (V r ≠ shP al r) = true → decide (V0 r ≠ shP al r) = true := by
    intro r _ h
    rw [decide_eq_true_eq] at h ⊢
    intro e
    have := hm r
    have := h1.ge r
    exact h (by omega)
  by_cases hx : ∃ r, r < al.length ∧ V0 r ≠ shP al r
  · obtain ⟨r, hr, hne⟩ := hx
    have hf : shP al r ≠ farI := fun e => hne (by have := h0.le r; have := h0.ge r; omega)
    obtain ⟨s, h3, a, ha, h5⟩ := sh_next (V := V0) ((sh_der (al := al) (r := r)).resolve_left hf) rfl hne
    have hs : s < al.length := by
      by_cases h : s < al.length
      · exact h
      · rw [hal s (by omega)] at ha
        cases ha
    have h6 := hc s hs a ha
    have h7 := h1.ge s
    have := countP_lt hmono ⟨s, List.mem_range.2 hs, by simpa using h3, by rw [decide_eq_false_iff_not]; simp; omega⟩
    unfold shL at hk ⊢
    omega
  · have : shL al V = 0 := by
      unfold shL
      rw [List.countP_eq_zero]
      intro r hr h
      have h2 := hmono r hr h
      rw [decide_eq_true_eq] at h2
      exact hx ⟨r, List.mem_range.1 hr, h2⟩
    omega
theorem sh_all {al : List (List (List Int))} {V : Nat → Int} (h : shL al V = 0) : ∀ r, r < al.length → V r = shP al r := by
  intro r hr
  unfold shL at h
  rw [List.countP_eq_zero] at h
  have h1 := h r (List.mem_range.2 hr)
  simpa using h1
end Go.Proofs.Ytldmgifphkpdlaa

namespace Go.Proofs.Ytldmgifphkpdlaa
open Go.RowKit Go.Maps

attribute [local go_sem] Oper.semAt_some

/-- A row of truths. -/
abbrev BlsF (w : World) (a : Option Addr) (cap n : Nat) (f : Nat → Bool) : Prop := Vs w a cap ((List.range n).map (fun r => Value.bool (f r)))
/-- A row of numbers. -/
abbrev NusF (w : World) (a : Option Addr) (cap n : Nat) (f : Nat → Int) : Prop := Vs w a cap ((List.range n).map (fun r => Value.int .i64 (f r)))
/-- Numbers that are of so many tokens and rules. -/
def OkL (t n : Nat) (s : List Int) : Prop := ∀ x ∈ s, -(n : Int) ≤ x ∧ x < (t : Int)
theorem below_dN9 {B : Nat} {a b : World} (h : Below B a b) (n : Nat) : Below B a (b.drewN n) := by
  exact ⟨h.os, h.tape, h.output, h.size, h.block⟩
theorem range_at {α : Type} (n : Nat) (g : Nat → α) (r : Nat) (h : r < ((List.range n).map g).length) : ((List.range n).map g)[r] = g r := by simp

set_option maxRecDepth 100000 in
theorem ruleOf_any (x : Int) (w : World) (hx : -1000000000 ≤ x ∧ x < 0) : Calls Try.prog 89 #[.int .i64 x] w fun e w' => e = .returned (.int .i64 ((ruL x : Nat) : Int)) ∧ w' = w := by
  have e4 : IntKind.i64.wrap (-1 - x) = ((ruL x : Nat) : Int) := by
    rw [show (-1 : Int) - x = ((ruL x : Nat) : Int) by unfold ruL; omega]
    exact IntWalk.i64_in _ (by unfold ruL; omega)
  obtain ⟨k, hk⟩ : ∃ k, Hid (((ruL x : Nat) : Int) = k) := ⟨_, Lib.hid rfl⟩
  rw [hk.out] at e4 ⊢
  obtain ⟨h1, h2⟩ := hx
  go_enter Try.func89, Try.ntmps89
  go_wp2_with (fail)
  exact bodyPost_ret (v := .int .i64 k) (by simp [results, Try.results89, go_sem]; try first | rfl | assumption | omega) rfl ⟨rfl, rfl⟩

set_option maxRecDepth 100000 in
theorem numberOf_any (r : Nat) (w : World) (hr : r ≤ 1000000000) : Calls Try.prog 56 #[.int .i64 (r : Int)] w fun e w' => e = .returned (.int .i64 (-1 - (r : Int))) ∧ w' = w := by
  have e4 : IntKind.i64.wrap (-1 - (r : Int)) = -1 - (r : Int) := IntWalk.i64_in _ (by omega)
  obtain ⟨k, hk⟩ : ∃ k, Hid ((-1 - (r : Int)) = k) := ⟨_, Lib.hid rfl⟩
  rw [hk.out] at e4 ⊢
  go_enter Try.func56, Try.ntmps56
  go_wp2_with (fail)
  exact bodyPost_ret (v := .int .i64 k) (by simp [results, Try.results56, go_sem]; try first | rfl | assumption | omega) rfl ⟨rfl, rfl⟩

set_option maxRecDepth 100000 in
set_option maxHeartbeats 16000000 in
theorem areNs_any (d : CfD) (s : List Int) (a : Option Addr) (cap : Nat) (w : World) (hs : Ints w a cap s) (hok : OkL d.toks.length d.alts.length s) (hl : d.toks.length ≤ 1000000 ∧ d.alts.length ≤ 1000000 ∧ 0 < d.alts.length) :
    Calls Try.prog 70 #[d.v, .slice a s.length cap] w fun e w' => e = .returned (.bool true) ∧ Below w.heap.size w w' := by
  obtain ⟨xt, xta, xtc, xn, xna, xnc, xa, xaa, xac⟩ := d
  dsimp only [CfD.v] at *
  have hb1 : Below w.heap.size w (w.alloc (.cells #[.slice xta xt.length xtc, .slice xna xn.length xnc, .slice xaa xa.length xac] 25)) := (Below.refl _ w).alloc (Nat.le_refl _) _
  have hA := Blk.new w 25 #[.slice xta xt.length xtc, .slice xna xn.length xnc, .slice xaa xa.length xac]
  have hsm : s.length ≤ cap ∧ cap ≤ 9223372036854775807 := ⟨by have := hs.le; rwa [List.length_map] at this, hs.max⟩
  have Hs := Lib.hid (hs.grown hb1)
  have Hok := Lib.hid hok
  obtain ⟨T, HT⟩ : ∃ q, Hid (xt.length = q) := ⟨_, Lib.hid rfl⟩
  obtain ⟨N, HN⟩ : ∃ q, Hid (xa.length = q) := ⟨_, Lib.hid rfl⟩
  obtain ⟨M, HM⟩ : ∃ q, Hid (xn.length = q) := ⟨_, Lib.hid rfl⟩
  obtain ⟨L, HL⟩ : ∃ q, Hid (s.length = q) := ⟨_, Lib.hid rfl⟩
  rw [HT.out, HN.out, HM.out] at hA hb1 Hs ⊢
  rw [HT.out, HN.out] at Hok hl
  rw [HL.out] at hsm ⊢
  have Hb1 := Lib.hid hb1
  have x0 := hA.cell 0
  have x2 := hA.cell 2
  have xl := hA.lt
  simp only [List.getElem?_cons_zero, List.getElem?_cons_succ] at x0 x2
  obtain ⟨hl1, hl2, hl3⟩ := hl
  have hNw : IntKind.i64.wrap ((N : Int) - 1) = ((N - 1 : Nat) : Int) := by rw [show (N : Int) - 1 = ((N - 1 : Nat) : Int) by omega]; exact IntWalk.i64_in _ (by omega)
  have Hnum := Lib.hid (fun W => numberOf_any (N - 1) W (by omega))
  have hNm : (-1 - ((N - 1 : Nat) : Int)) = -(N : Int) := by omega
  rw [hNm] at Hnum
  obtain ⟨N1, hN1⟩ : ∃ q, Hid (N - 1 = q) := ⟨_, Lib.hid rfl⟩
  rw [hN1.out] at Hnum hNw
  clear hA hb1 hs hok hNm
  go_enter Try.func70, Try.ntmps70
  go_wp2_with (fail)
  generalize hV : World.alloc w _ = V at x0 x2 xl Hs Hb1 ⊢
  clear hV
  go_loopw [9] (fun iv wr => ∃ k : Nat, k ≤ L ∧ iv = .int .i64 (k : Int) ∧ wr = V) (fun iv _ => L - (RowKit.intOf iv).toNat)
  case atStart => exact ⟨0, Nat.zero_le _, rfl, rfl⟩
  case round =>
    obtain ⟨k, hk, rfl, hwr⟩ := hrel
    subst hwr
    by_cases hlt : k < L
    · have hkI : (k : Int) < (L : Int) := by omega
      have hkI0 : (0 : Int) ≤ (k : Int) := by omega
      have hkl : k < s.length := by rw [HL.out]; exact hlt
      obtain ⟨b, bo, hb⟩ := Hs.out.at_ k (by rw [List.length_map]; exact hkl)
      have cb := Hs.out.cell b bo hb k (by rw [List.length_map]; exact hkl)
      rw [List.getElem_map] at cb
      have hm := Hok.out _ (List.getElem_mem hkl)
      obtain ⟨n, hn⟩ : ∃ v, Hid (s[k] = v) := ⟨_, Lib.hid rfl⟩
      rw [hn.out] at cb hm
      have hblb := World.block_lt_of_cell? _ _ cb
      obtain ⟨hm1, hm2⟩ := hm
      have h1 : ¬ n < -(N : Int) := by omega
      have h2 : ¬ n ≥ (T : Int) := by omega
      subst hb
      clear hm1 hm2
      go_wp2_with (fail)
      refine (Hnum.out _).mono ?_
      rintro e w2 ⟨rfl, rfl⟩
      go_wp2_with (fail)
      exact ⟨⟨k + 1, by omega, by go_num, by first | rfl | trivial⟩, by simp [RowKit.intOf]; omega⟩
    · obtain rfl : k = L := by omega
      have hkI : ¬ (k : Int) < (k : Int) := by omega
      go_wp2_with (fail)
      exact bodyPost_ret (v := .bool true) (by simp [results, Try.results70, go_sem]; try first | rfl | assumption | omega) rfl ⟨rfl, Hb1.out⟩

set_option maxRecDepth 100000 in
set_option maxHeartbeats 16000000 in
theorem ahead_any (aa : Option Addr) (an ac : Nat) (na : Option Addr) (n nc : Nat) (f : Nat → Bool) (s : List Int) (a : Option Addr) (cap : Nat) (w : World) (hn : BlsF w na nc n f) (hs : Ints w a cap s) (hok : ∀ x ∈ s, -(n : Int) ≤ x) (hl : n ≤ 1000000) :
    Calls Try.prog 71 #[.agg #[.slice aa an ac, .slice na n nc], .slice a s.length cap] w fun e w' => e = .returned (.tuple #[.slice a (ahd f s).length cap, .bool (emp f s)]) ∧ Below w.heap.size w w' := by
  have hb1 : Below w.heap.size w (w.alloc (.cells #[.slice aa an ac, .slice na n nc] 68)) := (Below.refl _ w).alloc (Nat.le_refl _) _
  have hA := Blk.new w 68 #[.slice aa an ac, .slice na n nc]
  have hsm : s.length ≤ cap ∧ cap ≤ 9223372036854775807 := ⟨by have := hs.le; rwa [List.length_map] at this, hs.max⟩
  have hnm : n ≤ nc ∧ nc ≤ 9223372036854775807 := ⟨by have := hn.le; simpa using this, hn.max⟩
  have Hs := Lib.hid (hs.grown hb1)
  have Hn := Lib.hid (hn.grown hb1)
  have Hok := Lib.hid hok
  have HE : Hid (∀ k, k = s.length → emp f (s.take k) = true → ahd f s = s ∧ emp f s = true) := Lib.hid (fun k e h => by
    rw [e, List.take_length] at h
    exact ⟨ahd_emp h, h⟩)
  have HS : Hid (∀ k (h : k < s.length), emp f (s.take k) = true → (decide (s[k] < 0) && f (ruL s[k])) = false → (ahd f s).length = k + 1 ∧ emp f s = false) := Lib.hid (fun k h h1 h2 => by
    have e : s = s.take k ++ s[k] :: s.drop (k + 1) := by rw [← List.drop_eq_getElem_cons h, List.take_append_drop]
    refine ⟨?_, ?_⟩
    · rw [e, ahd_stop h2 h1, List.length_append, List.length_take]; simp; omega
    · rw [e, emp_app, emp_cons, h2]; simp)
  have HT : Hid (∀ k (h : k < s.length), emp f (s.take k) = true → (decide (s[k] < 0) && f (ruL s[k])) = true → emp f (s.take (k + 1)) = true) := Lib.hid (fun k h h1 h2 => by
    rw [List.take_add_one, List.getElem?_eq_getElem h, emp_app, h1]
    simpa [emp] using h2)
  obtain ⟨A, hA1⟩ : ∃ q, Hid ((ahd f s).length = q) := ⟨_, Lib.hid rfl⟩
  obtain ⟨E, hE1⟩ : ∃ q, Hid (emp f s = q) := ⟨_, Lib.hid rfl⟩
  rw [hA1.out, hE1.out] at HS
  rw [hA1.out, hE1.out]
  have HE2 : Hid (∀ k, k = s.length → emp f (s.take k) = true → A = s.length ∧ E = true) := Lib.hid (fun k e h => by
    obtain ⟨h1, h2⟩ := HE.out k e h
    exact ⟨by rw [← hA1.out, h1], by rw [← hE1.out, h2]⟩)
  clear HE
  obtain ⟨L, HL⟩ : ∃ q, Hid (s.length = q) := ⟨_, Lib.hid rfl⟩
  rw [HL.out] at hsm HE2 ⊢
  have Hb1 := Lib.hid hb1
  have HA := Lib.hid hA
  obtain ⟨bx, hbx⟩ : ∃ q, Hid (w.heap.size = q) := ⟨_, Lib.hid rfl⟩
  rw [hbx.out] at HA
  clear hA hb1 hs hn hok
  go_enter Try.func71, Try.ntmps71
  go_wp2_with (fail)
  rw [hbx.out]
  generalize hV : World.alloc w _ = V at HA Hs Hn Hb1 ⊢
  clear hV
  go_loopw [10] (fun iv wr => ∃ k : Nat, k ≤ L ∧ iv = .int .i64 (k : Int) ∧ Hid (emp f (s.take k) = true) ∧ Below V.heap.size V wr) (fun iv _ => L - (RowKit.intOf iv).toNat)
  case atStart => exact ⟨0, Nat.zero_le _, rfl, Lib.hid rfl, Below.refl _ V⟩
  case round =>
    obtain ⟨k, hk, rfl, HK, hbr⟩ := hrel
    obtain ⟨U, rfl⟩ : ∃ U, U = wr := ⟨_, rfl⟩
    have HsU := Lib.hid (Hs.out.grown hbr)
    have HnU := Lib.hid (Hn.out.grown hbr)
    have HAU := HA.out.below hbr HA.out.lt
    have x1 := HAU.cell 1
    have xl := HAU.lt
    simp only [List.getElem?_cons_zero, List.getElem?_cons_succ] at x1
    have Hbr := Lib.hid hbr
    have Hbw := Lib.hid (Hb1.out.trans (hbr.mono Hb1.out.size))
    clear HAU hbr
    by_cases hlt : k < L
    · have hkI : (k : Int) < (L : Int) := by omega
      have hkI0 : (0 : Int) ≤ (k : Int) := by omega
      have hkl : k < s.length := by rw [HL.out]; exact hlt
      have hst := HS.out k hkl HK.out
      have htr := HT.out k hkl HK.out
      obtain ⟨b, bo, hb⟩ := HsU.out.at_ k (by rw [List.length_map]; exact hkl)
      have cb := HsU.out.cell b bo hb k (by rw [List.length_map]; exact hkl)
      rw [List.getElem_map] at cb
      have hm := Hok.out _ (List.getElem_mem hkl)
      obtain ⟨x, hx⟩ : ∃ v, Hid (s[k] = v) := ⟨_, Lib.hid rfl⟩
      rw [hx.out] at cb hm hst htr
      have hblb := World.block_lt_of_cell? _ _ cb
      subst hb
      by_cases h0 : x < 0
      · have hnx : ¬ x ≥ 0 := by omega
        have hrn : ruL x < n := by unfold ruL; omega
        have hrn2 : ruL x < ((List.range n).map (fun r => Value.bool (f r))).length := by simpa using hrn
        obtain ⟨b2, o2, ha2⟩ := HnU.out.at_ (ruL x) hrn2
        have c2 := HnU.out.cell b2 o2 ha2 (ruL x) hrn2
        rw [range_at] at c2
        have hbl2 := World.block_lt_of_cell? _ _ c2
        subst ha2
        have Hru := Lib.hid (fun W => ruleOf_any x W (by omega))
        obtain ⟨r, hr⟩ : ∃ r, Hid (ruL x = r) := ⟨_, Lib.hid rfl⟩
        rw [hr.out] at hrn c2 Hru hst htr
        have hrI : (r : Int) < (n : Int) := by omega
        have hrI0 : (0 : Int) ≤ (r : Int) := by omega
        obtain ⟨fr, hfr⟩ : ∃ q, Hid (f r = q) := ⟨_, Lib.hid rfl⟩
        rw [hfr.out] at c2 hst htr
        rw [decide_eq_true h0, Bool.true_and] at hst htr
        clear hm hrn2
        cases fr
        case true =>
          have HK2 := Lib.hid (htr rfl)
          clear hst htr
          go_wp2_with (fail)
          go_quiet ((go_at_call 89; exact Calls.quiet_of_same (Hru.out _)))
          go_wp2_with (fail)
          exact ⟨⟨k + 1, by omega, by go_num, HK2, below_dN9 Hbr.out _⟩, by simp [RowKit.intOf]; omega⟩
        case false =>
          obtain ⟨e1, e2⟩ := hst rfl
          subst e1
          subst e2
          clear htr
          go_wp2_with (fail)
          go_quiet ((go_at_call 89; exact Calls.quiet_of_same (Hru.out _)))
          go_wp2_with (fail)
          exact bodyPost_ret (v := .tuple #[.slice (some ⟨b, bo, none⟩) (k + 1) cap, .bool false]) (by simp [results, Try.results71, go_sem]; try first | rfl | assumption | omega) rfl ⟨rfl, below_dN9 Hbw.out _⟩
      · have hnx : x ≥ 0 := by omega
        obtain ⟨e1, e2⟩ := hst (by rw [decide_eq_false h0]; rfl)
        subst e1
        subst e2
        clear htr hm
        go_wp2_with (fail)
        go_quiet (fail)
        go_wp2_with (fail)
        exact bodyPost_ret (v := .tuple #[.slice (some ⟨b, bo, none⟩) (k + 1) cap, .bool false]) (by simp [results, Try.results71, go_sem]; try first | rfl | assumption | omega) rfl ⟨rfl, below_dN9 Hbw.out _⟩
    · have hke : k = L := by omega
      have hkI : ¬ (k : Int) < (L : Int) := by omega
      obtain ⟨e1, e2⟩ := HE2.out k hke HK.out
      subst e1
      subst e2
      clear hke
      go_wp2_with (fail)
      exact bodyPost_ret (v := .tuple #[.slice a A cap, .bool true]) (by simp [results, Try.results71, go_sem]; try first | rfl | assumption | omega) rfl ⟨rfl, Hbw.out⟩
end Go.Proofs.Ytldmgifphkpdlaa

namespace Go.Proofs.Ytldmgifphkpdlaa
open Go.RowKit Go.Maps

attribute [local go_sem] Oper.semAt_some

/-- A grammar by numbers that has nothing more often than it may be. -/
structure FitC (d : CfD) : Prop where
  r0 : 0 < d.alts.length
  r : d.alts.length ≤ 60
  t : d.toks.length ≤ 60
  a : ∀ r ∈ d.alts, r.ds.length ≤ 30
  l : ∀ r ∈ d.alts, ∀ x ∈ r.ds, x.l.length ≤ 30 ∧ OkL d.toks.length d.alts.length x.l

set_option maxRecDepth 100000 in
set_option maxHeartbeats 16000000 in
theorem fits_any (d : CfD) (w : World) (hd : CfAt w d) (hf : FitC d) :
    Calls Try.prog 51 #[d.v] w fun e w' => e = .returned (.bool true) ∧ Below w.heap.size w w' := by
  obtain ⟨xt, xta, xtc, xn, xna, xnc, xa, xaa, xac⟩ := d
  obtain ⟨hx1, hx2, hx3, hx4⟩ := hd
  obtain ⟨hf1, hf2, hf3, hf4, hf5⟩ := hf
  dsimp only [CfD.v] at *
  have hb1 : Below w.heap.size w (w.alloc (.cells #[.slice xta xt.length xtc, .slice xna xn.length xnc, .slice xaa xa.length xac] 25)) := (Below.refl _ w).alloc (Nat.le_refl _) _
  have hA := Blk.new w 25 #[.slice xta xt.length xtc, .slice xna xn.length xnc, .slice xaa xa.length xac]
  have hxm : xa.length ≤ xac ∧ xac ≤ 9223372036854775807 := ⟨by have := hx3.le; rwa [List.length_map] at this, hx3.max⟩
  have htm : xt.length ≤ xtc ∧ xtc ≤ 9223372036854775807 := ⟨by have := hx1.le; rwa [List.length_map] at this, hx1.max⟩
  have Har := Lib.hid (fun (s : List Int) (a : Option Addr) (cap : Nat) (W : World) (hs : Ints W a cap s) (hok : OkL xt.length xa.length s) => areNs_any ⟨xt, xta, xtc, xn, xna, xnc, xa, xaa, xac⟩ s a cap W hs hok ⟨by dsimp only; omega, by dsimp only; omega, hf1⟩)
  dsimp only [CfD.v] at Har
  have HX3 := Lib.hid hx3
  have HX4 := Lib.hid hx4
  have HF4 := Lib.hid hf4
  have HF5 := Lib.hid hf5
  obtain ⟨T, HT⟩ : ∃ q, Hid (xt.length = q) := ⟨_, Lib.hid rfl⟩
  obtain ⟨N, HN⟩ : ∃ q, Hid (xn.length = q) := ⟨_, Lib.hid rfl⟩
  obtain ⟨L, HL⟩ : ∃ q, Hid (xa.length = q) := ⟨_, Lib.hid rfl⟩
  rw [HT.out, HN.out, HL.out] at hA hb1 Har ⊢
  rw [HT.out, HL.out] at HF5
  rw [HL.out] at hxm hf1 hf2
  rw [HT.out] at htm hf3
  have HA := Lib.hid hA
  have Hb1 := Lib.hid hb1
  obtain ⟨bx, hbx⟩ : ∃ q, Hid (w.heap.size = q) := ⟨_, Lib.hid rfl⟩
  rw [hbx.out] at HA
  have x0 := HA.out.cell 0
  have x2 := HA.out.cell 2
  have xl := HA.out.lt
  simp only [List.getElem?_cons_zero, List.getElem?_cons_succ] at x0 x2
  have hL0 : ((L : Int) == 0) = false := by rw [beq_eq_false_iff_ne]; omega
  have hL1 : ¬ (L : Int) > 60 := by omega
  have hT1 : ¬ (T : Int) > 60 := by omega
  clear hA hb1 hx1 hx2 hx3 hx4 hf4 hf5
  go_enter Try.func51, Try.ntmps51
  go_wp2_with (fail)
  rw [hbx.out]
  generalize hV : World.alloc w _ = V at HA x0 x2 xl Hb1 ⊢
  clear hV x0 x2 xl
  go_loopw [26] (fun iv wr => ∃ k : Nat, k ≤ L ∧ iv = .int .i64 (k : Int) ∧ Below V.heap.size V wr) (fun iv _ => L - (RowKit.intOf iv).toNat)
  case atStart => exact ⟨0, Nat.zero_le _, rfl, Below.refl _ V⟩
  case round =>
    obtain ⟨k, hk, rfl, hbr⟩ := hrel
    obtain ⟨U, rfl⟩ : ∃ U, U = wr := ⟨_, rfl⟩
    by_cases hlt : k < L
    · have hkI : (k : Int) < (L : Int) := by omega
      have hkI0 : (0 : Int) ≤ (k : Int) := by omega
      have hkl : k < xa.length := by rw [HL.out]; exact hlt
      have Hbw := Lib.hid (Hb1.out.trans (hbr.mono Hb1.out.size))
      have hrow := HX3.out.grown Hbw.out
      obtain ⟨b, bo, hb⟩ := hrow.at_ k (by rw [List.length_map]; exact hkl)
      have cb := hrow.cell b bo hb k (by rw [List.length_map]; exact hkl)
      rw [List.getElem_map] at cb
      have hm : xa[k] ∈ xa := List.getElem_mem hkl
      obtain ⟨e, he⟩ : ∃ v, Hid (xa[k] = v) := ⟨_, Lib.hid rfl⟩
      rw [he.out] at cb hm
      have hblb := World.block_lt_of_cell? _ _ cb
      obtain ⟨ed, ea, ec⟩ := e
      change _ = some (Value.slice ea ed.length ec) at cb
      have hal : AltsI w ea ec ed := HX4.out _ hm
      have hdm : ed.length ≤ ec ∧ ec ≤ 9223372036854775807 := ⟨by have := hal.row.le; rwa [List.length_map] at this, hal.row.max⟩
      have hd30 : ed.length ≤ 30 := HF4.out _ hm
      have Hd5 := Lib.hid (HF5.out _ hm)
      dsimp only at Hd5
      have Hal := Lib.hid hal
      obtain ⟨M, hM⟩ : ∃ q, Hid (ed.length = q) := ⟨_, Lib.hid rfl⟩
      rw [hM.out] at cb hdm hd30
      have hM1 : ¬ (M : Int) > 30 := by omega
      subst hb
      clear hm hal hrow hd30
      go_wp2_with (fail)
      go_loopw [35] (fun jv wv => ∃ j : Nat, j ≤ M ∧ jv = .int .i64 (j : Int) ∧ Below V.heap.size V wv) (fun jv _ => M - (RowKit.intOf jv).toNat)
      case atStart => exact ⟨0, Nat.zero_le _, rfl, hbr⟩
      case round =>
        clear cb hblb hbr Hbw
        obtain ⟨j, hj, rfl, hbr⟩ := hrel
        obtain ⟨U2, rfl⟩ : ∃ U, U = wr := ⟨_, rfl⟩
        have Hbw := Lib.hid (Hb1.out.trans (hbr.mono Hb1.out.size))
        by_cases hltj : j < M
        · have hjI : (j : Int) < (M : Int) := by omega
          have hjI0 : (0 : Int) ≤ (j : Int) := by omega
          have hjl : j < ed.length := by rw [hM.out]; exact hltj
          have hrow := Hal.out.row.grown Hbw.out
          obtain ⟨c, co, hc⟩ := hrow.at_ j (by rw [List.length_map]; exact hjl)
          have cc := hrow.cell c co hc j (by rw [List.length_map]; exact hjl)
          rw [List.getElem_map] at cc
          have hm : ed[j] ∈ ed := List.getElem_mem hjl
          obtain ⟨e, he⟩ : ∃ v, Hid (ed[j] = v) := ⟨_, Lib.hid rfl⟩
          rw [he.out] at cc hm
          have hblc := World.block_lt_of_cell? _ _ cc
          obtain ⟨el, ela, elc⟩ := e
          change _ = some (Value.slice ela el.length elc) at cc
          have hnd : Ints w ela elc el := Hal.out.nms _ hm
          have hem : el.length ≤ elc ∧ elc ≤ 9223372036854775807 := ⟨by have := hnd.le; rwa [List.length_map] at this, hnd.max⟩
          obtain ⟨h30, hok⟩ := Hd5.out _ hm
          dsimp only at h30 hok
          have Hc := Lib.hid (Har.out el ela elc U2 (hnd.grown Hbw.out) hok)
          have HAU := HA.out.below hbr HA.out.lt
          have x0 := HAU.cell 0
          have x1 := HAU.cell 1
          have x2 := HAU.cell 2
          have xl := HAU.lt
          simp only [List.getElem?_cons_zero, List.getElem?_cons_succ] at x0 x1 x2
          obtain ⟨E, hE⟩ : ∃ q, Hid (el.length = q) := ⟨_, Lib.hid rfl⟩
          rw [hE.out] at cc hem Hc h30
          have hE1 : ¬ (E : Int) > 30 := by omega
          subst hc
          clear hm hnd hok hrow HAU h30
          go_wp2_with (fail)
          refine Hc.out.mono ?_
          rintro e w3 ⟨rfl, hb3⟩
          have hbf := hbr.trans (hb3.mono hbr.size)
          clear hb3 x0 x1 x2 xl cc hblc
          go_wp2_with (fail)
          exact ⟨⟨j + 1, by omega, by go_num, hbf⟩, by simp [RowKit.intOf]; omega⟩
        · obtain rfl : j = M := by omega
          have hjI : ¬ (j : Int) < (j : Int) := by omega
          go_wp2_with (fail)
          exact ⟨⟨k + 1, by omega, by go_num, hbr⟩, by simp [RowKit.intOf]; omega⟩
    · obtain rfl : k = L := by omega
      have hkI : ¬ (k : Int) < (k : Int) := by omega
      have hbw := Hb1.out.trans (hbr.mono Hb1.out.size)
      go_wp2_with (fail)
      exact bodyPost_ret (v := .bool true) (by simp [results, Try.results51, go_sem]; try first | rfl | assumption | omega) rfl ⟨rfl, hbw⟩

set_option maxRecDepth 100000 in
set_option maxHeartbeats 16000000 in
theorem length_any (s : List Int) (a : Option Addr) (cap : Nat) (n : Nat) (na : Option Addr) (nc : Nat) (f : Nat → Int) (w : World) (hs : Ints w a cap s) (hn : NusF w na nc n f) (hok : ∀ x ∈ s, -(n : Int) ≤ x) (hl : s.length ≤ 1000000) (hn1 : n ≤ 1000000) (hf : ∀ r, 0 ≤ f r ∧ f r ≤ farI) :
    Calls Try.prog 68 #[.slice a s.length cap, .slice na n nc] w fun e w' => e = .returned (.int .i64 (lenP f s)) ∧ w' = w := by
  have hsm : s.length ≤ cap ∧ cap ≤ 9223372036854775807 := ⟨by have := hs.le; rwa [List.length_map] at this, hs.max⟩
  have hnm : n ≤ nc ∧ nc ≤ 9223372036854775807 := ⟨by have := hn.le; simpa using this, hn.max⟩
  have Hs := Lib.hid hs
  have Hn := Lib.hid hn
  have Hok := Lib.hid hok
  have Hst := Lib.hid (len_take f s)
  have Hbd : Hid (∀ k, k ≤ s.length → 0 ≤ lenP f (s.take k) ∧ lenP f (s.take k) ≤ 2147483647000000) := Lib.hid (fun k h => by
    refine ⟨len_nonneg (fun x _ _ => (hf _).1), ?_⟩
    have h1 := len_upper (V := f) (B := farI) (by decide) (s := s.take k) (fun x _ _ => (hf _).2)
    rw [List.length_take, Nat.min_eq_left h] at h1
    have h2 : (k : Int) * farI ≤ 1000000 * farI := Int.mul_le_mul_of_nonneg_right (by omega) (by decide)
    have h3 : (1000000 : Int) * farI = 2147483647000000 := by decide
    omega)
  obtain ⟨g, hg⟩ : ∃ g : Nat → Int, Hid ((fun k => lenP f (s.take k)) = g) := ⟨_, Lib.hid rfl⟩
  have hg2 : ∀ k, lenP f (s.take k) = g k := fun k => congrFun hg.out k
  have hge : Hid (lenP f s = g s.length) := Lib.hid (by rw [← hg2, List.take_length])
  have Hst2 : Hid (∀ k (h : k < s.length), g (k + 1) = g k + (if s[k] < 0 then f (ruL s[k]) else 1)) := Lib.hid (fun k h => by rw [← hg2, ← hg2]; exact Hst.out k h)
  have Hbd2 : Hid (∀ k, k ≤ s.length → 0 ≤ g k ∧ g k ≤ 2147483647000000) := Lib.hid (fun k h => by rw [← hg2]; exact Hbd.out k h)
  have hg0 : g 0 = 0 := by rw [← hg2]; rfl
  have HF := Lib.hid hf
  rw [hge.out]
  obtain ⟨L, HL⟩ : ∃ q, Hid (s.length = q) := ⟨_, Lib.hid rfl⟩
  rw [HL.out] at hsm hl ⊢
  have Hg0 := Lib.hid hg0
  clear hs hn hok hg hg2 hge Hst Hbd hf hg0
  go_enter Try.func68, Try.ntmps68
  go_wp2_with (fail)
  go_loopw [5, 10] (fun sv iv wr => ∃ k : Nat, k ≤ L ∧ iv = .int .i64 (k : Int) ∧ sv = .int .i64 (g k) ∧ wr = w) (fun _ iv _ => L - (RowKit.intOf iv).toNat)
  case atStart => exact ⟨0, Nat.zero_le _, rfl, by rw [Hg0.out], rfl⟩
  case round =>
    obtain ⟨k, hk, rfl, rfl, hwr⟩ := hrel
    subst hwr
    have hbk := Hbd2.out k (by rw [HL.out]; exact hk)
    by_cases hlt : k < L
    · have hkI : (k : Int) < (L : Int) := by omega
      have hkI0 : (0 : Int) ≤ (k : Int) := by omega
      have hkl : k < s.length := by rw [HL.out]; exact hlt
      have hst := Hst2.out k hkl
      have hbk2 := Hbd2.out (k + 1) (by rw [HL.out]; exact hlt)
      obtain ⟨b, bo, hb⟩ := Hs.out.at_ k (by rw [List.length_map]; exact hkl)
      have cb := Hs.out.cell b bo hb k (by rw [List.length_map]; exact hkl)
      rw [List.getElem_map] at cb
      have hm := Hok.out _ (List.getElem_mem hkl)
      obtain ⟨x, hx⟩ : ∃ v, Hid (s[k] = v) := ⟨_, Lib.hid rfl⟩
      rw [hx.out] at cb hm hst
      have hblb := World.block_lt_of_cell? _ _ cb
      subst hb
      by_cases h0 : x < 0
      · have hrn : ruL x < n := by unfold ruL; omega
        have hrn2 : ruL x < ((List.range n).map (fun r => Value.int .i64 (f r))).length := by simpa using hrn
        obtain ⟨b2, o2, ha2⟩ := Hn.out.at_ (ruL x) hrn2
        have c2 := Hn.out.cell b2 o2 ha2 (ruL x) hrn2
        rw [range_at] at c2
        have hbl2 := World.block_lt_of_cell? _ _ c2
        subst ha2
        have Hru := Lib.hid (fun W => ruleOf_any x W (by omega))
        have hfr := HF.out (ruL x)
        rw [if_pos h0] at hst
        obtain ⟨r, hr⟩ : ∃ r, Hid (ruL x = r) := ⟨_, Lib.hid rfl⟩
        rw [hr.out] at hrn c2 Hru hst hfr
        have hrI : (r : Int) < (n : Int) := by omega
        have hrI0 : (0 : Int) ≤ (r : Int) := by omega
        obtain ⟨fr, hfr2⟩ : ∃ q, Hid (f r = q) := ⟨_, Lib.hid rfl⟩
        rw [hfr2.out] at c2 hst hfr
        obtain ⟨gk, hgk⟩ : ∃ q, Hid (g k = q) := ⟨_, Lib.hid rfl⟩
        rw [hgk.out] at hst hbk ⊢
        have HST := Lib.hid hst
        have hw : IntKind.i64.wrap (gk + fr) = gk + fr := IntWalk.i64_in _ (by omega)
        clear hm hrn2 hst hbk2
        go_wp2_with (fail)
        refine (Hru.out _).mono ?_
        rintro e w2 ⟨rfl, rfl⟩
        go_wp2_with (fail)
        exact ⟨⟨k + 1, by omega, by go_num, by rw [HST.out], by first | rfl | trivial⟩, by simp [RowKit.intOf]; omega⟩
      · rw [if_neg h0] at hst
        obtain ⟨gk, hgk⟩ : ∃ q, Hid (g k = q) := ⟨_, Lib.hid rfl⟩
        rw [hgk.out] at hst hbk ⊢
        have HST := Lib.hid hst
        have hw : IntKind.i64.wrap (gk + 1) = gk + 1 := IntWalk.i64_in _ (by omega)
        clear hm hst hbk2
        go_wp2_with (fail)
        exact ⟨⟨k + 1, by omega, by go_num, by rw [HST.out], by first | rfl | trivial⟩, by simp [RowKit.intOf]; omega⟩
    · obtain rfl : k = L := by omega
      have hkI : ¬ (k : Int) < (k : Int) := by omega
      go_wp2_with (fail)
      exact bodyPost_ret (v := .int .i64 (g k)) (by simp [results, Try.results68, go_sem]; try first | rfl | assumption | omega) rfl ⟨rfl, rfl⟩
end Go.Proofs.Ytldmgifphkpdlaa

namespace Go.Proofs.Ytldmgifphkpdlaa
open Go.RowKit Go.Maps Go.WideMaps

/-- A set of numbers. -/
def SetZ (W : World) (b n : Nat) (m : Int → Bool) : Prop :=
  ∃ D : DataW Unit, W.ownsMap Try.prog 3 unitElem b n D ∧ IsMap D ∧ ∀ s : Int, has D (.int .i64 s) = m s
theorem int_law : Keyed Try.prog 3 := int_keyed Try.underlying3
theorem SetZ.kept {W W' : World} {row : Option Nat} {b n : Nat} {m : Int → Bool} (h : SetZ W b n m) (hg : W.grownBy W' row) (hne : some b ≠ row) : SetZ W' b n m := by
  obtain ⟨D, h1, h2, h3⟩ := h
  exact ⟨D, h1.kept hg hne, h2, h3⟩
theorem SetZ.obj {W : World} {b n : Nat} {m : Int → Bool} (h : SetZ W b n m) : ∃ es k, W.heap[b]? = some (.map es k) := by
  obtain ⟨D, ⟨es, k, hb, _⟩, _⟩ := h
  exact ⟨es, k, hb⟩
theorem SetZ.new (W : World) : SetZ (W.alloc (.map #[] 0)) W.heap.size 0 (fun _ => false) :=
  ⟨.map [], World.ownsMap_made _ _ _ _, isMap_empty, fun _ => rfl⟩
theorem int_key {s t : Int} (h : (Go.Lit.int .i64 s) = .int .i64 t) : s = t := by
  injection h
set_option maxRecDepth 100000 in
theorem SetZ.look {W : World} {b n : Nat} {m : Int → Bool} (h : SetZ W b n m) (s : Int) (hs : (Go.Lit.int .i64 s).wf = true) :
    (Instr.lookup 79 (.map (some b)) (.int .i64 s) true).run Try.prog W = .ok (.tuple #[.agg #[], .bool (m s)]) W := by
  obtain ⟨D, h1, h2, h3⟩ := h
  obtain ⟨v, ps, hrun, hv⟩ := h1.look_ok int_law Try.underlying79 (zero_unit W) unitElem_mk (keyOf_int_mk Try.underlying3 hs)
  obtain ⟨rfl, _⟩ := unitElem_inv hv
  rw [h3 s] at hrun
  exact hrun
set_option maxRecDepth 100000 in
theorem SetZ.store {W : World} {b n : Nat} {m : Int → Bool} (h : SetZ W b n m) (s : Int) (hs : (Go.Lit.int .i64 s).wf = true) (hn : n < maxLen) :
    ∃ W', (Instr.mapUpdate 79 (.map (some b)) (.int .i64 s) (.agg #[])).run Try.prog W = .ok () W' ∧ SetZ W' b (n + 1) (fun t => decide (t = s) || m t) ∧ W.grownBy W' (some b) := by
  obtain ⟨D, h1, h2, h3⟩ := h
  obtain ⟨W', hrun, ho, hg⟩ := h1.update int_law Try.underlying79 hn (keyOf_int_mk Try.underlying3 hs) unitElem_mk
  refine ⟨W', hrun, ⟨_, ho, h2.put _ _, fun t => ?_⟩, hg⟩
  by_cases e : t = s
  · subst e
    rw [has_put_same h2 (by simp [WideAt.IsKeyLit])]
    simp
  · rw [has_put_other (fun h => e (int_key h)), h3 t]
    simp [e]

theorem SetZ.mono {W : World} {b n n' : Nat} {m : Int → Bool} (h : SetZ W b n m) (hn : n ≤ n') : SetZ W b n' m := by
  obtain ⟨D, h1, h2⟩ := h
  exact ⟨D, h1.mono hn, h2⟩
theorem SetZ.congr {W : World} {b n : Nat} {m m' : Int → Bool} (h : SetZ W b n m) (e : ∀ s, m s = m' s) : SetZ W b n m' := by
  have : m = m' := funext e
  exact this ▸ h
set_option maxRecDepth 100000 in
theorem zHas_any (W : World) (b n : Nat) (m : Int → Bool) (s : Int) (h : SetZ W b n m) (hs : (Go.Lit.int .i64 s).wf = true) :
    Calls Try.prog 94 #[.map (some b), .int .i64 s] W fun e W' => e = .returned (.bool (m s)) ∧ W.grownBy W' none := by
  have hrun := h.look s hs
  clear h
  obtain ⟨q, hq⟩ : ∃ q, Hid (m s = q) := ⟨_, Lib.hid rfl⟩
  rw [hq.out] at hrun ⊢
  go_enter Try.func94, Try.ntmps94
  go_wp2_with (fail)
  exact bodyPost_ret (v := .bool q) (by simp [results, Try.results94, go_sem]; try rfl) rfl ⟨rfl, World.grownBy_alloc _ _ _⟩
set_option maxRecDepth 100000 in
theorem zAdd_any (W : World) (b n : Nat) (m : Int → Bool) (s : Int) (h : SetZ W b n m) (hs : (Go.Lit.int .i64 s).wf = true) (hn : n < maxLen) :
    Calls Try.prog 61 #[.map (some b), .int .i64 s] W fun e W' => e = .returned (.bool (!m s)) ∧ SetZ W' b (n + 1) (fun t => decide (t = s) || m t) ∧ W.grownBy W' (some b) := by
  have Hc := Lib.hid (zHas_any W b n m s h hs)
  have H := Lib.hid h
  clear h
  obtain ⟨q, hq⟩ : ∃ q, Hid (m s = q) := ⟨_, Lib.hid rfl⟩
  rw [hq.out] at Hc ⊢
  go_enter Try.func61, Try.ntmps61
  go_wp2_with (fail)
  refine Hc.out.mono ?_
  rintro e w1 ⟨rfl, hg⟩
  cases q
  case true =>
    go_wp2_with (fail)
    refine bodyPost_ret (v := .bool false) (by simp [results, Try.results61, go_sem]; try rfl) rfl ⟨rfl, ((H.out.kept hg (by simp)).mono (Nat.le_succ n)).congr (fun t => ?_), grownBy_none hg _⟩
    by_cases e : t = s
    · subst e; rw [hq.out]; simp
    · simp [e]
  case false =>
    obtain ⟨W', hrun, h1, h2⟩ := (H.out.kept hg (by simp)).store s hs hn
    have H1 := Lib.hid h1
    clear h1
    go_wp2_with (fail)
    exact bodyPost_ret (v := .bool true) (by simp [results, Try.results61, go_sem]; try rfl) rfl ⟨rfl, H1.out, grownBy_trans (grownBy_none hg _) h2 (fun i e => .inl e)⟩
end Go.Proofs.Ytldmgifphkpdlaa

namespace Go.Proofs.Ytldmgifphkpdlaa
open Go.RowKit Go.Maps Go.WideMaps


/-- The cells of a way. -/
def wyCZ (w : WyD Int) : List Value := [.int .i64 w.n, .slice w.a w.l.length w.c]
/-- An own row of ways. -/
abbrev OwnYZ (W : World) (base : Nat) (a : Option Addr) (cap : Nat) (l : List (WyD Int)) : Prop := W.ownsRow base 118 2 (.slice a l.length cap) l.length (l.flatMap wyCZ)
theorem info_wyZ : (Try.prog.info? 118).map (fun i => (i.zero, i.size, i.bytes)) = some (some (.agg #[.int .i64 0, .slice none 0 0]), 2, 32) := by kernel_rfl
theorem wyC_atZ (l : List (WyD Int)) (i : Nat) (h : i < l.length) : (l.flatMap wyCZ)[i * 2]? = some (.int .i64 l[i].n) ∧ (l.flatMap wyCZ)[i * 2 + 1]? = some (.slice l[i].a l[i].l.length l[i].c) := by
  induction l generalizing i with
  | nil => simp at h
  | cons f r ih =>
    rw [List.flatMap_cons]
    cases i with
    | zero => exact ⟨rfl, rfl⟩
    | succ j =>
      have hj : j < r.length := by simpa using h
      have := ih j hj
      rw [show (j + 1) * 2 = 2 + j * 2 by omega, show 2 + j * 2 + 1 = 2 + (j * 2 + 1) by omega]
      rw [List.getElem?_append_right (by simp [wyCZ]), List.getElem?_append_right (by simp [wyCZ])]
      simpa [wyCZ] using this
theorem wyC_lenZ (l : List (WyD Int)) : (l.flatMap wyCZ).length = l.length * 2 := by
  induction l with
  | nil => rfl
  | cons f r ih => rw [List.flatMap_cons, List.length_append, ih, List.length_cons, Nat.add_mul]; simp [wyCZ]; omega
theorem OwnYZ.le {W : World} {base cap : Nat} {a : Option Addr} {l : List (WyD Int)} (h : OwnYZ W base a cap l) : l.length ≤ cap ∧ cap ≤ 9223372036854775807 := by
  rcases h.2 with ⟨e1, e2⟩ | ⟨g, cap', cur, e1, hb, hg, hle, hm, hs, ht⟩
  · simp only [Value.slice.injEq] at e1
    omega
  · simp only [Value.slice.injEq] at e1
    unfold maxLen at hm
    omega
/-- Where a row's ways lie. -/
theorem OwnYZ.at {W : World} {base cap : Nat} {a : Option Addr} {l : List (WyD Int)} (h : OwnYZ W base a cap l) (i : Nat) (hi : i < l.length) :
    ∃ g, a = some ⟨g, 0, none⟩ ∧ base ≤ g ∧ g < W.heap.size ∧ W.cell? ⟨g, i * 2, none⟩ = some (.int .i64 l[i].n) ∧ W.cell? ⟨g, i * 2 + 1, none⟩ = some (.slice l[i].a l[i].l.length l[i].c) := by
  rcases h.2 with ⟨_, e2⟩ | ⟨g, cap', cur, e1, hb, hg, hle, hm, hs, ht⟩
  · omega
  · simp only [Value.slice.injEq] at e1
    obtain ⟨rfl, -, rfl⟩ := e1
    have h1 := h.cellAt (i * 2) (by omega)
    have h2 := h.cellAt (i * 2 + 1) (by omega)
    have := wyC_atZ l i hi
    exact ⟨g, rfl, hb, (Array.getElem?_eq_some_iff.1 hg).1, by rw [h1]; exact this.1, by rw [h2]; exact this.2⟩
/-- The last way is taken off. -/
theorem OwnYZ.pop {W : World} {base cap : Nat} {a : Option Addr} {l : List (WyD Int)} {x : WyD Int} (h : OwnYZ W base a cap (l ++ [x])) : OwnYZ W base a cap l := by
  rcases h.2 with ⟨_, e2⟩ | ⟨g, cap', cur, e1, hb, hg, hle, hm, hs, ht⟩
  · simp at e2
  · simp only [Value.slice.injEq] at e1
    obtain ⟨rfl, -, rfl⟩ := e1
    refine ⟨wyC_lenZ l, .inr ⟨g, cap, cur, rfl, hb, hg, by simp at hle; omega, hm, hs, ?_⟩⟩
    have h2 := congrArg (List.take (l.length * 2)) ht
    rw [List.take_take, Nat.min_eq_left (by simp; omega), List.flatMap_append, List.take_append_of_le_length (by rw [wyC_lenZ]; exact Nat.le_refl _), List.take_of_length_le (l := l.flatMap wyCZ) (by rw [wyC_lenZ]; exact Nat.le_refl _)] at h2
    exact h2
theorem OwnYZ.nil (W : World) (base : Nat) : OwnYZ W base none 0 [] := World.ownsRow_nil W base _ 2
theorem OwnYZ.below {w w' : World} {base cap : Nat} {a : Option Addr} {l : List (WyD Int)} (h : OwnYZ w base a cap l) (hb : Below w.heap.size w w') : OwnYZ w' base a cap l :=
  World.ownsRow.kept h (below_grownBy hb none) (by cases e : (Value.slice a l.length cap).ownBlock <;> simp)
theorem OwnYZ.lit (w : World) (base : Nat) (x : WyD Int) (hb : base ≤ w.heap.size) : OwnYZ (w.alloc (.cells #[.int .i64 x.n, .slice x.a x.l.length x.c] 118)) base (some ⟨w.heap.size, 0, none⟩) 1 [x] :=
  World.ownsRow_lit (base := base) (e := 118) (size := 2) w #[.int .i64 x.n, .slice x.a x.l.length x.c] 1 hb (by unfold maxLen; omega) rfl
/-- A way is put onto an own row; where the row lies then. -/
theorem OwnYZ.push {w : World} {base cap : Nat} {a : Option Addr} {l : List (WyD Int)} (h : OwnYZ w base a cap l) (x : WyD Int) (ty : TypeId) (hn : l.length + 1 ≤ 1000000000) (hb : base ≤ w.heap.size) :
    ∃ a' c' w', (Builtin.append_ #[116, 116] ty #[.slice a l.length cap, .slice (some ⟨w.heap.size, 0, none⟩) 1 1]).run Try.prog (w.alloc (.cells #[.int .i64 x.n, .slice x.a x.l.length x.c] 118)) = .ok (.slice a' (l.length + 1) c') w' ∧
      OwnYZ w' base a' c' (l ++ [x]) ∧ w.grownBy w' (Value.slice a l.length cap).ownBlock ∧ (∀ g, (Value.slice a' (l ++ [x]).length c').ownBlock = some g → (Value.slice a l.length cap).ownBlock = some g ∨ w.heap.size ≤ g) := by
  obtain ⟨i0, hi, hz0, hz1, hz2⟩ := info_parts info_wyZ
  have hnew : ∀ j u, (wyCZ x)[j]? = some u → (w.alloc (.cells #[.int .i64 x.n, .slice x.a x.l.length x.c] 118)).cell? ((⟨w.heap.size, 0, none⟩ : Addr).add j) = some u := by
    intro j u hj
    have := World.alloc_heap_new w (.cells #[.int .i64 x.n, .slice x.a x.l.length x.c] 118)
    have e : ((⟨w.heap.size, 0, none⟩ : Addr).add j) = ⟨w.heap.size, j, none⟩ := by simp [Addr.add]; exact Eq.symm
    rw [e]
    unfold World.cell?
    rw [show ((⟨w.heap.size, j, none⟩ : Addr).block) = w.heap.size from rfl, this]
    simp only [Option.bind_some]
    simpa [wyCZ] using hj
  obtain ⟨v', w', hrun, ho, hg, _, hw⟩ := run_append_own_at (P := Try.prog) (w := w.alloc (.cells #[.int .i64 x.n, .slice x.a x.l.length x.c] 118)) base 116 ty 118 i0 _ 2 32 Try.underlying116 hi hz0 hz1 hz2 rfl (by decide) _ _ _ (h.alloc _) ⟨w.heap.size, 0, none⟩ 1 1 (wyCZ x) rfl hnew (fun u hu => by
    simp only [wyCZ, List.mem_cons, List.not_mem_nil, or_false] at hu
    rcases hu with rfl | rfl <;> rfl) (by unfold maxLen; omega) (by omega) (by simp; omega)
  obtain ⟨a', cap', rfl⟩ := slice_of_own ho
  refine ⟨a', cap', w', hrun, ?_, grownBy_trans (World.grownBy_alloc w _ _) hg (fun i e => .inl e), fun g e => ?_⟩
  · unfold OwnYZ
    rw [List.flatMap_append, List.length_append]
    simpa using ho
  · have e2 : (Value.slice a' (l.length + 1) cap').ownBlock = some g := by simpa using e
    rcases hw with hw | hw
    · exact .inl (by rw [← hw]; exact e2)
    · rw [hw] at e2
      have := Option.some.inj e2
      exact .inr (by rw [← this]; simp)
/-- Ways are put onto an own row. -/
theorem OwnYZ.app {w : World} {base base2 cap cap2 : Nat} {a a2 : Option Addr} {l m : List (WyD Int)} (h : OwnYZ w base a cap l) (hm : OwnYZ w base2 a2 cap2 m) (ty : TypeId) (hn : l.length + m.length ≤ 1000000000) (hb : base ≤ w.heap.size) :
    ∃ a' c' w', (Builtin.append_ #[116, 116] ty #[.slice a l.length cap, .slice a2 m.length cap2]).run Try.prog w = .ok (.slice a' (l.length + m.length) c') w' ∧
      OwnYZ w' base a' c' (l ++ m) ∧ w.grownBy w' (Value.slice a l.length cap).ownBlock ∧ (∀ g, (Value.slice a' (l ++ m).length c').ownBlock = some g → (Value.slice a l.length cap).ownBlock = some g ∨ w.heap.size ≤ g) := by
  obtain ⟨i0, hi, hz0, hz1, hz2⟩ := info_parts info_wyZ
  rcases hm.2 with ⟨e1, e2⟩ | ⟨g2, cap', cur, e1, hb2, hg2, hle, hmx, hs, ht⟩
  · have hml : m = [] := List.length_eq_zero_iff.1 e2
    subst hml
    simp only [Value.slice.injEq] at e1
    obtain ⟨rfl, -, rfl⟩ := e1
    exact ⟨a, cap, w, run_append_owned_none (P := Try.prog) w base _ ty _ i0 2 Try.underlying116 hi _ _ _ h, by simpa [OwnYZ] using h, grownBy_none (below_grownBy (Below.refl _ w) none) _, fun g e => .inl (by simpa using e)⟩
  · simp only [Value.slice.injEq] at e1
    obtain ⟨rfl, -, rfl⟩ := e1
    have hnew : ∀ j u, (m.flatMap wyCZ)[j]? = some u → w.cell? ((⟨g2, 0, none⟩ : Addr).add j) = some u := hm.cells rfl
    obtain ⟨v', w', hrun, ho, hg, _, hw⟩ := run_append_own_at (P := Try.prog) (w := w) base 116 ty 118 i0 _ 2 32 Try.underlying116 hi hz0 hz1 hz2 rfl (by decide) _ _ _ h ⟨g2, 0, none⟩ m.length cap2 (m.flatMap wyCZ) (wyC_lenZ m) hnew (fun u hu => by
      obtain ⟨x, _, hx⟩ := List.mem_flatMap.1 hu
      simp only [wyCZ, List.mem_cons, List.not_mem_nil, or_false] at hx
      rcases hx with rfl | rfl <;> rfl) (by unfold maxLen; omega) (by omega) hb
    obtain ⟨a', cap', rfl⟩ := slice_of_own ho
    refine ⟨a', cap', w', hrun, ?_, hg, fun g e => ?_⟩
    · unfold OwnYZ
      rw [List.flatMap_append, List.length_append]
      exact ho
    · have e2 : (Value.slice a' (l.length + m.length) cap').ownBlock = some g := by simpa using e
      rcases hw with hw | hw
      · exact .inl (by rw [← hw]; exact e2)
      · rw [hw] at e2
        have := Option.some.inj e2
        exact .inr (by rw [← this]; exact Nat.le_refl _)


/-- A map from keys to slices: nil, where nothing stands. -/
def SlcTZ (W : World) (b n : Nat) (f : Int → Value) : Prop :=
  ∃ D : DataW Value, W.ownsMap Try.prog 3 slcE b n D ∧ IsMap D ∧ ∀ s : Int, (Go.Lit.int .i64 s).wf = true → D.atKey (.int .i64 s) (.held (.slice none 0 0)) = .held (f s)
theorem SlcTZ.kept {W W' : World} {row : Option Nat} {b n : Nat} {f : Int → Value} (h : SlcTZ W b n f) (hg : W.grownBy W' row) (hne : some b ≠ row) : SlcTZ W' b n f := by
  obtain ⟨D, h1, h2, h3⟩ := h
  exact ⟨D, h1.kept hg hne, h2, h3⟩
theorem SlcTZ.new (W : World) : SlcTZ (W.alloc (.map #[] 0)) W.heap.size 0 (fun _ => .slice none 0 0) :=
  ⟨.map [], World.ownsMap_made _ _ _ _, isMap_empty, fun _ _ => rfl⟩
theorem SlcTZ.obj {W : World} {b n : Nat} {f : Int → Value} (h : SlcTZ W b n f) : ∃ es k, W.heap[b]? = some (.map es k) := by
  obtain ⟨D, ⟨es, k, hb, _⟩, _⟩ := h
  exact ⟨es, k, hb⟩
theorem SlcTZ.lt {W : World} {b n : Nat} {f : Int → Value} (h : SlcTZ W b n f) : b < W.heap.size := by
  obtain ⟨D, h1, _⟩ := h
  exact h1.lt
theorem SlcTZ.mono {W : World} {b n n' : Nat} {f : Int → Value} (h : SlcTZ W b n f) (hn : n ≤ n') : SlcTZ W b n' f := by
  obtain ⟨D, h1, h2⟩ := h
  exact ⟨D, h1.mono hn, h2⟩
set_option maxRecDepth 100000 in
theorem SlcTZ.look {W : World} {b n : Nat} {f : Int → Value} (h : SlcTZ W b n f) (tm te : TypeId) (ht : Try.prog.underlying tm = some (.map 3 te)) (hz : (zeroValue te).run Try.prog W = .ok (.slice none 0 0) W) (s : Int) (hs : (Go.Lit.int .i64 s).wf = true) :
    (Instr.lookup tm (.map (some b)) (.int .i64 s) false).run Try.prog W = .ok (f s) W := by
  obtain ⟨D, h1, h2, h3⟩ := h
  obtain ⟨v, ps, hrun, hv⟩ := h1.lookup int_law ht hz (zd := .held (.slice none 0 0)) (zp := []) rfl (keyOf_int_mk Try.underlying3 hs)
  rw [h3 s hs] at hv
  simp only [slcE, Option.some.injEq, Prod.mk.injEq, DataW.held.injEq] at hv
  rw [← hv.1]
  exact hrun
set_option maxRecDepth 100000 in
theorem SlcTZ.store {W : World} {b n : Nat} {f : Int → Value} (h : SlcTZ W b n f) (tm te : TypeId) (ht : Try.prog.underlying tm = some (.map 3 te)) (s : Int) (v : Value) (hs : (Go.Lit.int .i64 s).wf = true) (hn : n < maxLen) :
    ∃ W', (Instr.mapUpdate tm (.map (some b)) (.int .i64 s) v).run Try.prog W = .ok () W' ∧ SlcTZ W' b (n + 1) (fun t => if t = s then v else f t) ∧ W.grownBy W' (some b) := by
  obtain ⟨D, h1, h2, h3⟩ := h
  obtain ⟨W', hrun, ho, hg⟩ := h1.update int_law ht hn (keyOf_int_mk Try.underlying3 hs) (d := .held v) (ps := []) rfl
  refine ⟨W', hrun, ⟨_, ho, h2.put _ _, fun t ht2 => ?_⟩, hg⟩
  by_cases e : t = s
  · subst e
    rw [atKey_put_same h2 (by simp [WideAt.IsKeyLit])]
    simp
  · rw [atKey_put_other (fun h => e (by injection h)), h3 t ht2]
    simp [e]
end Go.Proofs.Ytldmgifphkpdlaa

