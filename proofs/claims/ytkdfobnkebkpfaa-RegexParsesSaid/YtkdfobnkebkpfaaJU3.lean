/- Texts of layer 2 joined: Uo Uq Ul Um. -/
import Derived.Test.YtkdfobnkebkpfaaJM
import Derived.Test.YtkdfobnkebkpfaaJK
import Derived.Test.YtkdfobnkebkpfaaJI
import Derived.Test.YtkdfobnkebkpfaaJU2
set_option linter.unusedVariables false
set_option linter.unusedSimpArgs false
/- The reference's others, one. -/
namespace Go.Proofs.Ytkdfobnkebkpfaa
open Go.RowKit Go.Shelf
attribute [local go_sem] Oper.semAt_some

/-- The bytes below k of which p holds, each as a span. -/
def sgP (p : Nat → Bool) : Nat → List Sp
  | 0 => []
  | k + 1 => if p k then sgP p k ++ [⟨UInt8.ofNat k, UInt8.ofNat k⟩] else sgP p k
theorem sgP_length (p : Nat → Bool) (k : Nat) : (sgP p k).length ≤ k := by
  induction k with
  | zero => exact Nat.le_refl _
  | succ k ih =>
    rw [sgP]
    split
    · rw [List.length_append, List.length_singleton]; omega
    · omega
theorem sgP_mem (p : Nat → Bool) : ∀ k, k ≤ 256 → ∀ c, inSp (sgP p k) c = (decide (c < k) && p c) := by
  intro k
  induction k with
  | zero => intro _ c; simp [sgP, inSp]
  | succ k ih =>
    intro hk c
    have hu : (UInt8.ofNat k).toNat = k := by simp; omega
    rw [sgP]
    by_cases hp : p k = true
    · rw [if_pos hp, inSp_append, ih (by omega)]
      simp only [hu]
      by_cases hc : c = k
      · subst hc; simp [hp]
      · rw [show decide (c < k + 1) = decide (c < k) from decide_eq_decide.2 (by omega), show decide (k ≤ c ∧ c ≤ k) = false from decide_eq_false (by omega), Bool.or_false]
    · rw [if_neg hp, ih (by omega)]
      by_cases hc : c = k
      · subst hc; simp [Bool.not_eq_true] at hp; simp [hp]
      · rw [show decide (c < k + 1) = decide (c < k) from decide_eq_decide.2 (by omega)]
theorem stepP_congr {p q : Nat → Bool} (h : ∀ c, c < 256 → p c = q c) : ∀ k, k ≤ 256 → spP p k = spP q k := by
  intro k
  induction k with
  | zero => intro _; rfl
  | succ k ih =>
    intro hk
    rw [spP, spP, ih (by omega)]
    unfold stepP
    rw [h k (by omega), h (k - 1) (by omega)]
/-- The spans of all other bytes. -/
def othP (l : List Sp) : List Sp := spP (fun c => !inSp l c) 256
theorem othP_eq (l : List Sp) : spP (inSp (sgP (fun c => !inSp l c) 256)) 256 = othP l :=
  stepP_congr (fun c hc => by rw [sgP_mem _ 256 (Nat.le_refl _) c, decide_eq_true hc, Bool.true_and]) 256 (Nat.le_refl _)
theorem othP_again (l : List Sp) : spP (inSp (othP l)) 256 = othP l :=
  stepP_congr (fun c hc => by unfold othP; rw [(spP_ok _ 256 (Nat.le_refl _)).mem c, decide_eq_true hc, Bool.true_and]) 256 (Nat.le_refl _)

set_option maxRecDepth 100000 in
set_option maxHeartbeats 2000000 in
theorem rothers_any (a : Option Addr) (cap : Nat) (l : List Sp) (w : World) (hs : Sps w a cap l) :
    Calls Try.prog 89 #[.slice a l.length cap] w fun e w' => (∃ a' cap', e = .returned (.slice a' (othP l).length cap') ∧ Sps w' a' cap' (othP l) ∧ ∀ b off, a' = some ⟨b, off, none⟩ → w.heap.size ≤ b) ∧ Below w.heap.size w w' := by
  have HIn := Lib.hid (fun (k : Nat) (hk : k < 256) wx (hbx : Below w.heap.size w wx) => in_any a cap l k hk wx (hs.grown hbx))
  obtain ⟨p, hp0⟩ : ∃ p : Nat → Bool, Hid (p = fun c => !inSp l c) := ⟨_, Lib.hid rfl⟩
  have HO : Hid (spP (inSp (sgP p 256)) 256 = othP l) := Lib.hid (by rw [hp0.out]; exact othP_eq l)
  have hpl : ∀ c, inSp l c = !p c := fun c => by rw [hp0.out]; simp
  have HF : Hid (∀ k, sgP p (k + 1) = if p k then sgP p k ++ [⟨UInt8.ofNat k, UInt8.ofNat k⟩] else sgP p k) := Lib.hid fun k => rfl
  have HLn : Hid (∀ k, (sgP p k).length ≤ k) := Lib.hid (sgP_length _)
  obtain ⟨F, HFF⟩ : ∃ F, Hid (F = sgP p) := ⟨_, Lib.hid rfl⟩
  rw [← HFF.out] at HF HLn HO
  have hF0 : Hid (F 0 = []) := Lib.hid (by rw [HFF.out]; rfl)
  clear HFF hp0
  generalize othP l = OL at *
  generalize l.length = L at *
  generalize inSp l = q at *
  clear hs
  go_enter Try.func89, Try.ntmps89
  go_wp2_with (fail)
  go_loopw [3, 4] (fun o iv wr => ∃ (k : Nat) (b : Option Addr) (c : Nat), k ≤ 256 ∧ iv = .int .i64 (k : Int) ∧ o = .slice b (F k).length c ∧ wr.ownsRow w.heap.size 52 2 (.slice b (F k).length c) (F k).length (rowS (F k)) ∧ Below w.heap.size w wr) (fun _ i _ => 256 - (intOf i).toNat)
  case atStart => exact ⟨0, none, 0, by omega, rfl, by rw [hF0.out]; rfl, by rw [hF0.out]; exact World.ownsRow_nil _ _ _ _, Below.refl _ w⟩
  case round =>
    obtain ⟨k, b, c, hk, rfl, rfl, hown, hbr⟩ := hrel
    have hln := HLn.out k
    by_cases hlt : k < 256
    · have f1 := HF.out k
      have hin := HIn.out k hlt wr hbr
      have hkI : (k : Int) < 256 := by omega
      have hu : (UInt8.ofNat k).toNat = k := by simp; omega
      have hw8 : IntKind.u8.wrap (k : Int) = (k : Int) := by rw [IntKind.wrap_u8]; omega
      obtain ⟨F1, HF1⟩ : ∃ F1, Hid (F (k + 1) = F1) := ⟨_, Lib.hid rfl⟩
      rw [HF1.out] at f1
      obtain ⟨S, HS⟩ : ∃ S, Hid (F k = S) := ⟨_, Lib.hid rfl⟩
      rw [HS.out] at f1 hown hln ⊢
      have Hown := Lib.hid hown
      have G1 := Lib.hid f1
      clear f1 hown
      by_cases hp : p k = true
      · have hqk : q k = false := by rw [hpl, hp]; rfl
        rw [hqk] at hin
        have hF : Hid (F1 = S ++ [⟨UInt8.ofNat k, UInt8.ofNat k⟩]) := Lib.hid (by rw [G1.out, if_pos hp])
        go_wp2_with (first
            | (go_at_call 28; (with_reducible refine hin.mono ?_); rintro e w8 ⟨rfl, hb8⟩;
               obtain ⟨a6, c6, w6, hrun6, hown6, hg6⟩ := run_pushS w8 22 (.int .u8 (k : Int)) (.int .u8 (k : Int)) (by simp [Value.oneCell']) (by simp [Value.oneCell']) (Hown.out.kept (below_grownBy hb8 none) (by cases b <;> simp [Value.ownBlock])) (by omega) (Nat.le_trans hbr.size hb8.size);
               have Hrun6 := Lib.hid hrun6; clear hrun6)
            | (at_builtin; (refine wpList_append_run rfl _ _ 22 22 rfl _ _ _ _ rfl rfl Hrun6.out ?_)))
        have ho8 := Hown.out.kept (below_grownBy hb8 none) (by cases b <;> simp [Value.ownBlock])
        have hb08 := hbr.trans (hb8.mono hbr.size)
        refine ⟨⟨k + 1, a6, c6, by omega, by simp, by rw [HF1.out, hF.out]; simp, ?_, hb08.grown hg6 hb08.size (fun i e => own_ge ho8 e)⟩, by simp [intOf]; omega⟩
        rw [HF1.out, hF.out, rowS_snoc, List.length_append]
        simp only [hu]
        exact hown6
      · have hqk : q k = true := by rw [hpl]; simpa using hp
        rw [hqk] at hin
        have hF : Hid (F1 = S) := Lib.hid (by rw [G1.out, if_neg hp])
        go_wp2_with (go_at_call 28; (with_reducible refine hin.mono ?_); rintro e w8 ⟨rfl, hb8⟩)
        have ho8 := Hown.out.kept (below_grownBy hb8 none) (by cases b <;> simp [Value.ownBlock])
        refine ⟨⟨k + 1, b, c, by omega, by simp, by rw [HF1.out, hF.out], ?_, hbr.trans (hb8.mono hbr.size)⟩, by simp [intOf]; omega⟩
        rw [HF1.out, hF.out]
        exact ho8
    · obtain rfl : k = 256 := by omega
      have hsp := refSpans_own b c (F 256) wr (Sps.of_own hown rfl)
      rw [HO.out] at hsp
      go_wp2_with (go_at_call 20; (with_reducible refine hsp.mono ?_); rintro e w8 ⟨⟨a8, c8, rfl, hs8, hl8⟩, hb8⟩)
      exact bodyPost_ret (v := .slice a8 OL.length c8) (by simp [results, Try.results89, go_sem]; try rfl) rfl ⟨⟨a8, c8, rfl, hs8, fun g off e => Nat.le_trans hbr.size (hl8 g off e)⟩, hbr.trans (hb8.mono hbr.size)⟩

set_option maxRecDepth 100000 in
set_option maxHeartbeats 1000000 in
/-- The Set of a byte. -/
theorem rone_any (c : UInt8) (w : World) :
    Calls Try.prog 91 #[.int .u8 (c.toNat : Int)] w fun e w' => (∃ ea : Ea, e = .returned ea.val ∧ ea.x = oneX c ∧ EaP (fun b => w.heap.size ≤ b ∧ b < w'.heap.size) w' ea) ∧ Below w.heap.size w w' := by
  have hB0 := Blk.new w 25 re0
  have f0 := hB0.frozen 0
  have f1 := hB0.frozen 1
  have f2 := hB0.frozen 2
  have hl := hB0.lt
  go_enter Try.func91, Try.ntmps91
  go_wp2_with (fail)
  have hB1 := (Blk.new w 25 #[.int .i64 2, .slice (some ⟨w.heap.size + 1, 0, none⟩) 1 1, .slice none 0 0]).alloc (.cells #[.int .u8 (c.toNat : Int), .int .u8 (c.toNat : Int)] 52)
  have hb1 : Below w.heap.size w ((w.alloc (.cells #[.int .i64 2, .slice (some ⟨w.heap.size + 1, 0, none⟩) 1 1, .slice none 0 0] 25)).alloc (.cells #[.int .u8 (c.toNat : Int), .int .u8 (c.toNat : Int)] 52)) := ((Below.refl _ w).alloc (Nat.le_refl _) _).alloc (by simp) _
  have hsl := Sps.lit (w.alloc (.cells #[.int .i64 2, .slice (some ⟨w.heap.size + 1, 0, none⟩) 1 1, .slice none 0 0] 25)) ⟨c, c⟩
  have hz : (w.alloc (.cells #[.int .i64 2, .slice (some ⟨w.heap.size + 1, 0, none⟩) 1 1, .slice none 0 0] 25)).heap.size = w.heap.size + 1 := by simp
  rw [hz] at hsl
  have hsz : w.heap.size + 1 < ((w.alloc (.cells #[.int .i64 2, .slice (some ⟨w.heap.size + 1, 0, none⟩) 1 1, .slice none 0 0] 25)).alloc (.cells #[.int .u8 (c.toNat : Int), .int .u8 (c.toNat : Int)] 52)).heap.size := by simp
  have g0 := hB1.cell 0
  have g1 := hB1.cell 1
  have g2 := hB1.cell 2
  simp only [List.getElem?_cons_zero, List.getElem?_cons_succ] at g0 g1 g2
  generalize World.alloc _ _ = WF at hb1 hsl g0 g1 g2 hsz ⊢
  refine bodyPost_ret (v := Ea.val ⟨oneX c, some ⟨w.heap.size + 1, 0, none⟩, 1, none, 0⟩) ?_ rfl ⟨⟨⟨oneX c, some ⟨w.heap.size + 1, 0, none⟩, 1, none, 0⟩, rfl, rfl, ⟨hsl, fun b off e _ => by cases e; omega⟩, ItemsP.nil _ _⟩, hb1⟩
  simp [results, Try.f91, go_sem, g0, g1, g2, itemV, oneX, setX, Fo.len]
end Go.Proofs.Ytkdfobnkebkpfaa

/- What is read may be, its depth aside. -/
namespace Go.Proofs.Ytkdfobnkebkpfaa
open Go.RowKit Go.Shelf

/-- An expression that may be, its depth aside. -/
def okX (x : Ex) : Prop := (plainB x.h x.k.len && mayB x.k) = true
theorem spP_ne {p : Nat → Bool} {c : Nat} (hc : c < 256) (h : p c = true) : 0 < (spP p 256).length := by
  have := (spP_ok p 256 (Nat.le_refl _)).mem c
  rw [h] at this
  simp only [hc, decide_true, Bool.and_true, Bool.true_and] at this
  cases hs : spP p 256 with
  | nil => rw [hs] at this; simp [inSp] at this
  | cons s r => simp
theorem okX_set {p : Nat → Bool} {c : Nat} (hc : c < 256) (h : p c = true) : okX (setX (spP p 256)) := by
  have h1 := spP_ne hc h
  have h2 := (spP_ok p 256 (Nat.le_refl _)).ord
  unfold okX setX plainB
  simp [h1, h2, Fo.len, mayB, Fo.pre]
theorem mayB_foX : ∀ (l : List Ex), (∀ y ∈ l, okX y) → mayB (foX l) = true := by
  intro l
  induction l with
  | nil => intro _; rfl
  | cons x r ih =>
    intro h
    rw [foX, mayB_cons]
    have := h x (List.mem_cons_self ..)
    unfold okX at this
    rw [this, ih (fun y hy => h y (List.mem_cons_of_mem _ hy))]
    rfl
theorem foX_len (l : List Ex) : (foX l).len = l.length := by
  induction l with
  | nil => rfl
  | cons x r ih => simp [foX, Fo.len, ih]
theorem okX_join {k : Int} (hk : k = 3 ∨ k = 4) (l : List Ex) (h : ∀ y ∈ l, okX y) : okX (joinX k l) := by
  match l, h with
  | [], _ => rfl
  | [x], h => exact h x (by simp)
  | x :: y :: l, h =>
    have h1 := mayB_foX _ h
    show (plainB ⟨k, []⟩ (foX (x :: y :: l)).len && mayB (foX (x :: y :: l))) = true
    rw [h1, foX_len]
    rcases hk with rfl | rfl <;> simp [plainB] <;> omega
theorem okX_reps : ∀ (r : List UInt8) (x : Ex), okX x → okX (repsP x r).1 := by
  intro r
  induction r with
  | nil => intro x h; exact h
  | cons c r ih =>
    intro x h
    rw [repsP]
    split
    · rename_i hc
      refine ih _ ?_
      have h2 := reps_le c
      unfold okX at h ⊢
      rw [mayB_cons, h]
      have : Lib.indexByte reps c = 0 ∨ Lib.indexByte reps c = 1 ∨ Lib.indexByte reps c = 2 := by omega
      rcases this with e | e | e <;> rw [e] <;> rfl
    · exact h
theorem itemP_le {r r' : List UInt8} {s : Sp} (h : itemP r = .ok s r') : s.lo.toNat ≤ s.hi.toNat := by
  unfold itemP at h
  split at h
  · cases h
  · split at h
    · split at h
      · cases h
      · split at h
        · cases h
        · cases h; simp only []; omega
    · cases h; exact Nat.le_refl _
theorem itemsP_has : ∀ (F : Nat) (r : List UInt8) (l l' : List Sp) (r' : List UInt8), itemsP F r l = .ok l' r' → ∃ m, l' = l ++ m := by
  intro F
  induction F with
  | zero => intro r l l' r' h; cases h
  | succ F ih =>
    intro r l l' r' h
    rw [itemsP] at h
    split at h
    · cases h; exact ⟨[], by simp⟩
    · obtain ⟨s, r1, h1, h2⟩ := bind_inv h
      obtain ⟨m, e⟩ := ih _ _ _ _ h2
      exact ⟨s :: m, by rw [e]; simp⟩
theorem classP_has {r r' : List UInt8} {x : List Sp × Bool} (h : classP r = .ok x r') : ∃ c, c < 256 ∧ setM x c = true := by
  unfold classP at h
  obtain ⟨s, r1, h1, h2⟩ := bind_inv h
  obtain ⟨l, r2, h3, h4⟩ := bind_inv h2
  obtain ⟨m, e⟩ := itemsP_has _ _ _ _ _ h3
  have hs := itemP_le h1
  unfold classE at h4
  split at h4
  · cases h4
  · rename_i hn
    cases h4
    cases hq : headIs 94 r with
    | false =>
      refine ⟨s.lo.toNat, s.lo.toNat_lt, ?_⟩
      simp [setM, e, inSp, hs]
    | true =>
      rw [hq] at hn
      simp only [Bool.true_and, Bool.not_eq_true] at hn
      unfold allB at hn
      rw [List.all_eq_false] at hn
      obtain ⟨c, hc, hf⟩ := hn
      refine ⟨c, List.mem_range.1 hc, ?_⟩
      simp [setM]
      simpa using hf
def PlainP (F : Nat) : Prop := (∀ r x r', altsP F r = .ok x r' → okX x) ∧ (∀ r l x r', (∀ y ∈ l, okX y) → moreP F r l = .ok x r' → okX x) ∧ (∀ r x r', altP F r = .ok x r' → okX x) ∧
  (∀ r l x r', (∀ y ∈ l, okX y) → piecesP F r l = .ok x r' → okX x) ∧ (∀ r x r', pieceP F r = .ok x r' → okX x) ∧ (∀ r x r', atomP F r = .ok x r' → okX x)
theorem snoc_ok {l : List Ex} {x : Ex} (h : ∀ y ∈ l, okX y) (hx : okX x) : ∀ y ∈ l ++ [x], okX y := by
  intro y hy
  rcases List.mem_append.1 hy with hy | hy
  · exact h y hy
  · rw [List.mem_singleton.1 hy]; exact hx
theorem plainP : ∀ F, PlainP F := by
  intro F
  induction F with
  | zero => exact ⟨fun r x r' h => (by cases h), fun r l x r' _ h => (by cases h), fun r x r' h => (by cases h), fun r l x r' _ h => (by cases h), fun r x r' h => (by cases h), fun r x r' h => (by cases h)⟩
  | succ F ih =>
    obtain ⟨i1, i2, i3, i4, i5, i6⟩ := ih
    refine ⟨fun r x r' h => ?_, fun r l x r' hl h => ?_, fun r x r' h => ?_, fun r l x r' hl h => ?_, fun r x r' h => ?_, fun r x r' h => ?_⟩
    · rw [altsP] at h
      obtain ⟨y, r1, h1, h2⟩ := bind_inv h
      exact i2 _ _ _ _ (fun z hz => by rw [List.mem_singleton.1 hz]; exact i3 _ _ _ h1) h2
    · rw [moreP] at h
      split at h
      · obtain ⟨y, r1, h1, h2⟩ := bind_inv h
        exact i2 _ _ _ _ (snoc_ok hl (i3 _ _ _ h1)) h2
      · cases h; exact okX_join (.inr rfl) l hl
    · rw [altP] at h; exact i4 _ _ _ _ (fun y hy => by cases hy) h
    · rw [piecesP] at h
      split at h
      · cases h; exact okX_join (.inl rfl) l hl
      · obtain ⟨y, r1, h1, h2⟩ := bind_inv h
        exact i4 _ _ _ _ (snoc_ok hl (i5 _ _ _ h1)) h2
    · rw [pieceP] at h
      obtain ⟨y, r1, h1, h2⟩ := bind_inv h
      have a1 := okX_reps r1 y (i6 _ _ _ h1)
      cases h2
      exact a1
    · rw [atomP] at h
      split at h
      · obtain ⟨y, r1, h1, h2⟩ := bind_inv h
        have a1 := i1 _ _ _ h1
        unfold closeP at h2
        split at h2
        · cases h2; exact a1
        · cases h2
      · split at h
        · cases h; exact okX_set (c := 0) (by omega) rfl
        · split at h
          · obtain ⟨y, r1, h1, h2⟩ := bind_inv h
            obtain ⟨c, hc, hs⟩ := classP_has h1
            cases h2; exact okX_set hc hs
          · obtain ⟨y, r1, h1, h2⟩ := bind_inv h
            cases h2
            exact okX_set (c := y.toNat) y.toNat_lt (by simp [setM, inSp])
/-- What was read may be, or is too deep. -/
theorem ckE_read {F : Nat} {r r' : List UInt8} {x : Ex} (h : altsP F r = .ok x r') : ckE x.h x.k = if x.k.deep + 1 ≤ 40 then 0 else 3 := by
  have := (plainP F).1 _ _ _ h
  unfold okX at this
  unfold ckE
  rw [checkE_ref, if_pos this]
end Go.Proofs.Ytkdfobnkebkpfaa

/- The reference's reader: class, in part: between two rounds. -/
namespace Go.Proofs.Ytkdfobnkebkpfaa
open Go.RowKit Go.Shelf

/-- The list of spans so far. -/
def OwnS (n0 : Nat) (W : World) (A : Option Addr) (C : Nat) (l : List Sp) : Prop := W.ownsRow n0 52 2 (.slice A l.length C) l.length (rowS l)
theorem OwnS.kept {n0 : Nat} {W W' : World} {A : Option Addr} {C : Nat} {l : List Sp} (h : OwnS n0 W A C l) {r : Option Nat} (hg : W.grownBy W' r) (hr : ∀ i, r = some i → i < n0) : OwnS n0 W' A C l := by
  by_cases hA : (Value.slice A l.length C).ownBlock = none
  · exact World.ownsRow.kept h hg (.inl hA)
  · refine World.ownsRow.kept h hg (.inr fun e => ?_)
    cases hr2 : r with
    | none => exact hA (e.trans hr2)
    | some i => have := own_ge h (e.trans hr2); have := hr i hr2; omega
theorem RAt.kept {w w' : World} {rb : Nat} {s : ByteArray} {a : Nat} {bad : Bool} (h : RAt w rb s a bad) {r : Option Nat} (hg : w.grownBy w' r) (hne : some rb ≠ r) : RAt w' rb s a bad := Blk.kept h hg hne
theorem RAt.alloc {w : World} {rb : Nat} {s : ByteArray} {a : Nat} {bad : Bool} (h : RAt w rb s a bad) (o : Obj) : RAt (w.alloc o) rb s a bad := Blk.alloc h o
/-- One span more. -/
theorem OwnS.push {n0 : Nat} {W : World} {A : Option Addr} {C : Nat} {l : List Sp} (h : OwnS n0 W A C l) (sp : Sp) (hn : l.length ≤ 4096) (hb : n0 ≤ W.heap.size) (ty : TypeId) :
    ∃ a' c' w', (Builtin.append_ #[22, 22] ty #[.slice A l.length C, .slice (some ⟨W.heap.size, 0, none⟩) 1 1]).run Try.prog (W.alloc (.cells #[.int .u8 (sp.lo.toNat : Int), .int .u8 (sp.hi.toNat : Int)] 52)) = .ok (.slice a' (l.length + 1) c') w' ∧
      OwnS n0 w' a' c' (l ++ [sp]) ∧ W.grownBy w' (Value.slice A l.length C).ownBlock := by
  obtain ⟨a', c', w', hrun, ho, hg⟩ := run_pushS W ty (.int .u8 (sp.lo.toNat : Int)) (.int .u8 (sp.hi.toNat : Int)) (by simp [Value.oneCell']) (by simp [Value.oneCell']) h (by omega) hb
  refine ⟨a', c', w', hrun, ?_, hg⟩
  unfold OwnS
  rw [rowS_snoc, List.length_append]
  exact ho

/-- What is known between two rounds of class. -/
def ClsI (w : World) (rb : Nat) (s : ByteArray) (X : Rd (List Sp)) (lv fv : Value) (W : World) : Prop :=
  ∃ (l : List Sp) (r : List UInt8) (a : Nat) (A : Option Addr) (C : Nat) (bad first : Bool), Suf s a r ∧ RAt W rb s a bad ∧ lv = .slice A l.length C ∧ fv = .bool first ∧ OwnS (w.heap.size + 1) W A C l ∧ w.grownBy W (some rb) ∧ Blk W w.heap.size 25 [.int .i64 0, .slice none 0 0, .slice none 0 0] ∧ (bad = true ∨ l.length + r.length ≤ 4096) ∧
    (bad = true ∧ X = .bad r ∨
     bad = false ∧ ((first = false ∧ headIs 93 r = true ∧ X = .ok l r.tail ∧ 0 < l.length) ∨ ((first = true ∨ headIs 93 r = false) ∧ ∃ Fn : Nat → Nat, (∀ k, k < r.length → k + 1 ≤ Fn k) ∧ X = (itemP r).bind fun sp r1 => itemsP (Fn r1.length) r1 (l ++ [sp]))))
/-- Behind a span that was read. -/
theorem cls_next {X : Rd (List Sp)} {l : List Sp} {r1 : List UInt8} {F : Nat} (hl : 0 < l.length) (hF : r1.length + 1 ≤ F) (hX : X = itemsP F r1 l) :
    (false = false ∧ headIs 93 r1 = true ∧ X = .ok l r1.tail ∧ 0 < l.length) ∨ ((false = true ∨ headIs 93 r1 = false) ∧ ∃ Fn : Nat → Nat, (∀ k, k < r1.length → k + 1 ≤ Fn k) ∧ X = (itemP r1).bind fun sp r2 => itemsP (Fn r2.length) r2 (l ++ [sp])) := by
  cases F with
  | zero => omega
  | succ F =>
    rw [itemsP] at hX
    by_cases hh : headIs 93 r1 = true
    · rw [if_pos hh] at hX
      exact .inl ⟨rfl, hh, hX, hl⟩
    · rw [if_neg hh] at hX
      exact .inr ⟨.inr (by simpa using hh), fun _ => F, fun k hk => by show k + 1 ≤ F; omega, hX⟩
end Go.Proofs.Ytkdfobnkebkpfaa

/- The reference's reader: what class stands on. -/
namespace Go.Proofs.Ytkdfobnkebkpfaa
open Go.RowKit Go.Shelf

/-- An expression's value, whatever it holds. -/
def exJ (val : Value) : Prop := ∃ ea : Ea, val = ea.val
theorem grown_none {a b : World} (h : a.grownBy b none) {r : Option Nat} : a.grownBy b r := ⟨h.1, h.2, h.3, h.size, fun i hi _ => h.block i hi (by simp)⟩
theorem bind_bind {α β γ : Type} (x : Rd α) (f : α → List UInt8 → Rd β) (g : β → List UInt8 → Rd γ) : (x.bind f).bind g = x.bind fun v r => (f v r).bind g := by cases x <;> rfl
theorem class_plain (r : List UInt8) : ((classP r).bind fun x r1 => .ok (setX (spP (setM x) 256)) r1) =
    ((itemP (if headIs 94 r = true then r.tail else r)).bind (fun sp r1 => itemsP (r1.length + 1) r1 [sp])).bind fun l r2 => (classE (headIs 94 r) l r2).bind fun x r1 => .ok (setX (spP (setM x) 256)) r1 := by
  unfold classP
  rw [bind_bind, bind_bind]
  congr 1
  funext sp r1
  rw [bind_bind]
theorem headIs_cons {c : UInt8} {r : List UInt8} (h : headIs c r = true) : r = c :: r.tail := by
  cases r with
  | nil => cases h
  | cons x t => simp only [headIs, beq_iff_eq] at h; rw [h]; rfl
theorem oth_none {l : List Sp} : (othP l).length = 0 ↔ allB l = true := by
  unfold allB othP
  rw [List.all_eq_true]
  constructor
  · intro h c hc
    have h1 := (spP_ok (fun c => !inSp l c) 256 (Nat.le_refl _)).mem c
    rw [List.eq_nil_of_length_eq_zero h, decide_eq_true (List.mem_range.1 hc)] at h1
    simpa [inSp] using h1.symm
  · intro h
    cases hs : spP (fun c => !inSp l c) 256 with
    | nil => rfl
    | cons sp m =>
      exfalso
      have ho := (spP_ok (fun c => !inSp l c) 256 (Nat.le_refl _)).ord
      rw [hs] at ho
      have hle : sp.lo.toNat ≤ sp.hi.toNat := by
        have h0 := (List.all_eq_true.1 ho) 0 (List.mem_range.2 (by simp))
        simp only [okAt, List.getElem?_cons_zero] at h0
        simp at h0
        exact h0
      have h1 := (spP_ok (fun c => !inSp l c) 256 (Nat.le_refl _)).mem sp.lo.toNat
      have h2 := h _ (List.mem_range.2 sp.lo.toNat_lt)
      rw [hs, h2] at h1
      simp [inSp, hle] at h1

/-- is, and what it leaves alone. -/
theorem is_k (c : UInt8) (w : World) (rb : Nat) (s : ByteArray) (a : Nat) (bad : Bool) (r : List UInt8) (hA : RAt w rb s a bad) (hS : Suf s a r) (hs : s.size ≤ 4096) :
    Calls Try.prog 60 #[.pointer (some ⟨rb, 0, none⟩), .int .u8 (c.toNat : Int)] w fun e w' => e = .returned (.bool (!bad && headIs c r)) ∧ RAt w' rb s a bad ∧ w.grownBy w' none := by
  refine (is_any c w rb s a bad r hA hS hs).mono ?_
  rintro e w' ⟨rfl, n, rfl⟩
  exact ⟨rfl, hA.drewN n, grownBy_drewN w n none⟩
theorem is_b (c : UInt8) (w : World) (rb : Nat) (s : ByteArray) (a : Nat) (r : List UInt8) (hA : RAt w rb s a true) (hS : Suf s a r) (hs : s.size ≤ 4096) :
    Calls Try.prog 60 #[.pointer (some ⟨rb, 0, none⟩), .int .u8 (c.toNat : Int)] w fun e w' => e = .returned (.bool false) ∧ RAt w' rb s a true ∧ w.grownBy w' none := is_k c w rb s a true r hA hS hs

/-- What class holds on the way. -/
structure Cs (w : World) (rb : Nat) (s : ByteArray) (A : Option Addr) (C : Nat) (l : List Sp) (a : Nat) (bad : Bool) (V : World) : Prop where
  at_ : RAt V rb s a bad
  own : OwnS (w.heap.size + 1) V A C l
  gr : w.grownBy V (some rb)
  res : Blk V w.heap.size 25 [.int .i64 0, .slice none 0 0, .slice none 0 0]
theorem Cs.step {w V V' : World} {rb : Nat} {s : ByteArray} {A : Option Addr} {C : Nat} {l : List Sp} {a a' : Nat} {bad bad' : Bool} (h : Cs w rb s A C l a bad V) (hg : V.grownBy V' (some rb)) (hA : RAt V' rb s a' bad') (hrb : rb < w.heap.size := by assumption) : Cs w rb s A C l a' bad' V' :=
  ⟨hA, h.own.kept hg (fun i e => by cases e; omega), grownBy_rb h.gr hg, h.res.kept hg (by simp; omega)⟩
theorem Cs.kept {w V V' : World} {rb : Nat} {s : ByteArray} {A : Option Addr} {C : Nat} {l : List Sp} {a : Nat} {bad : Bool} (h : Cs w rb s A C l a bad V) (hg : V.grownBy V' none) : Cs w rb s A C l a bad V' :=
  ⟨h.at_.kept hg (by simp), h.own.kept hg (fun i e => by cases e), grownBy_rb h.gr (grown_none hg), h.res.kept hg (by simp)⟩
theorem Cs.push {w V : World} {rb : Nat} {s : ByteArray} {A : Option Addr} {C : Nat} {l : List Sp} {a : Nat} {bad : Bool} (h : Cs w rb s A C l a bad V) (lo hi : UInt8) (hrb : rb < w.heap.size) (hn : l.length ≤ 4096) (ty : TypeId) :
    ∃ a' c' w', (Builtin.append_ #[22, 22] ty #[.slice A l.length C, .slice (some ⟨V.heap.size, 0, none⟩) 1 1]).run Try.prog (V.alloc (.cells #[.int .u8 (lo.toNat : Int), .int .u8 (hi.toNat : Int)] 52)) = .ok (.slice a' (l.length + 1) c') w' ∧ Cs w rb s a' c' (l ++ [⟨lo, hi⟩]) a bad w' := by
  obtain ⟨a', c', w', hrun, ho, hg⟩ := h.own.push ⟨lo, hi⟩ hn h.res.lt ty
  have hne : ∀ i, (Value.slice A l.length C).ownBlock = some i → w.heap.size + 1 ≤ i := fun i e => own_ge h.own e
  exact ⟨a', c', w', hrun, h.at_.kept hg (fun e => by have := hne _ e.symm; omega), ho, grownBy_trans h.gr hg (fun i e => .inr (by have := hne i e; omega)), h.res.kept hg (fun e => by have := hne _ e.symm; omega)⟩
/-- How much is left. -/
def msc (rb : Nat) (s : ByteArray) (w : World) : Nat :=
  match w.cell? ⟨rb, 2, none⟩ with
  | some (.bool true) => 0
  | _ => s.size - (match w.cell? ⟨rb, 1, none⟩ with | some v => (intOf v).toNat | none => 0) + 1
theorem msc_eq {w : World} {rb : Nat} {s : ByteArray} {a : Nat} {bad : Bool} (h : RAt w rb s a bad) : msc rb s w = if bad = true then 0 else s.size - a + 1 := by
  obtain ⟨_, c1, c2⟩ := h.cells
  unfold msc
  rw [c1, c2]
  cases bad <;> simp [intOf]
theorem RAt.put3 {w : World} {b rb a : Nat} {s : ByteArray} {bad : Bool} (h : RAt w rb s a bad) (hne : rb ≠ b) (v0 v1 v2 : Value) : RAt (((w.setCell ⟨b, 0, none⟩ v0).setCell ⟨b, 1, none⟩ v1).setCell ⟨b, 2, none⟩ v2) rb s a bad :=
  ((Blk.setOther h hne v0).setOther hne v1).setOther hne v2
/-- What is returned out of the result's own cells. -/
theorem rret_cells {w w' : World} {rb : Nat} {s : ByteArray} {a : Nat} {X : Rd Ex} {r : List UInt8} {e : Ea} {n : Nat} (hX : X = .ok e.x r) (hS : Suf s a r) (hA : RAt w' rb s a false) (hg : w.grownBy w' (some rb)) (he : EaP (fun b => n ≤ b ∧ b < w'.heap.size) w' e) (hn : w.heap.size < n) (hrb : rb < w.heap.size) :
    RA (exV w.heap.size) exJ w rb s X (.returned e.val) (((w'.setCell ⟨w.heap.size, 0, none⟩ (.int .i64 e.x.h.k)).setCell ⟨w.heap.size, 1, none⟩ (.slice e.sa e.x.h.set.length e.sc)).setCell ⟨w.heap.size, 2, none⟩ (.slice e.a e.x.k.len e.c)) :=
  RA.ok' hX ⟨e, rfl, rfl, (he.grow (put3_grow w' w.heap.size _ _ _) (fun i ei => by cases ei; exact hn)).weak (by omega)⟩ hS (hA.put3 (by omega) _ _ _) (grow_put3 hg (Nat.le_refl _) _ _ _)
theorem rret_bad {w w' : World} {rb : Nat} {s : ByteArray} {a : Nat} {X : Rd Ex} {r : List UInt8} (hX : X = .bad r) (hS : Suf s a r) (hA : RAt w' rb s a true) (hg : w.grownBy w' (some rb)) (hrb : rb < w.heap.size) (e : Ea) :
    RA (exV w.heap.size) exJ w rb s X (.returned e.val) (((w'.setCell ⟨w.heap.size, 0, none⟩ (.int .i64 e.x.h.k)).setCell ⟨w.heap.size, 1, none⟩ (.slice e.sa e.x.h.set.length e.sc)).setCell ⟨w.heap.size, 2, none⟩ (.slice e.a e.x.k.len e.c)) :=
  RA.bad' hX ⟨e, rfl⟩ hS (hA.put3 (by omega) _ _ _) (grow_put3 hg (Nat.le_refl _) _ _ _)
end Go.Proofs.Ytkdfobnkebkpfaa
