/- Texts joined: Dl. -/
import Derived.Test.YtngbfjimmdkfeaaPBD4
import Derived.Test.YtngbfjimmdkfeaaPBD5
set_option linter.unusedVariables false
set_option linter.unusedSimpArgs false
namespace Go.Proofs.Ytngbfjimmdkfeaa
open Go.RowKit Go.Shelf Go.Maps

attribute [local go_sem] Oper.semAt_some

theorem rn_trans {x : Nf} {S : Nat → Prop} {t a : Nat} (h : Rn x S t) (k : Rn x (· = t) a) : Rn x S a :=
  Rn.closed (C := fun a => Rn x S a) (fun a e => by rw [e]; exact h) (fun a b h k => .step h k) k
theorem hasW_or (f g : WSet) (c : Nat) : hasW (fun i => f i ||| g i) c = (hasW f c || hasW g c) := by
  unfold hasW
  exact BitVec.getLsbD_or
theorem isW_bh (L : MkL) (n : Nat) (sa : Option Addr) (sc : Nat) (cu : Nat → Bool) (bh : Nat → WSet) (c : Nat) : IsW (mkG L n sa sc cu bh) (265 + c * 32) (bh c) := fun i hi => by
  unfold mkG
  rw [if_neg (by omega), if_neg (by omega), show (265 + c * 32 + i - 265) / 32 = c by omega, show (265 + c * 32 + i - 265) % 32 = i by omega]
theorem ovr_bh (L : MkL) (n : Nat) (sa : Option Addr) (sc : Nat) (cu : Nat → Bool) (bh : Nat → WSet) (c : Nat) (f : WSet) (j : Nat) : ovr (mkG L n sa sc cu bh) (265 + c * 32) f j = mkG L n sa sc cu (fun d => if d = c then f else bh d) j := by
  unfold ovr
  by_cases h : 265 + c * 32 ≤ j ∧ j < 265 + c * 32 + 32
  · rw [if_pos h]
    unfold mkG
    rw [if_neg (by omega), if_neg (by omega)]
    dsimp only
    rw [if_pos (by omega), show j - (265 + c * 32) = (j - 265) % 32 by omega]
  · rw [if_neg h]
    unfold mkG
    by_cases h1 : j < 8
    · rw [if_pos h1, if_pos h1]
    · rw [if_neg h1, if_neg h1]
      by_cases h2 : j < 265
      · rw [if_pos h2, if_pos h2]
      · rw [if_neg h2, if_neg h2]
        dsimp only
        rw [if_neg (by omega)]
theorem mkG_cut (L : MkL) (n : Nat) (sa : Option Addr) (sc : Nat) (cu : Nat → Bool) (bh : Nat → WSet) {c : Nat} (hc : c < 257) : mkG L n sa sc cu bh (8 + c) = .bool (cu c) := by
  unfold mkG
  rw [if_neg (by omega), if_pos (by omega), show 8 + c - 8 = c by omega]
theorem blkA_ne {w : World} {b b2 n n2 t t2 : Nat} {g g2 : Nat → Value} (h : BlkA w b t n g) (h2 : BlkA w b2 t2 n2 g2) (hne : t ≠ t2) : b ≠ b2 := fun e => by
  subst e
  obtain ⟨c1, h1⟩ := h.ty
  obtain ⟨c2, h3⟩ := h2.ty
  rw [h1] at h3
  cases h3
  exact hne rfl
/-- The maker's own block is another. -/
theorem MkrAt.mks {w0 w w' : World} {L : MkL} {cl : Nat → WSet} {cu cu' : Nat → Bool} {bh bh' : Nat → WSet} {all : List WSet} {sa : Option Addr} {sc : Nat} (h : MkrAt w0 w L cl cu bh all sa sc) (hg : w.grownBy w' (some L.mb)) (hk : BlkA w' L.mb 77 8457 (mkG L all.length sa sc cu' bh')) : MkrAt w0 w' L cl cu' bh' all sa sc := by
  have hlo := h.lo
  have hhi := h.hi
  have hm1 := h.m1
  obtain ⟨cur, hk0⟩ := h.mkr.ty
  have ht : ∀ {b n t : Nat} {g : Nat → Value}, BlkA w b t n g → t ≠ 77 → BlkA w' b t n g := fun hb hne => hb.kept hg (fun e => by
    cases e
    obtain ⟨c2, h2⟩ := hb.ty
    rw [hk0] at h2
    cases h2
    exact hne rfl)
  have ho : ∀ {base e size n cap : Nat} {a : Option Addr} {xs : List Value}, w.ownsRow base e size (.slice a n cap) n xs → e ≠ 77 → w'.ownsRow base e size (.slice a n cap) n xs := fun ho hne => own_keptD ho hg (fun g e e0 => by
    cases e
    obtain ⟨hb, c2, h2⟩ := own_typD ho _ e0
    rw [hk0] at h2
    cases h2
    exact hne rfl)
  obtain ⟨vs, he, hv⟩ := h.eg.1
  exact ⟨h.bel.grown hg h.bel.size (fun k e => by cases e; omega), Nat.le_trans hm1 hg.size, hk, ht h.cb (by decide), ht h.lb (by decide), fun d hd => ⟨ho (h.ld d hd).1 (by decide), (h.ld d hd).2⟩, ⟨⟨vs, ho he (by decide), hv⟩, h.eg.2⟩, ho h.sets (by decide),
    h.fnd.kept hg (fun e => by
      injection e with e
      obtain ⟨es, k, h2⟩ := h.fnd.obj
      rw [e, hk0] at h2
      cases h2), hlo, hhi⟩
/-- What is behind the cuts, by these moves, and by one more up to a byte. -/
def BhI (y : Nf) (cu : Nat → Bool) (bh : Nat → WSet) (P : List Mv) (x : Mv) (k : Nat) : Prop := ∀ c, c < 256 → cu c = true → Msk (bh c) (fun s => (∃ m ∈ P, m.lo ≤ c ∧ c ≤ m.hi ∧ Rn y (fun a => (a : Int) = m.to) s) ∨ (x.lo ≤ c ∧ c < k ∧ c ≤ x.hi ∧ Rn y (fun a => (a : Int) = x.to) s))
def BhA (y : Nf) (cu : Nat → Bool) (bh : Nat → WSet) (P : List Mv) : Prop := ∀ c, c < 256 → cu c = true → Msk (bh c) (fun s => ∃ m ∈ P, m.lo ≤ c ∧ c ≤ m.hi ∧ Rn y (fun a => (a : Int) = m.to) s)
theorem bhI_start {y : Nf} {cu : Nat → Bool} {bh : Nat → WSet} {P : List Mv} {x : Mv} (h : BhA y cu bh P) : BhI y cu bh P x x.lo := fun c hc hu s hs => by
  rw [h c hc hu s hs]
  constructor
  · exact .inl
  · rintro (h | ⟨h1, h2, _⟩)
    · exact h
    · omega
theorem bhI_end {y : Nf} {cu : Nat → Bool} {bh : Nat → WSet} {P : List Mv} {x : Mv} (h : BhI y cu bh P x (x.hi + 1)) : BhA y cu bh (P ++ [x]) := fun c hc hu s hs => by
  rw [h c hc hu s hs]
  constructor
  · rintro (⟨m, hm, h1⟩ | ⟨h1, h2, h3, h4⟩)
    · exact ⟨m, List.mem_append_left _ hm, h1⟩
    · exact ⟨x, by simp, h1, h3, h4⟩
  · rintro ⟨m, hm, h1, h2, h3⟩
    rcases List.mem_append.1 hm with h | h
    · exact .inl ⟨m, h, h1, h2, h3⟩
    · rw [List.mem_singleton] at h
      subst h
      exact .inr ⟨h1, by omega, h2, h3⟩
theorem bhI_over {y : Nf} {cu : Nat → Bool} {bh : Nat → WSet} {P : List Mv} {x : Mv} {k : Nat} (h : BhI y cu bh P x k) (hk : x.hi < k) : BhI y cu bh P x (x.hi + 1) := fun c hc hu s hs => by
  rw [h c hc hu s hs]
  constructor
  · rintro (h | ⟨h1, h2, h3, h4⟩)
    · exact .inl h
    · exact .inr ⟨h1, by omega, h3, h4⟩
  · rintro (h | ⟨h1, h2, h3, h4⟩)
    · exact .inl h
    · exact .inr ⟨h1, by omega, h3, h4⟩
/-- No cut: nothing turns. -/
theorem bhI_skip {y : Nf} {cu : Nat → Bool} {bh : Nat → WSet} {P : List Mv} {x : Mv} {k : Nat} (h : BhI y cu bh P x k) (hk : cu k = false) : BhI y cu bh P x (k + 1) := fun c hc hu s hs => by
  rw [h c hc hu s hs]
  have hne : c ≠ k := fun e => by rw [e, hk] at hu; cases hu
  constructor
  · rintro (h | ⟨h1, h2, h3, h4⟩)
    · exact .inl h
    · exact .inr ⟨h1, by omega, h3, h4⟩
  · rintro (h | ⟨h1, h2, h3, h4⟩)
    · exact .inl h
    · exact .inr ⟨h1, by omega, h3, h4⟩
/-- The state is there: its closure is too. -/
theorem bhI_there {y : Nf} {cu : Nat → Bool} {bh : Nat → WSet} {P : List Mv} {x : Mv} {k t : Nat} (h : BhI y cu bh P x k) (hu0 : cu k = true) (hk : k < 256) (hx : x.to = (t : Int)) (ht : t < 2048) (hh : hasW (bh k) t = true) : BhI y cu bh P x (k + 1) := fun c hc hu s hs => by
  rw [h c hc hu s hs]
  constructor
  · rintro (h | ⟨h1, h2, h3, h4⟩)
    · exact .inl h
    · exact .inr ⟨h1, by omega, h3, h4⟩
  · rintro (h1 | ⟨h1, h2, h3, h4⟩)
    · exact .inl h1
    · by_cases e : c = k
      · subst e
        rcases (h c hc hu t ht).1 hh with ⟨m, hm, h5, h6, h7⟩ | ⟨_, h5, _⟩
        · refine .inl ⟨m, hm, h5, h6, rn_trans h7 ?_⟩
          exact rn_mono (fun a ha => by omega) h4
        · omega
      · exact .inr ⟨h1, by omega, h3, h4⟩
/-- The closure is put in. -/
theorem bhI_put {y : Nf} {cu : Nat → Bool} {bh : Nat → WSet} {P : List Mv} {x : Mv} {k t : Nat} {g : WSet} (h : BhI y cu bh P x k) (hlo : x.lo ≤ k) (hhi : k ≤ x.hi) (hx : x.to = (t : Int)) (hg : Msk g (Rn y (· = t))) : BhI y cu (fun d => if d = k then (fun i => bh k i ||| g i) else bh d) P x (k + 1) := fun c hc hu s hs => by
  by_cases e : c = k
  · subst e
    dsimp only
    rw [if_pos rfl, hasW_or, Bool.or_eq_true, h c hc hu s hs, hg s hs]
    constructor
    · rintro ((h | ⟨h1, h2, h3, h4⟩) | h)
      · exact .inl h
      · omega
      · exact .inr ⟨hlo, by omega, hhi, rn_mono (fun a ha => by omega) h⟩
    · rintro (h | ⟨h1, h2, h3, h4⟩)
      · exact .inl (.inl h)
      · exact .inr (rn_mono (fun a ha => by omega) h4)
  · dsimp only
    rw [if_neg e, h c hc hu s hs]
    constructor
    · rintro (h | ⟨h1, h2, h3, h4⟩)
      · exact .inl h
      · exact .inr ⟨h1, by omega, h3, h4⟩
    · rintro (h | ⟨h1, h2, h3, h4⟩)
      · exact .inl h
      · exact .inr ⟨h1, by omega, h3, h4⟩
/-- The closures known stay known. -/
theorem clN_put {y : Nf} {n v : Nat} {cl : Nat → WSet} {f : WSet} (h : ClN y n cl) (hf : Msk f (Rn y (· = v))) : ClN y n (fun u => if u = v then f else cl u) := fun u hu => by
  by_cases e : u = v
  · subst e
    left
    dsimp only
    rw [if_pos rfl]
    exact hf
  · dsimp only
    rw [if_neg e]
    exact h u hu

set_option maxRecDepth 100000 in
set_option maxHeartbeats 4000000 in
theorem lead_any (w0 w : World) (L : MkL) (cl : Nat → WSet) (cu : Nat → Bool) (bh : Nat → WSet) (all : List WSet) (sa : Option Addr) (sc : Nat) (P : List Mv) (lo hi t : Nat) (h : MkrAt w0 w L cl cu bh all sa sc) (hy : linkB L.y = true) (he : L.es.length ≤ 500000) (hi1 : ClN L.y L.n cl)
    (hlo : lo < 256) (hhi : hi < 256) (ht : t < L.n) (hb : BhA L.y cu bh P) :
    Calls Try.prog 78 #[.pointer (some ⟨L.mb, 0, none⟩), .agg #[.int .u8 (lo : Int), .int .u8 (hi : Int), .int .i64 (t : Int)]] w fun e w' => e = .returned (.tuple #[]) ∧ ∃ cl' bh', MkrAt w0 w' L cl' cu bh' all sa sc ∧ ClN L.y L.n cl' ∧ BhA L.y cu bh' (P ++ [⟨lo, hi, (t : Int)⟩]) ∧ KpM (fun g => g = L.cb ∨ g = L.mb) w w' := by
  have hn : L.n ≤ 2000 := by
    have := (link_n hy).2.1
    simpa using this
  have HB0 : Hid (BhI L.y cu bh P ⟨lo, hi, (t : Int)⟩ lo) := Lib.hid (bhI_start (x := ⟨lo, hi, (t : Int)⟩) hb)
  have hb1 : Below w.heap.size w (w.alloc (.cells #[.int .u8 (lo : Int), .int .u8 (hi : Int), .int .i64 (t : Int)] 57)) := (Below.refl _ w).alloc (Nat.le_refl _) _
  have HM0 := Lib.hid (h.below hb1)
  have HK0 : Hid (KpM (fun g => g = L.cb ∨ g = L.mb) w (w.alloc (.cells #[.int .u8 (lo : Int), .int .u8 (hi : Int), .int .i64 (t : Int)] 57))) := Lib.hid (KpM.ofB hb1)
  have Hy := Lib.hid hy
  have He := Lib.hid he
  have HI1 := Lib.hid hi1
  obtain ⟨B, hB⟩ : ∃ B, Hid (w.heap.size = B) := ⟨_, Lib.hid rfl⟩
  have hx : Hid (Blk (w.alloc (.cells #[.int .u8 (lo : Int), .int .u8 (hi : Int), .int .i64 (t : Int)] 57)) B 57 [.int .u8 (lo : Int), .int .u8 (hi : Int), .int .i64 (t : Int)]) := Lib.hid (by rw [← hB.out]; exact Blk.new w _ _)
  have HBm : Hid (L.cb ≠ B ∧ L.mb ≠ B) := Lib.hid (by
    have := h.cb.lt
    have := h.mkr.lt
    rw [← hB.out]
    omega)
  clear h hb1 hb hy he hi1
  go_enter Try.func78, Try.ntmps78
  go_wp2_with (fail)
  rw [hB.out]
  go_loopw [4] (fun iv wr => ∃ (k : Nat) (cl' : Nat → WSet) (bh' : Nat → WSet), k ≤ 256 ∧ iv = .int .i64 (k : Int) ∧ lo ≤ k ∧ Hid (MkrAt w0 wr L cl' cu bh' all sa sc) ∧ Hid (ClN L.y L.n cl') ∧ Hid (BhI L.y cu bh' P ⟨lo, hi, (t : Int)⟩ k) ∧ Hid (KpM (fun g => g = L.cb ∨ g = L.mb) w wr) ∧ wr.cell? ⟨B, 1, none⟩ = some (.int .u8 (hi : Int)) ∧ wr.cell? ⟨B, 2, none⟩ = some (.int .i64 (t : Int))) (fun iv _ => 256 - (intOf iv).toNat)
  case atStart =>
    rw [hB.out] at *
    refine ⟨lo, cl, bh, by omega, rfl, Nat.le_refl _, HM0, HI1, HB0, HK0, hx.out.cell 1, hx.out.cell 2⟩
  case round =>
    obtain ⟨k, cl', bh', hk, rfl, hlk, HM, HI, HB, HK, y1, y2⟩ := hrel
    have blB := World.block_lt_of_cell? _ _ y1
    have hkI0 : (0 : Int) ≤ (k : Int) := by omega
    by_cases hle : k ≤ hi
    · have hleI : (k : Int) ≤ (hi : Int) := by omega
      have hk6 : k < 256 := by omega
      have hkI : (k : Int) < 257 := by omega
      have hkI2 : (k : Int) < 256 := by omega
      have hMd := HM.out.below (Below.refl _ wr).drew
      have x8 := hMd.mkr.cell (j := 8 + k) (by omega)
      rw [mkG_cut L _ _ _ _ _ (by omega)] at x8
      have xl := hMd.mkr.lt
      have xld := HM.out.mkr.lt
      have HMd := Lib.hid hMd
      obtain ⟨q, hq⟩ : ∃ q, Hid (cu k = q) := ⟨_, Lib.hid rfl⟩
      rw [hq.out] at x8
      have HS4 : Hid (wr.drew.cell? ⟨L.mb, 8 + k, none⟩ = some (.bool q) ∧ wr.drew.cell? ⟨B, 2, none⟩ = some (.int .i64 (t : Int))) := Lib.hid ⟨x8, y2⟩
      have Hh := Lib.hid (has32_any wr.drew L.mb (265 + k * 32) (bh' k) t (by omega) (hMd.mkr.wd (isW_bh L _ _ _ _ _ k) (by omega)))
      obtain ⟨qh, hqh⟩ : ∃ q, Hid (hasW (bh' k) t = q) := ⟨_, Lib.hid rfl⟩
      rw [hqh.out] at Hh
      clear hMd x8
      cases q
      case false =>
        go_wp2_with (fail)
        refine wp_region_held_drew (S := fun w' => (w'.cell? ⟨L.mb, 8 + k, none⟩ = some (.bool false) ∧ w'.cell? ⟨B, 2, none⟩ = some (.int .i64 (t : Int)))) (by kernel_rfl) ?_ (fun hHeld => ?_)
        · exact HS4.out
        refine wpAnyH_take (i := 0) (v := ?_) (gatL gatZ) (by kernel_rfl) (by kernel_rfl) (by kernel_rfl) (fun _ _ _ h => h) (Or.inl ⟨by rfl, ?_⟩) (by assumption) ?_
        rotate_left
        · intro w hSw
          try dsimp only at hSw
          go_simp
          all_goals with_reducible rfl
        try simp only [Act.put, List.setIfInBounds_toArray, List.set_cons_zero, List.set_cons_succ]
        refine wpAnyH_take (i := 1) (v := ?_) (gatL (gatS gatZ)) (by kernel_rfl) (by kernel_rfl) (by kernel_rfl) (fun _ _ _ h => h) (Or.inl ⟨by rfl, ?_⟩) (by assumption) ?_
        rotate_left
        · intro w hSw
          try dsimp only at hSw
          go_simp
          all_goals with_reducible rfl
        try simp only [Act.put, List.setIfInBounds_toArray, List.set_cons_zero, List.set_cons_succ]
        refine wpAnyH_take (i := 2) (v := ?_) (gatL (gatS (gatS gatZ))) (by kernel_rfl) (by kernel_rfl) (by kernel_rfl) (fun _ _ _ h => h) (Or.inl ⟨by rfl, ?_⟩) (by assumption) ?_
        rotate_left
        · intro w hSw
          try dsimp only at hSw
          go_simp
          all_goals with_reducible rfl
        try simp only [Act.put, List.setIfInBounds_toArray, List.set_cons_zero, List.set_cons_succ]
        refine wpAnyH_take (i := 3) (v := ?_) (gatL (gatS (gatS (gatS gatZ)))) (by kernel_rfl) (by kernel_rfl) (by kernel_rfl) (fun _ _ _ h => h) (Or.inl ⟨by rfl, ?_⟩) (by assumption) ?_
        rotate_left
        · intro w hSw
          try dsimp only at hSw
          go_simp
          all_goals with_reducible rfl
        try simp only [Act.put, List.setIfInBounds_toArray, List.set_cons_zero, List.set_cons_succ]
        refine wpAnyH_take (i := 4) (v := ?_) (gatL (gatS (gatS (gatS (gatS gatZ))))) (by kernel_rfl) (by kernel_rfl) (by kernel_rfl) (fun _ _ _ h => h) (Or.inl ⟨by rfl, ?_⟩) (by assumption) ?_
        rotate_left
        · intro w hSw
          try dsimp only at hSw
          go_simp
          all_goals with_reducible rfl
        try simp only [Act.put, List.setIfInBounds_toArray, List.set_cons_zero, List.set_cons_succ]
        refine wpAnyH_take (i := 5) (v := ?_) (gatL (gatS (gatS (gatS (gatS (gatS gatZ)))))) (by kernel_rfl) (by kernel_rfl) (by kernel_rfl) (fun _ _ _ h => h) (Or.inl ⟨by rfl, ?_⟩) (by assumption) ?_
        rotate_left
        · intro w hSw
          try dsimp only at hSw
          go_simp
          all_goals with_reducible rfl
        try simp only [Act.put, List.setIfInBounds_toArray, List.set_cons_zero, List.set_cons_succ]
        refine wpAnyH_take (i := 6) (v := ?_) (gatL (gatS (gatS (gatS (gatS (gatS (gatS gatZ))))))) (by kernel_rfl) (by kernel_rfl) (by kernel_rfl) (fun _ _ _ h => h) (Or.inl ⟨by rfl, ?_⟩) (by assumption) ?_
        rotate_left
        · intro w hSw
          try dsimp only at hSw
          go_simp
          all_goals with_reducible rfl
        try simp only [Act.put, List.setIfInBounds_toArray, List.set_cons_zero, List.set_cons_succ]
        refine wpAnyH_take (i := 7) (v := undef) (gatL (gatS (gatS (gatS (gatS (gatS (gatS (gatS gatZ)))))))) (by kernel_rfl) (by kernel_rfl) (by kernel_rfl) (fun _ _ _ h => h) (Or.inr ⟨by rfl, rfl⟩) (by assumption) ?_
        try simp only [Act.put, List.setIfInBounds_toArray, List.set_cons_zero, List.set_cons_succ]
        refine wpAnyH_take (i := 8) (v := undef) (gatL (gatS (gatS (gatS (gatS (gatS (gatS (gatS (gatS gatZ))))))))) (by kernel_rfl) (by kernel_rfl) (by kernel_rfl) (fun _ _ _ h => h) (Or.inr ⟨by rfl, rfl⟩) (by assumption) ?_
        try simp only [Act.put, List.setIfInBounds_toArray, List.set_cons_zero, List.set_cons_succ]
        refine wpAnyH_take (i := 9) (v := undef) (gatL (gatS (gatS (gatS (gatS (gatS (gatS (gatS (gatS (gatS gatZ)))))))))) (by kernel_rfl) (by kernel_rfl) (by kernel_rfl) (fun _ _ _ h => h) (Or.inr ⟨by rfl, rfl⟩) (by assumption) ?_
        try simp only [Act.put, List.setIfInBounds_toArray, List.set_cons_zero, List.set_cons_succ]
        refine wpAnyH_take (i := 10) (v := undef) (gatL (gatS (gatS (gatS (gatS (gatS (gatS (gatS (gatS (gatS (gatS gatZ))))))))))) (by kernel_rfl) (by kernel_rfl) (by kernel_rfl) (fun _ _ _ h => h) (Or.inr ⟨by rfl, rfl⟩) (by assumption) ?_
        try simp only [Act.put, List.setIfInBounds_toArray, List.set_cons_zero, List.set_cons_succ]
        refine wpAnyH_take (i := 11) (v := undef) (gatL (gatS (gatS (gatS (gatS (gatS (gatS (gatS (gatS (gatS (gatS (gatS gatZ)))))))))))) (by kernel_rfl) (by kernel_rfl) (by kernel_rfl) (fun _ _ _ h => h) (Or.inr ⟨by rfl, rfl⟩) (by assumption) ?_
        try simp only [Act.put, List.setIfInBounds_toArray, List.set_cons_zero, List.set_cons_succ]
        refine wpAnyH_take (i := 12) (v := undef) (gatL (gatS (gatS (gatS (gatS (gatS (gatS (gatS (gatS (gatS (gatS (gatS (gatS gatZ))))))))))))) (by kernel_rfl) (by kernel_rfl) (by kernel_rfl) (fun _ _ _ h => h) (Or.inr ⟨by rfl, rfl⟩) (by assumption) ?_
        try simp only [Act.put, List.setIfInBounds_toArray, List.set_cons_zero, List.set_cons_succ]
        refine wpAnyH_take (i := 13) (v := undef) (gatL (gatS (gatS (gatS (gatS (gatS (gatS (gatS (gatS (gatS (gatS (gatS (gatS (gatS gatZ)))))))))))))) (by kernel_rfl) (by kernel_rfl) (by kernel_rfl) (fun _ _ _ h => h) (Or.inr ⟨by rfl, rfl⟩) (by assumption) ?_
        try simp only [Act.put, List.setIfInBounds_toArray, List.set_cons_zero, List.set_cons_succ]
        refine wpAnyH_take (i := 14) (v := undef) (gatL (gatS (gatS (gatS (gatS (gatS (gatS (gatS (gatS (gatS (gatS (gatS (gatS (gatS (gatS gatZ))))))))))))))) (by kernel_rfl) (by kernel_rfl) (by kernel_rfl) (fun _ _ _ h => h) (Or.inr ⟨by rfl, rfl⟩) (by assumption) ?_
        try simp only [Act.put, List.setIfInBounds_toArray, List.set_cons_zero, List.set_cons_succ]
        refine wpAnyH_take (i := 15) (v := undef) (gatL (gatS (gatS (gatS (gatS (gatS (gatS (gatS (gatS (gatS (gatS (gatS (gatS (gatS (gatS (gatS gatZ)))))))))))))))) (by kernel_rfl) (by kernel_rfl) (by kernel_rfl) (fun _ _ _ h => h) (Or.inr ⟨by rfl, rfl⟩) (by assumption) ?_
        try simp only [Act.put, List.setIfInBounds_toArray, List.set_cons_zero, List.set_cons_succ]
        refine wpAnyH_take (i := 16) (v := ?_) (gatL (gatS (gatS (gatS (gatS (gatS (gatS (gatS (gatS (gatS (gatS (gatS (gatS (gatS (gatS (gatS (gatS gatZ))))))))))))))))) (by kernel_rfl) (by kernel_rfl) (by kernel_rfl) (fun _ _ _ h => h) (Or.inl ⟨by rfl, ?_⟩) (by assumption) ?_
        rotate_left
        · intro w hSw
          try dsimp only at hSw
          go_simp
          all_goals with_reducible rfl
        try simp only [Act.put, List.setIfInBounds_toArray, List.set_cons_zero, List.set_cons_succ]
        refine wpAnyH_done (by kernel_rfl) ?_ _
        go_wp2_with (fail)
        exact ⟨⟨k + 1, cl', bh', by omega, by simp, by omega, HMd, HI, Lib.hid (bhI_skip HB.out hq.out), Lib.hid (HK.out.trans (KpM.ofB (Below.refl _ wr).drew)), y1, y2⟩, by simp [intOf]; omega⟩
      case true =>
        cases qh
        case true =>
          go_wp2_with (fail)
          refine wp_region_held_drew (S := fun w' => (w'.cell? ⟨L.mb, 8 + k, none⟩ = some (.bool true) ∧ w'.cell? ⟨B, 2, none⟩ = some (.int .i64 (t : Int)))) (by kernel_rfl) ?_ (fun hHeld => ?_)
          · exact HS4.out
          refine wpAnyH_take (i := 0) (v := ?_) (gatL gatZ) (by kernel_rfl) (by kernel_rfl) (by kernel_rfl) (fun _ _ _ h => h) (Or.inl ⟨by rfl, ?_⟩) (by assumption) ?_
          rotate_left
          · intro w hSw
            try dsimp only at hSw
            go_simp
            all_goals with_reducible rfl
          try simp only [Act.put, List.setIfInBounds_toArray, List.set_cons_zero, List.set_cons_succ]
          refine wpAnyH_take (i := 1) (v := ?_) (gatL (gatS gatZ)) (by kernel_rfl) (by kernel_rfl) (by kernel_rfl) (fun _ _ _ h => h) (Or.inl ⟨by rfl, ?_⟩) (by assumption) ?_
          rotate_left
          · intro w hSw
            try dsimp only at hSw
            go_simp
            all_goals with_reducible rfl
          try simp only [Act.put, List.setIfInBounds_toArray, List.set_cons_zero, List.set_cons_succ]
          refine wpAnyH_take (i := 2) (v := ?_) (gatL (gatS (gatS gatZ))) (by kernel_rfl) (by kernel_rfl) (by kernel_rfl) (fun _ _ _ h => h) (Or.inl ⟨by rfl, ?_⟩) (by assumption) ?_
          rotate_left
          · intro w hSw
            try dsimp only at hSw
            go_simp
            all_goals with_reducible rfl
          try simp only [Act.put, List.setIfInBounds_toArray, List.set_cons_zero, List.set_cons_succ]
          refine wpAnyH_take (i := 3) (v := ?_) (gatL (gatS (gatS (gatS gatZ)))) (by kernel_rfl) (by kernel_rfl) (by kernel_rfl) (fun _ _ _ h => h) (Or.inl ⟨by rfl, ?_⟩) (by assumption) ?_
          rotate_left
          · intro w hSw
            try dsimp only at hSw
            go_simp
            all_goals with_reducible rfl
          try simp only [Act.put, List.setIfInBounds_toArray, List.set_cons_zero, List.set_cons_succ]
          refine wpAnyH_take (i := 4) (v := ?_) (gatL (gatS (gatS (gatS (gatS gatZ))))) (by kernel_rfl) (by kernel_rfl) (by kernel_rfl) (fun _ _ _ h => h) (Or.inl ⟨by rfl, ?_⟩) (by assumption) ?_
          rotate_left
          · intro w hSw
            try dsimp only at hSw
            go_simp
            all_goals with_reducible rfl
          try simp only [Act.put, List.setIfInBounds_toArray, List.set_cons_zero, List.set_cons_succ]
          refine wpAnyH_take (i := 5) (v := ?_) (gatL (gatS (gatS (gatS (gatS (gatS gatZ)))))) (by kernel_rfl) (by kernel_rfl) (by kernel_rfl) (fun _ _ _ h => h) (Or.inl ⟨by rfl, ?_⟩) (by assumption) ?_
          rotate_left
          · intro w hSw
            try dsimp only at hSw
            go_simp
            all_goals with_reducible rfl
          try simp only [Act.put, List.setIfInBounds_toArray, List.set_cons_zero, List.set_cons_succ]
          refine wpAnyH_take (i := 6) (v := ?_) (gatL (gatS (gatS (gatS (gatS (gatS (gatS gatZ))))))) (by kernel_rfl) (by kernel_rfl) (by kernel_rfl) (fun _ _ _ h => h) (Or.inl ⟨by rfl, ?_⟩) (by assumption) ?_
          rotate_left
          · intro w hSw
            try dsimp only at hSw
            go_simp
            all_goals with_reducible rfl
          try simp only [Act.put, List.setIfInBounds_toArray, List.set_cons_zero, List.set_cons_succ]
          refine wpAnyH_take (i := 7) (v := ?_) (gatL (gatS (gatS (gatS (gatS (gatS (gatS (gatS gatZ)))))))) (by kernel_rfl) (by kernel_rfl) (by kernel_rfl) (fun _ _ _ h => h) (Or.inl ⟨by rfl, ?_⟩) (by assumption) ?_
          rotate_left
          · intro w hSw
            try dsimp only at hSw
            go_simp
            all_goals with_reducible rfl
          try simp only [Act.put, List.setIfInBounds_toArray, List.set_cons_zero, List.set_cons_succ]
          refine wpAnyH_take (i := 8) (v := ?_) (gatL (gatS (gatS (gatS (gatS (gatS (gatS (gatS (gatS gatZ))))))))) (by kernel_rfl) (by kernel_rfl) (by kernel_rfl) (fun _ _ _ h => h) (Or.inl ⟨by rfl, ?_⟩) (by assumption) ?_
          rotate_left
          · intro w hSw
            try dsimp only at hSw
            go_simp
            all_goals with_reducible rfl
          try simp only [Act.put, List.setIfInBounds_toArray, List.set_cons_zero, List.set_cons_succ]
          refine wpAnyH_take (i := 9) (v := ?_) (gatL (gatS (gatS (gatS (gatS (gatS (gatS (gatS (gatS (gatS gatZ)))))))))) (by kernel_rfl) (by kernel_rfl) (by kernel_rfl) (fun _ _ _ h => h) (Or.inl ⟨by rfl, ?_⟩) (by assumption) ?_
          rotate_left
          · intro w hSw
            try dsimp only at hSw
            go_simp
            all_goals with_reducible rfl
          try simp only [Act.put, List.setIfInBounds_toArray, List.set_cons_zero, List.set_cons_succ]
          refine wpAnyH_take (i := 10) (v := ?_) (gatL (gatS (gatS (gatS (gatS (gatS (gatS (gatS (gatS (gatS (gatS gatZ))))))))))) (by kernel_rfl) (by kernel_rfl) (by kernel_rfl) (fun _ _ _ h => h) (Or.inl ⟨by rfl, ?_⟩) (by assumption) ?_
          rotate_left
          · intro w hSw
            try dsimp only at hSw
            go_simp
            all_goals with_reducible rfl
          try simp only [Act.put, List.setIfInBounds_toArray, List.set_cons_zero, List.set_cons_succ]
          refine wpAnyH_take (i := 11) (v := ?_) (gatL (gatS (gatS (gatS (gatS (gatS (gatS (gatS (gatS (gatS (gatS (gatS gatZ)))))))))))) (by kernel_rfl) (by kernel_rfl) (by kernel_rfl) (fun _ _ _ h => h) (Or.inl ⟨by rfl, ?_⟩) (by assumption) ?_
          rotate_left
          · intro w hSw
            try dsimp only at hSw
            go_simp
            all_goals with_reducible rfl
          try simp only [Act.put, List.setIfInBounds_toArray, List.set_cons_zero, List.set_cons_succ]
          refine wpAnyH_take (i := 12) (v := ?_) (gatL (gatS (gatS (gatS (gatS (gatS (gatS (gatS (gatS (gatS (gatS (gatS (gatS gatZ))))))))))))) (by kernel_rfl) (by kernel_rfl) (by kernel_rfl) (fun _ _ _ h => h) (Or.inl ⟨by rfl, ?_⟩) (by assumption) ?_
          rotate_left
          · intro w hSw
            try dsimp only at hSw
            go_simp
            all_goals with_reducible rfl
          try simp only [Act.put, List.setIfInBounds_toArray, List.set_cons_zero, List.set_cons_succ]
          refine wpAnyH_take (i := 13) (v := ?_) (gatL (gatS (gatS (gatS (gatS (gatS (gatS (gatS (gatS (gatS (gatS (gatS (gatS (gatS gatZ)))))))))))))) (by kernel_rfl) (by kernel_rfl) (by kernel_rfl) (fun _ _ _ h => h) (Or.inl ⟨by rfl, ?_⟩) (by assumption) ?_
          rotate_left
          · intro w hSw
            try dsimp only at hSw
            go_simp
            all_goals with_reducible rfl
          try simp only [Act.put, List.setIfInBounds_toArray, List.set_cons_zero, List.set_cons_succ]
          refine wpAnyH_ready (rs := [14]) (by kernel_rfl) (by simp) ?_
          refine AllReadyH.cons (gatL (gatS (gatS (gatS (gatS (gatS (gatS (gatS (gatS (gatS (gatS (gatS (gatS (gatS (gatS gatZ))))))))))))))) (fun K hK => ?_) AllReadyH.nil
          go_simp
          go_at_call 53
          (with_reducible refine Hh.out.mono ?_)
          rintro e V4 ⟨rfl, hV4⟩
          subst V4
          try dsimp only
          refine hK.out _ _ ?_ (fun hHeld => ?_)
          · exact HS4.out
          clear hK K
          try simp only [Act.put, List.setIfInBounds_toArray, List.set_cons_zero, List.set_cons_succ]
          refine wpAnyH_take (i := 15) (v := ?_) (gatL (gatS (gatS (gatS (gatS (gatS (gatS (gatS (gatS (gatS (gatS (gatS (gatS (gatS (gatS (gatS gatZ)))))))))))))))) (by kernel_rfl) (by kernel_rfl) (by kernel_rfl) (fun _ _ _ h => h) (Or.inl ⟨by rfl, ?_⟩) (by assumption) ?_
          rotate_left
          · intro w hSw
            try dsimp only at hSw
            go_simp
            all_goals with_reducible rfl
          try simp only [Act.put, List.setIfInBounds_toArray, List.set_cons_zero, List.set_cons_succ]
          refine wpAnyH_take (i := 16) (v := ?_) (gatL (gatS (gatS (gatS (gatS (gatS (gatS (gatS (gatS (gatS (gatS (gatS (gatS (gatS (gatS (gatS (gatS gatZ))))))))))))))))) (by kernel_rfl) (by kernel_rfl) (by kernel_rfl) (fun _ _ _ h => h) (Or.inl ⟨by rfl, ?_⟩) (by assumption) ?_
          rotate_left
          · intro w hSw
            try dsimp only at hSw
            go_simp
            all_goals with_reducible rfl
          try simp only [Act.put, List.setIfInBounds_toArray, List.set_cons_zero, List.set_cons_succ]
          refine wpAnyH_done (by kernel_rfl) ?_ _
          go_wp2_with (fail)
          exact ⟨⟨k + 1, cl', bh', by omega, by simp, by omega, HMd, HI, Lib.hid (bhI_there HB.out hq.out hk6 rfl (by omega) hqh.out), Lib.hid (HK.out.trans (KpM.ofB (Below.refl _ wr).drew)), y1, y2⟩, by simp [intOf]; omega⟩
        case false =>
          have hM2 := HMd.out.below (Below.refl _ wr.drew).drew
          have Hc := Lib.hid (closure_any w0 wr.drew.drew L cl' cu bh' all sa sc t hM2 Hy.out He.out ht HI.out)
          have HS5 : Hid (wr.drew.drew.cell? ⟨B, 2, none⟩ = some (.int .i64 (t : Int))) := Lib.hid y2
          clear hM2
          go_wp2_with (fail)
          refine wp_region_held_drew (S := fun w' => (w'.cell? ⟨L.mb, 8 + k, none⟩ = some (.bool true) ∧ w'.cell? ⟨B, 2, none⟩ = some (.int .i64 (t : Int)))) (by kernel_rfl) ?_ (fun hHeld => ?_)
          · exact HS4.out
          refine wpAnyH_take (i := 0) (v := ?_) (gatL gatZ) (by kernel_rfl) (by kernel_rfl) (by kernel_rfl) (fun _ _ _ h => h) (Or.inl ⟨by rfl, ?_⟩) (by assumption) ?_
          rotate_left
          · intro w hSw
            try dsimp only at hSw
            go_simp
            all_goals with_reducible rfl
          try simp only [Act.put, List.setIfInBounds_toArray, List.set_cons_zero, List.set_cons_succ]
          refine wpAnyH_take (i := 1) (v := ?_) (gatL (gatS gatZ)) (by kernel_rfl) (by kernel_rfl) (by kernel_rfl) (fun _ _ _ h => h) (Or.inl ⟨by rfl, ?_⟩) (by assumption) ?_
          rotate_left
          · intro w hSw
            try dsimp only at hSw
            go_simp
            all_goals with_reducible rfl
          try simp only [Act.put, List.setIfInBounds_toArray, List.set_cons_zero, List.set_cons_succ]
          refine wpAnyH_take (i := 2) (v := ?_) (gatL (gatS (gatS gatZ))) (by kernel_rfl) (by kernel_rfl) (by kernel_rfl) (fun _ _ _ h => h) (Or.inl ⟨by rfl, ?_⟩) (by assumption) ?_
          rotate_left
          · intro w hSw
            try dsimp only at hSw
            go_simp
            all_goals with_reducible rfl
          try simp only [Act.put, List.setIfInBounds_toArray, List.set_cons_zero, List.set_cons_succ]
          refine wpAnyH_take (i := 3) (v := ?_) (gatL (gatS (gatS (gatS gatZ)))) (by kernel_rfl) (by kernel_rfl) (by kernel_rfl) (fun _ _ _ h => h) (Or.inl ⟨by rfl, ?_⟩) (by assumption) ?_
          rotate_left
          · intro w hSw
            try dsimp only at hSw
            go_simp
            all_goals with_reducible rfl
          try simp only [Act.put, List.setIfInBounds_toArray, List.set_cons_zero, List.set_cons_succ]
          refine wpAnyH_take (i := 4) (v := ?_) (gatL (gatS (gatS (gatS (gatS gatZ))))) (by kernel_rfl) (by kernel_rfl) (by kernel_rfl) (fun _ _ _ h => h) (Or.inl ⟨by rfl, ?_⟩) (by assumption) ?_
          rotate_left
          · intro w hSw
            try dsimp only at hSw
            go_simp
            all_goals with_reducible rfl
          try simp only [Act.put, List.setIfInBounds_toArray, List.set_cons_zero, List.set_cons_succ]
          refine wpAnyH_take (i := 5) (v := ?_) (gatL (gatS (gatS (gatS (gatS (gatS gatZ)))))) (by kernel_rfl) (by kernel_rfl) (by kernel_rfl) (fun _ _ _ h => h) (Or.inl ⟨by rfl, ?_⟩) (by assumption) ?_
          rotate_left
          · intro w hSw
            try dsimp only at hSw
            go_simp
            all_goals with_reducible rfl
          try simp only [Act.put, List.setIfInBounds_toArray, List.set_cons_zero, List.set_cons_succ]
          refine wpAnyH_take (i := 6) (v := ?_) (gatL (gatS (gatS (gatS (gatS (gatS (gatS gatZ))))))) (by kernel_rfl) (by kernel_rfl) (by kernel_rfl) (fun _ _ _ h => h) (Or.inl ⟨by rfl, ?_⟩) (by assumption) ?_
          rotate_left
          · intro w hSw
            try dsimp only at hSw
            go_simp
            all_goals with_reducible rfl
          try simp only [Act.put, List.setIfInBounds_toArray, List.set_cons_zero, List.set_cons_succ]
          refine wpAnyH_take (i := 7) (v := ?_) (gatL (gatS (gatS (gatS (gatS (gatS (gatS (gatS gatZ)))))))) (by kernel_rfl) (by kernel_rfl) (by kernel_rfl) (fun _ _ _ h => h) (Or.inl ⟨by rfl, ?_⟩) (by assumption) ?_
          rotate_left
          · intro w hSw
            try dsimp only at hSw
            go_simp
            all_goals with_reducible rfl
          try simp only [Act.put, List.setIfInBounds_toArray, List.set_cons_zero, List.set_cons_succ]
          refine wpAnyH_take (i := 8) (v := ?_) (gatL (gatS (gatS (gatS (gatS (gatS (gatS (gatS (gatS gatZ))))))))) (by kernel_rfl) (by kernel_rfl) (by kernel_rfl) (fun _ _ _ h => h) (Or.inl ⟨by rfl, ?_⟩) (by assumption) ?_
          rotate_left
          · intro w hSw
            try dsimp only at hSw
            go_simp
            all_goals with_reducible rfl
          try simp only [Act.put, List.setIfInBounds_toArray, List.set_cons_zero, List.set_cons_succ]
          refine wpAnyH_take (i := 9) (v := ?_) (gatL (gatS (gatS (gatS (gatS (gatS (gatS (gatS (gatS (gatS gatZ)))))))))) (by kernel_rfl) (by kernel_rfl) (by kernel_rfl) (fun _ _ _ h => h) (Or.inl ⟨by rfl, ?_⟩) (by assumption) ?_
          rotate_left
          · intro w hSw
            try dsimp only at hSw
            go_simp
            all_goals with_reducible rfl
          try simp only [Act.put, List.setIfInBounds_toArray, List.set_cons_zero, List.set_cons_succ]
          refine wpAnyH_take (i := 10) (v := ?_) (gatL (gatS (gatS (gatS (gatS (gatS (gatS (gatS (gatS (gatS (gatS gatZ))))))))))) (by kernel_rfl) (by kernel_rfl) (by kernel_rfl) (fun _ _ _ h => h) (Or.inl ⟨by rfl, ?_⟩) (by assumption) ?_
          rotate_left
          · intro w hSw
            try dsimp only at hSw
            go_simp
            all_goals with_reducible rfl
          try simp only [Act.put, List.setIfInBounds_toArray, List.set_cons_zero, List.set_cons_succ]
          refine wpAnyH_take (i := 11) (v := ?_) (gatL (gatS (gatS (gatS (gatS (gatS (gatS (gatS (gatS (gatS (gatS (gatS gatZ)))))))))))) (by kernel_rfl) (by kernel_rfl) (by kernel_rfl) (fun _ _ _ h => h) (Or.inl ⟨by rfl, ?_⟩) (by assumption) ?_
          rotate_left
          · intro w hSw
            try dsimp only at hSw
            go_simp
            all_goals with_reducible rfl
          try simp only [Act.put, List.setIfInBounds_toArray, List.set_cons_zero, List.set_cons_succ]
          refine wpAnyH_take (i := 12) (v := ?_) (gatL (gatS (gatS (gatS (gatS (gatS (gatS (gatS (gatS (gatS (gatS (gatS (gatS gatZ))))))))))))) (by kernel_rfl) (by kernel_rfl) (by kernel_rfl) (fun _ _ _ h => h) (Or.inl ⟨by rfl, ?_⟩) (by assumption) ?_
          rotate_left
          · intro w hSw
            try dsimp only at hSw
            go_simp
            all_goals with_reducible rfl
          try simp only [Act.put, List.setIfInBounds_toArray, List.set_cons_zero, List.set_cons_succ]
          refine wpAnyH_take (i := 13) (v := ?_) (gatL (gatS (gatS (gatS (gatS (gatS (gatS (gatS (gatS (gatS (gatS (gatS (gatS (gatS gatZ)))))))))))))) (by kernel_rfl) (by kernel_rfl) (by kernel_rfl) (fun _ _ _ h => h) (Or.inl ⟨by rfl, ?_⟩) (by assumption) ?_
          rotate_left
          · intro w hSw
            try dsimp only at hSw
            go_simp
            all_goals with_reducible rfl
          try simp only [Act.put, List.setIfInBounds_toArray, List.set_cons_zero, List.set_cons_succ]
          refine wpAnyH_ready (rs := [14]) (by kernel_rfl) (by simp) ?_
          refine AllReadyH.cons (gatL (gatS (gatS (gatS (gatS (gatS (gatS (gatS (gatS (gatS (gatS (gatS (gatS (gatS (gatS gatZ))))))))))))))) (fun K hK => ?_) AllReadyH.nil
          go_simp
          go_at_call 53
          (with_reducible refine Hh.out.mono ?_)
          rintro e V4 ⟨rfl, hV4⟩
          subst V4
          try dsimp only
          refine hK.out _ _ ?_ (fun hHeld => ?_)
          · exact HS4.out
          clear hK K
          try simp only [Act.put, List.setIfInBounds_toArray, List.set_cons_zero, List.set_cons_succ]
          refine wpAnyH_take (i := 15) (v := ?_) (gatL (gatS (gatS (gatS (gatS (gatS (gatS (gatS (gatS (gatS (gatS (gatS (gatS (gatS (gatS (gatS gatZ)))))))))))))))) (by kernel_rfl) (by kernel_rfl) (by kernel_rfl) (fun _ _ _ h => h) (Or.inl ⟨by rfl, ?_⟩) (by assumption) ?_
          rotate_left
          · intro w hSw
            try dsimp only at hSw
            go_simp
            all_goals with_reducible rfl
          try simp only [Act.put, List.setIfInBounds_toArray, List.set_cons_zero, List.set_cons_succ]
          refine wpAnyH_take (i := 16) (v := ?_) (gatL (gatS (gatS (gatS (gatS (gatS (gatS (gatS (gatS (gatS (gatS (gatS (gatS (gatS (gatS (gatS (gatS gatZ))))))))))))))))) (by kernel_rfl) (by kernel_rfl) (by kernel_rfl) (fun _ _ _ h => h) (Or.inl ⟨by rfl, ?_⟩) (by assumption) ?_
          rotate_left
          · intro w hSw
            try dsimp only at hSw
            go_simp
            all_goals with_reducible rfl
          try simp only [Act.put, List.setIfInBounds_toArray, List.set_cons_zero, List.set_cons_succ]
          refine wpAnyH_done (by kernel_rfl) ?_ _
          go_wp2_with (fail)
          refine wp_region_held_drew (S := fun w' => w'.cell? ⟨B, 2, none⟩ = some (.int .i64 (t : Int))) (by kernel_rfl) ?_ (fun hHeld => ?_)
          · exact HS5.out
          refine wpAnyH_take (i := 0) (v := ?_) (gatL gatZ) (by kernel_rfl) (by kernel_rfl) (by kernel_rfl) (fun _ _ _ h => h) (Or.inl ⟨by rfl, ?_⟩) (by assumption) ?_
          rotate_left
          · intro w hSw
            try dsimp only at hSw
            go_simp
            all_goals with_reducible rfl
          try simp only [Act.put, List.setIfInBounds_toArray, List.set_cons_zero, List.set_cons_succ]
          refine wpAnyH_take (i := 1) (v := ?_) (gatL (gatS gatZ)) (by kernel_rfl) (by kernel_rfl) (by kernel_rfl) (fun _ _ _ h => h) (Or.inl ⟨by rfl, ?_⟩) (by assumption) ?_
          rotate_left
          · intro w hSw
            try dsimp only at hSw
            go_simp
            all_goals with_reducible rfl
          try simp only [Act.put, List.setIfInBounds_toArray, List.set_cons_zero, List.set_cons_succ]
          refine wpAnyH_take (i := 2) (v := ?_) (gatL (gatS (gatS gatZ))) (by kernel_rfl) (by kernel_rfl) (by kernel_rfl) (fun _ _ _ h => h) (Or.inl ⟨by rfl, ?_⟩) (by assumption) ?_
          rotate_left
          · intro w hSw
            try dsimp only at hSw
            go_simp
            all_goals with_reducible rfl
          try simp only [Act.put, List.setIfInBounds_toArray, List.set_cons_zero, List.set_cons_succ]
          refine wpAnyH_take (i := 3) (v := ?_) (gatL (gatS (gatS (gatS gatZ)))) (by kernel_rfl) (by kernel_rfl) (by kernel_rfl) (fun _ _ _ h => h) (Or.inl ⟨by rfl, ?_⟩) (by assumption) ?_
          rotate_left
          · intro w hSw
            try dsimp only at hSw
            go_simp
            all_goals with_reducible rfl
          try simp only [Act.put, List.setIfInBounds_toArray, List.set_cons_zero, List.set_cons_succ]
          refine wpAnyH_take (i := 4) (v := ?_) (gatL (gatS (gatS (gatS (gatS gatZ))))) (by kernel_rfl) (by kernel_rfl) (by kernel_rfl) (fun _ _ _ h => h) (Or.inl ⟨by rfl, ?_⟩) (by assumption) ?_
          rotate_left
          · intro w hSw
            try dsimp only at hSw
            go_simp
            all_goals with_reducible rfl
          try simp only [Act.put, List.setIfInBounds_toArray, List.set_cons_zero, List.set_cons_succ]
          refine wpAnyH_take (i := 5) (v := ?_) (gatL (gatS (gatS (gatS (gatS (gatS gatZ)))))) (by kernel_rfl) (by kernel_rfl) (by kernel_rfl) (fun _ _ _ h => h) (Or.inl ⟨by rfl, ?_⟩) (by assumption) ?_
          rotate_left
          · intro w hSw
            try dsimp only at hSw
            go_simp
            all_goals with_reducible rfl
          try simp only [Act.put, List.setIfInBounds_toArray, List.set_cons_zero, List.set_cons_succ]
          refine wpAnyH_take (i := 6) (v := ?_) (gatL (gatS (gatS (gatS (gatS (gatS (gatS gatZ))))))) (by kernel_rfl) (by kernel_rfl) (by kernel_rfl) (fun _ _ _ h => h) (Or.inl ⟨by rfl, ?_⟩) (by assumption) ?_
          rotate_left
          · intro w hSw
            try dsimp only at hSw
            go_simp
            all_goals with_reducible rfl
          try simp only [Act.put, List.setIfInBounds_toArray, List.set_cons_zero, List.set_cons_succ]
          refine wpAnyH_take (i := 7) (v := ?_) (gatL (gatS (gatS (gatS (gatS (gatS (gatS (gatS gatZ)))))))) (by kernel_rfl) (by kernel_rfl) (by kernel_rfl) (fun _ _ _ h => h) (Or.inl ⟨by rfl, ?_⟩) (by assumption) ?_
          rotate_left
          · intro w hSw
            try dsimp only at hSw
            go_simp
            all_goals with_reducible rfl
          try simp only [Act.put, List.setIfInBounds_toArray, List.set_cons_zero, List.set_cons_succ]
          refine wpAnyH_ready (rs := [8]) (by kernel_rfl) (by simp) ?_
          refine AllReadyH.cons (gatL (gatS (gatS (gatS (gatS (gatS (gatS (gatS (gatS gatZ))))))))) (fun K hK => ?_) AllReadyH.nil
          go_simp
          go_at_call 32
          (with_reducible refine Hc.out.mono ?_)
          rintro e V5 ⟨rfl, f5, hf5, hM5, hK5⟩
          have HMs := Lib.hid hf5
          have HM5 := Lib.hid hM5
          have hcl5 := isW_cl (fun u => if u = t then f5 else cl' u) t
          try dsimp only at hcl5
          rw [if_pos rfl] at hcl5
          have Hj := Lib.hid (join_any V5 L.mb 8457 77 _ (265 + k * 32) (bh' k) L.cb (t * 32) f5 hM5.mkr (isW_bh L _ _ _ _ _ k) (by omega) (hM5.cb.wd hcl5 (by omega)) (blkA_ne hM5.cb hM5.mkr (by decide)))
          have HK5 := Lib.hid hK5
          clear hf5 hM5 hK5 hcl5
          try dsimp only
          refine hK.out _ _ ?_ (fun hHeld => ?_)
          · exact HK5.out.cell HS5.out (fun e => HBm.out.1 e.symm)
          clear hK K
          try simp only [Act.put, List.setIfInBounds_toArray, List.set_cons_zero, List.set_cons_succ]
          refine wpAnyH_ready (rs := [9]) (by kernel_rfl) (by simp) ?_
          refine AllReadyH.cons (gatL (gatS (gatS (gatS (gatS (gatS (gatS (gatS (gatS (gatS gatZ)))))))))) (fun K hK => ?_) AllReadyH.nil
          go_simp
          go_at_call 85
          (with_reducible refine Hj.out.mono ?_)
          rintro e V6 ⟨rfl, hB6, hg6⟩
          have HM6 := Lib.hid (HM5.out.mks hg6 (hB6.congr (fun j _ => ovr_bh L _ _ _ _ _ k _ j)))
          have HK6 : Hid (KpM (fun g => g = L.cb ∨ g = L.mb) wr V6) := Lib.hid (((KpM.ofB (Below.refl _ wr).drew.drew).trans (HK5.out.mono (fun g e => .inl e))).step hg6 (fun g e => .inl (.inr (by injection e with e; exact e.symm))))
          clear hB6 hg6
          try dsimp only
          refine hK.out _ _ ?_ (fun hHeld => ?_)
          · exact HK6.out.cell y2 (fun e => e.elim (fun e => HBm.out.1 e.symm) (fun e => HBm.out.2 e.symm))
          clear hK K
          try simp only [Act.put, List.setIfInBounds_toArray, List.set_cons_zero, List.set_cons_succ]
          refine wpAnyH_done (by kernel_rfl) ?_ _
          go_wp2_with (fail)
          exact ⟨⟨k + 1, _, _, by omega, by simp, by omega, HM6, Lib.hid (clN_put HI.out HMs.out), Lib.hid (bhI_put HB.out hlk hle rfl HMs.out), Lib.hid (HK.out.trans (HK6.out)), HK6.out.cell y1 (fun e => e.elim (fun e => HBm.out.1 e.symm) (fun e => HBm.out.2 e.symm)), HK6.out.cell y2 (fun e => e.elim (fun e => HBm.out.1 e.symm) (fun e => HBm.out.2 e.symm))⟩, by simp [intOf]; omega⟩
    · have hleI : ¬ (k : Int) ≤ (hi : Int) := by omega
      have HF := Lib.hid (bhI_end (bhI_over HB.out (show hi < k by omega)))
      go_wp2_with (fail)
      exact bodyPost_end (v := .tuple #[]) (by simp [results, Try.results78, go_sem]; try rfl) rfl ⟨rfl, cl', bh', HM.out, HI.out, HF.out, HK.out⟩
end Go.Proofs.Ytngbfjimmdkfeaa

