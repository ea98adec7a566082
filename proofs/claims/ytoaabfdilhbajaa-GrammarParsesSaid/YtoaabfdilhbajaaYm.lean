/- Layer 7: the reference's rule. -/
import Derived.Test.YtoaabfdilhbajaaYl
import Derived.Deep.LoopGhost
namespace Go.Proofs.Ytoaabfdilhbajaa
open Go.RowKit Go.Shelf

attribute [local go_sem] Oper.semAt_some

/-- What need does to the reader. -/
def NeedR (s x : ByteArray) (k : Nat) (bad : Bool) (k' : Nat) (bad' : Bool) : Prop :=
  (bad = true ∧ bad' = true ∧ k' = k) ∨ (bad = false ∧ bad' = true ∧ k' = nxA s k ∧ wordA s (nxA s k) ≠ x) ∨ (bad = false ∧ bad' = false ∧ wordA s (nxA s k) = x ∧ k' = nxA s k + x.size)
theorem needR_le {s x : ByteArray} {k k' : Nat} {bad bad' : Bool} (h : NeedR s x k bad k' bad') (hk : k ≤ s.size) : k' ≤ s.size := by
  have h1 := nxA_le hk
  have h2 := (wordA_size h1).2
  rcases h with ⟨_, _, rfl⟩ | ⟨_, _, rfl, _⟩ | ⟨_, _, h3, rfl⟩
  · exact hk
  · exact h1
  · rw [h3] at h2; exact h2
def NeedQ (w : World) (s x : ByteArray) (rb k : Nat) (bad : Bool) : Ending → World → Prop := fun e w' => ∃ k' bad', e = .returned (.tuple #[]) ∧ RBx w' rb s k' bad' ∧ w.grownBy w' (some rb) ∧ NeedR s x k bad k' bad'
theorem need_any (s x : ByteArray) (rb k : Nat) (bad : Bool) (w : World) (hk : k ≤ s.size) (hs : s.size ≤ 4096) (hb : RBx w rb s k bad) :
    Calls Try.prog 47 #[.pointer (some ⟨rb, 0, none⟩), .string x] w (NeedQ w s x rb k bad) := by
  cases bad
  · by_cases h : wordA s (nxA s k) = x
    · exact (need_yes s x rb k w hk hs hb h).mono (fun e w' ⟨h1, h2, h3⟩ => ⟨_, _, h1, h2, h3, .inr (.inr ⟨rfl, rfl, h, rfl⟩)⟩)
    · exact (need_no s x rb k w hk hs hb h).mono (fun e w' ⟨h1, h2, h3⟩ => ⟨_, _, h1, h2, h3, .inr (.inl ⟨rfl, rfl, rfl, h⟩)⟩)
  · exact (need_bad s x rb k w hb).mono (fun e w' ⟨h1, h2, h3⟩ => ⟨_, _, h1, h2, h3, .inl ⟨rfl, rfl, rfl⟩⟩)
/-- What is known of the end, with the reader in a rule's alternatives. -/
def SemR (s : ByteArray) (A : List Rl × Nat × Int) (k0 : Nat) (rs : List Rl) (n : ByteArray) (ds : List (List ByteArray)) (k : Nat) (bad : Bool) : Prop :=
  (bad = true → A = ([], k, 70) ∧ nxA s k = k) ∧ (bad = false → k0 < k ∧ ansA s A ⟨rs ++ [(n, ds)], 2⟩ k)
section
variable {s : ByteArray} {A : List Rl × Nat × Int} {k0 k k' : Nat} {rs : List Rl} {n : ByteArray} {ds : List (List ByteArray)} {bad bad' : Bool}
theorem SemR.start (h : ansA s A ⟨rs ++ [(n, [])], 1⟩ k) (h0 : k0 < k) (hk : k ≤ s.size) (hn : NeedR s ⟨#[61]⟩ k false k' bad') : SemR s A k0 rs n [[]] k' bad' := by
  have hkn := le_nxA s k
  rcases hn with ⟨e, _⟩ | ⟨_, rfl, rfl, hx⟩ | ⟨_, rfl, hx, rfl⟩
  · cases e
  · refine ⟨fun _ => ⟨?_, nxA_nxA s k⟩, fun e => (by cases e)⟩
    refine h.none_ hk ?_ (.inl (by simp))
    unfold takeP
    rw [if_neg (by simp), if_neg (fun e => hx (ByteArray.ext (Array.ext' e.2))), if_neg (by simp), if_neg (by simp), if_neg (by simp)]
  · refine ⟨fun e => (by cases e), fun _ => ⟨?_, ?_⟩⟩
    · show k0 < nxA s k + 1; omega
    · have := (h.some_ (by rw [hx]; exact take_eq)).2
      rw [hx] at this
      exact this
theorem SemR.name {aa : List (List ByteArray)} {a : List ByteArray} (h : SemR s A k0 rs n (aa ++ [a]) k false) (hn : nameB (wordA s (nxA s k)) = true) : SemR s A k0 rs n (aa ++ [a ++ [wordA s (nxA s k)]]) (nxA s k + (wordA s (nxA s k)).size) false ∧ k < nxA s k + (wordA s (nxA s k)).size := by
  have hkn := le_nxA s k
  obtain ⟨h1, h2⟩ := h.2 rfl
  obtain ⟨h3, h4⟩ := h2.some_ (take_word hn)
  have h5 : 0 < (wordA s (nxA s k)).size := by
    rcases Nat.eq_zero_or_pos (wordA s (nxA s k)).size with e | e
    · exfalso
      have : wordA s (nxA s k) = ⟨#[]⟩ := by
        apply ByteArray.ext
        apply Array.eq_empty_of_size_eq_zero
        exact e
      exact wordA_ne h3 this
    · exact e
  exact ⟨⟨fun e => (by cases e), fun _ => ⟨by omega, h4⟩⟩, by omega⟩
theorem SemR.here (h : SemR s A k0 rs n ds k bad) : SemR s A k0 rs n ds (nxA s k) bad := by
  have hkn := le_nxA s k
  refine ⟨fun e => ?_, fun e => ⟨by have := (h.2 e).1; omega, (h.2 e).2.here⟩⟩
  obtain ⟨h1, h2⟩ := h.1 e
  rw [h2]; exact ⟨h1, h2⟩
theorem SemR.bar (h : SemR s A k0 rs n ds k false) (hn : wordA s (nxA s k) = ⟨#[124]⟩) : SemR s A k0 rs n (ds ++ [[]]) (nxA s k + 1) false ∧ nxA s k + 1 ≤ s.size := by
  have hkn := le_nxA s k
  obtain ⟨h1, h2⟩ := h.2 rfl
  obtain ⟨h3, h4⟩ := h2.some_ (by rw [hn]; exact take_bar)
  rw [hn] at h4
  exact ⟨⟨fun e => (by cases e), fun _ => ⟨by omega, h4⟩⟩, by omega⟩
theorem SemR.semi (h : SemR s A k0 rs n ds k bad) (hk : k ≤ s.size) (hw : bad = false → nameB (wordA s (nxA s k)) = false ∧ wordA s (nxA s k) ≠ ⟨#[124]⟩) (hn : NeedR s ⟨#[59]⟩ k bad k' bad') :
    (bad' = true → A = ([], k', 70)) ∧ (bad' = false → k0 < k' ∧ ansA s A ⟨rs ++ [(n, ds)], 0⟩ k') := by
  have hkn := le_nxA s k
  rcases hn with ⟨rfl, rfl, rfl⟩ | ⟨rfl, rfl, rfl, hx⟩ | ⟨rfl, rfl, hx, rfl⟩
  · exact ⟨fun _ => (h.1 rfl).1, fun e => (by cases e)⟩
  · obtain ⟨h1, h2⟩ := hw rfl
    refine ⟨fun _ => ?_, fun e => (by cases e)⟩
    refine (h.2 rfl).2.none_ hk ?_ (.inl (by simp))
    unfold takeP
    rw [if_neg (by simp), if_neg (by simp), if_neg (by rw [h1]; simp), if_neg (fun e => h2 (ByteArray.ext (Array.ext' e.2))), if_neg (fun e => hx (ByteArray.ext (Array.ext' e.2)))]
  · refine ⟨fun e => (by cases e), fun _ => ⟨?_, ?_⟩⟩
    · show k0 < nxA s k + 1; have := (h.2 rfl).1; omega
    · have := ((h.2 rfl).2.some_ (by rw [hx]; exact take_semi)).2
      rw [hx] at this
      exact this
end
def RulQ (w : World) (s : ByteArray) (rb k0 : Nat) (A : List Rl × Nat × Int) (rs : List Rl) : Ending → World → Prop := fun e w' =>
  ∃ (r : RlD) (k : Nat) (bad : Bool), e = .returned (.agg #[.string r.n, .slice r.a r.ds.length r.c]) ∧ RdyR w' r ∧ w.grownBy w' (some rb) ∧ RBx w' rb s k bad ∧ k ≤ s.size ∧ (bad = true → A = ([], k, 70)) ∧ (bad = false → k0 < k ∧ ansA s A ⟨rs ++ [r.p], 0⟩ k)

set_option maxRecDepth 100000 in
set_option maxHeartbeats 4000000 in
theorem rule_any (s : ByteArray) (rb k0 : Nat) (w : World) (A : List Rl × Nat × Int) (rs : List Rl) (hk : k0 ≤ s.size) (hs : s.size ≤ 4096) (hb : RBx w rb s k0 false) (hA : ansA s A ⟨rs, 0⟩ k0) (hne : rs = [] ∨ nxA s k0 < s.size) :
    Calls Try.prog 32 #[.pointer (some ⟨rb, 0, none⟩)] w (RulQ w s rb k0 A rs) := by
  have hrl := hb.lt
  have hb0 : RBx (w.alloc (.cells #[.string ⟨#[]⟩, .slice none 0 0] 40)) rb s k0 false := hb.alloc _
  have hr0 := Blk.new w 40 #[.string ⟨#[]⟩, .slice none 0 0]
  have hg0 : w.grownBy (w.alloc (.cells #[.string ⟨#[]⟩, .slice none 0 0] 40)) (some rb) := World.grownBy_alloc w _ _
  have Hg0 := Lib.hid hg0
  have HA := Lib.hid hA
  have Hne := Lib.hid hne
  have HN1 := Lib.hid (fun k bad V hk h => need_any s ⟨#[61]⟩ rb k bad V hk hs h)
  have Hhere := Lib.hid (fun k bad V hk h => here_any s rb k bad V hk hs h)
  have Hno := Lib.hid (fun k bad V hk h hn => nameR_no s rb k bad V hk hs h hn)
  have Hyes := Lib.hid (fun k V hk h hn => nameR_yes s rb k V hk hs h hn)
  clear hg0 hA hne
  go_enter Try.func32, Try.ntmps32
  go_wp2_with (fail)
  by_cases hn : nameB (wordA s (nxA s k0)) = true
  case neg =>
    have hn2 : nameB (wordA s (nxA s k0)) = false := by simpa using hn
    have hp := nxA_le hk
    have HF : Hid (A = ([], nxA s k0, 70)) := Lib.hid (by
      have ht : takeP ⟨rs, 0⟩ (wordA s (nxA s k0)) = none := by
        unfold takeP
        rw [if_neg (by rw [hn2]; simp), if_neg (by simp), if_neg (by simp), if_neg (by simp), if_neg (by simp)]
      rcases Hne.out with e | h
      · exact HA.out.none_ hk ht (.inr e)
      · exact HA.out.stop hk h ht)
    refine (Hno.out k0 false _ hk hb0 (.inr hn2)).mono ?_
    rintro e w1 ⟨rfl, hb1, hg1⟩
    obtain ⟨tR, htR⟩ : ∃ q, Hid (w.heap.size = q) := ⟨_, Lib.hid rfl⟩
    have hlR : rb < tR := by rw [← htR.out]; exact hrl
    rw [htR.out] at hr0
    have hr1 : Blk w1 tR 40 [.string ⟨#[]⟩, .slice none 0 0] := hr0.kept hg1 (fun e => by injection e with e; omega)
    have HO : Hid (Blk (((w1.setCell ⟨rb, 2, none⟩ (.bool true)).setCell ⟨tR, 0, none⟩ (.string ⟨#[]⟩)).setCell ⟨tR, 1, none⟩ (.slice none 0 0)) tR 40 [.string ⟨#[]⟩, .slice none 0 0] ∧ w.grownBy (((w1.setCell ⟨rb, 2, none⟩ (.bool true)).setCell ⟨tR, 0, none⟩ (.string ⟨#[]⟩)).setCell ⟨tR, 1, none⟩ (.slice none 0 0)) (some rb) ∧ RBx (((w1.setCell ⟨rb, 2, none⟩ (.bool true)).setCell ⟨tR, 0, none⟩ (.string ⟨#[]⟩)).setCell ⟨tR, 1, none⟩ (.slice none 0 0)) rb s (nxA s k0) true) := Lib.hid
      ⟨((hr1.setOther (by omega) _).set 0 _).set 1 _, grownBy_trans (grownBy_trans (grown_self (grown_self Hg0.out hg1) (grownBy_set w1 rb 2 _)) (grownBy_set _ tR 0 _) (fun i e => by cases e; exact .inr (by rw [htR.out]; exact Nat.le_refl _))) (grownBy_set _ tR 1 _) (fun i e => by cases e; exact .inr (by rw [htR.out]; exact Nat.le_refl _)), ((hb1.set 2 _).setOther (by omega) _).setOther (by omega) _⟩
    have y2 := hb1.cell 2
    have yl := hb1.lt
    have yf := hb1.frozen 2
    have z0 := hr1.cell 0
    have z1 := hr1.cell 1
    have zl := hr1.lt
    have zf0 := hr1.frozen 0
    have zf1 := hr1.frozen 1
    have hne1 : rb ≠ tR := by omega
    have hne2 : tR ≠ rb := by omega
    simp only [List.getElem?_cons_zero, List.getElem?_cons_succ] at y2 z0 z1
    generalize nxA s k0 = p at hp HF HO hb1
    clear hb0 hr0 hb1 hg1 hr1 hn hn2 Hg0
    simp only [htR.out]
    go_wp2_with (fail)
    generalize World.setCell (World.setCell (World.setCell w1 _ _) _ _) _ _ = w7 at HO ⊢
    have q0 := HO.out.1.cell 0
    have q1 := HO.out.1.cell 1
    simp only [List.getElem?_cons_zero, List.getElem?_cons_succ] at q0 q1
    exact bodyPost_ret (v := .agg #[.string ⟨#[]⟩, .slice none 0 0]) (by simp [results, Try.results32, go_sem, q0, q1]; try first | rfl | assumption | omega) rfl ⟨⟨⟨#[]⟩, [], none, 0⟩, p, true, rfl, ⟨World.ownsRow_nil _ _ _ _, fun d hd => (by cases hd)⟩, HO.out.2.1, HO.out.2.2, hp, fun _ => HF.out, fun e => (by cases e)⟩
  case pos =>
  have hz := (wordA_size (nxA_le hk)).2
  have hkn := le_nxA s k0
  have ht : takeP ⟨rs, 0⟩ (wordA s (nxA s k0)) = some ⟨rs ++ [(wordA s (nxA s k0), [])], 1⟩ := take_nm hn
  obtain ⟨hnx, hA1⟩ := HA.out.some_ ht
  have hwp : 0 < (wordA s (nxA s k0)).size := by
    rcases Nat.eq_zero_or_pos (wordA s (nxA s k0)).size with e | e
    · exact absurd (ByteArray.ext (Array.eq_empty_of_size_eq_zero e)) (wordA_ne hnx)
    · exact e
  refine (Hyes.out k0 _ hk hb0 hn).mono ?_
  rintro e w1 ⟨rfl, hb1, hg1⟩
  have HA1 := Lib.hid hA1
  obtain ⟨k1, hk1⟩ : ∃ q, Hid (nxA s k0 + (wordA s (nxA s k0)).size = q) := ⟨_, Lib.hid rfl⟩
  rw [hk1.out] at HA1 hb1 hz
  have hk01 : k0 < k1 := by rw [← hk1.out]; omega
  generalize wordA s (nxA s k0) = n at HA1 hk1 ⊢
  obtain ⟨tR, htR⟩ : ∃ q, Hid (w.heap.size = q) := ⟨_, Lib.hid rfl⟩
  have hlR : rb < tR := by rw [← htR.out]; exact hrl
  rw [htR.out] at hr0
  have hr1 : Blk w1 tR 40 [.string ⟨#[]⟩, .slice none 0 0] := hr0.kept hg1 (fun e => by injection e with e; omega)
  have hs1 := hg1.size
  have hs0 : w.heap.size + 1 ≤ w1.heap.size := by
    have := hg1.size
    rw [World.size_alloc] at this
    exact this
  have hQ1 : RuSt w rb tR w1.heap.size s (w1.alloc (.cells #[.string n, .slice none 0 0] 40)) k1 false ⟨n, [], none, 0⟩ ⟨[], none, 0⟩ :=
    ⟨grownBy_trans (grown_self Hg0.out hg1) (World.grownBy_alloc w1 _ none) (fun i e => by cases e), hb1.alloc _, hr1.alloc _, Blk.new w1 40 #[.string n, .slice none 0 0], by rw [htR.out]; exact Nat.le_refl _, by omega, by have := htR.out; omega,
      w.heap.size, Nat.le_refl _, by rw [World.size_alloc]; omega, World.ownsRow_nil _ _ _ _, fun e he => (by cases he), World.ownsRow_nil _ _ _ _⟩
  have HQ1 := Lib.hid hQ1
  clear hb0 hr0 hb1 hg1 hr1 hn hs1 hA1 ht hnx hwp
  simp only [htR.out]
  go_wp2_with (fail)
  obtain ⟨tb, htb⟩ : ∃ q, Hid (w1.heap.size = q) := ⟨_, Lib.hid rfl⟩
  have hnb : tR ≠ tb := by have := htb.out; have := htR.out; omega
  have hlb : rb < tb := by have := htb.out; omega
  rw [htb.out] at HQ1
  simp only [htb.out]
  generalize World.alloc w1 _ = w2 at HQ1 ⊢
  refine (HN1.out k1 false _ hz HQ1.out.box).mono ?_
  rintro e w3 ⟨k2, bad2, rfl, hb3, hg3, hn3⟩
  have HS2 := Lib.hid (SemR.start HA1.out hk01 hz hn3)
  have hk2 := needR_le hn3 hz
  have HQ3 := Lib.hid (HQ1.out.rd hg3 hb3)
  clear hb3 hg3 hn3 HQ1 hQ1
  have HN59 := Lib.hid (fun k bad V hk h => need_any s ⟨#[59]⟩ rb k bad V hk hs h)
  go_wp2_with (fail)
  go_loopg [6] (s.size + 1 - k2) (fun m av wr => ∃ (k : Nat) (bad : Bool) (r : RlD), m = s.size + 1 - k ∧ k ≤ s.size ∧ Hid (RuSt w rb tR tb s wr k bad r ⟨[], none, 0⟩) ∧ Hid (SemR s A k0 rs n (r.ds.map AltD.l ++ [[]]) k bad) ∧ Hid (r.n = n) ∧ r.ds.length ≤ k)
  case atStart => exact ⟨k2, bad2, ⟨n, [], none, 0⟩, rfl, hk2, HQ3, HS2, Lib.hid rfl, Nat.zero_le _⟩
  case round =>
    obtain ⟨k, bad, r, rfl, hk, HQ, HS, HRn, hrd⟩ := hrel
    clear HQ3 HS2
    go_wp2_with (fail)
    obtain ⟨wo, hwo⟩ : ∃ wo : World, Hid (wr = wo) := ⟨_, Lib.hid rfl⟩
    rw [hwo.out] at HQ ⊢
    clear hwo
    go_loopg [6] (s.size + 1 - k) (fun m av wr => ∃ (k' : Nat) (d : AltD), m = s.size + 1 - k' ∧ k ≤ k' ∧ k' ≤ s.size ∧ av = .slice d.a d.l.length d.c ∧ Hid (RuSt w rb tR tb s wr k' bad r d) ∧ Hid (SemR s A k0 rs n (r.ds.map AltD.l ++ [d.l]) k' bad) ∧ d.l.length ≤ k')
    case atStart => exact ⟨k, ⟨[], none, 0⟩, rfl, Nat.le_refl _, hk, rfl, HQ, HS, Nat.zero_le _⟩
    case round =>
      obtain ⟨k', d, rfl, hkk, hk', rfl, HQ', HS', hdl⟩ := hrel
      clear HQ HS
      have hkn := le_nxA s k'
      by_cases hnm : bad = false ∧ nameB (wordA s (nxA s k')) = true
      case pos =>
        obtain ⟨rfl, hnm⟩ := hnm
        have hz := (wordA_size (nxA_le hk')).2
        obtain ⟨hS2, hlt⟩ := HS'.out.name hnm
        have HS2 := Lib.hid hS2
        have Hc := Lib.hid (Hyes.out k' wr hk' HQ'.out.box hnm)
        obtain ⟨k3, hk3⟩ : ∃ q, Hid (nxA s k' + (wordA s (nxA s k')).size = q) := ⟨_, Lib.hid rfl⟩
        rw [hk3.out] at HS2 Hc hz hlt
        generalize wordA s (nxA s k') = W at HS2 Hc
        clear hnm hS2
        go_wp2_with (fail)
        refine Hc.out.mono ?_
        rintro e w4 ⟨rfl, hb4, hg4⟩
        obtain ⟨a', c', w', hrun, hR⟩ := (HQ'.out.rd hg4 hb4).name W 37 (by omega)
        have HR := Lib.hid hR
        have Hrun := Lib.hid hrun
        obtain ⟨DL, hDL⟩ : ∃ q, Hid (d.l.length = q) := ⟨_, Lib.hid rfl⟩
        have hDD : Hid ((d.l ++ [W]).length = DL + 1) := Lib.hid (by rw [List.length_append, hDL.out]; rfl)
        rw [hDL.out] at Hrun hdl
        simp only [hDL.out]
        clear hb4 hg4 hrun hR HQ' HS' Hc
        go_wp2_with (at_builtin; refine wpList_append_run rfl _ _ 37 37 rfl _ _ _ _ rfl rfl Hrun.out ?_)
        go_roundg (s.size + 1 - k3)
        case measure => omega
        case rel => exact ⟨k3, ⟨d.l ++ [W], a', c'⟩, rfl, by omega, hz, by rw [hDD.out], HR, HS2, by show (d.l ++ [W]).length ≤ k3; rw [hDD.out]; omega⟩
      case neg =>
        have hno : bad = true ∨ nameB (wordA s (nxA s k')) = false := by
          cases bad
          · right; simpa using hnm
          · left; rfl
        have Hw : Hid (bad = false → nameB (wordA s (nxA s k')) = false) := Lib.hid (fun e => by rcases hno with h | h; (rw [e] at h; cases h); exact h)
        have Hc := Lib.hid (Hno.out k' bad wr hk' HQ'.out.box hno)
        have HS3 := Lib.hid HS'.out.here
        have hp := nxA_le hk'
        have Hpp := Lib.hid (nxA_nxA s k')
        obtain ⟨p, hpe⟩ : ∃ q, Hid (nxA s k' = q) := ⟨_, Lib.hid rfl⟩
        rw [hpe.out] at Hw Hc HS3 hp Hpp hkn
        clear hnm hno
        go_wp2_with (fail)
        refine Hc.out.mono ?_
        rintro e w4 ⟨rfl, hb4, hg4⟩
        have HQ4 := Lib.hid (HQ'.out.rd hg4 hb4)
        clear hb4 hg4 HQ' HS' Hc
        obtain ⟨a', c', w', hrun, htb5, hbx5, hR⟩ := HQ4.out.alt 38 (by omega)
        have HR := Lib.hid hR
        have Hrun := Lib.hid hrun
        have HSR : Hid (SemR s A k0 rs n ((r.ds ++ [d]).map AltD.l) p bad) := Lib.hid (by rw [List.map_append]; exact HS3.out)
        obtain ⟨RN, hRN⟩ : ∃ q : RlD, Hid ((⟨r.n, r.ds ++ [d], a', c'⟩ : RlD) = q) := ⟨_, Lib.hid rfl⟩
        have hRd : Hid (r.ds ++ [d] = RN.ds) := Lib.hid (by rw [← hRN.out])
        have hRL : Hid (RN.ds.length = r.ds.length + 1) := Lib.hid (by rw [← hRd.out]; simp)
        have hrn := HRn.out
        have hRn : Hid (RN.n = n) := Lib.hid (by rw [← hRN.out]; exact hrn)
        rw [hRd.out] at HSR
        rw [hRN.out] at HR
        have x0 := HQ4.out.tbox.cell 0
        have x1 := HQ4.out.tbox.cell 1
        have xl := HQ4.out.tbox.lt
        have y1 := htb5.cell 1
        have yl := htb5.lt
        have yf := htb5.frozen 1
        have b2 := hbx5.cell 2
        have bl := hbx5.lt
        simp only [List.getElem?_cons_zero, List.getElem?_cons_succ] at x0 x1 y1 b2
        have hne1 : rb ≠ tb := by omega
        have hne2 : tb ≠ rb := by omega
        obtain ⟨L, hL⟩ : ∃ q, Hid (r.ds.length = q) := ⟨_, Lib.hid rfl⟩
        obtain ⟨DL, hDL⟩ : ∃ q, Hid (d.l.length = q) := ⟨_, Lib.hid rfl⟩
        rw [hL.out] at x1 y1 Hrun HR hRL hrd
        rw [hDL.out] at Hrun
        simp only [hDL.out]
        clear hrun hR hrn htb5 hbx5 HS3 HQ4 hRN hRd
        cases bad
        case true =>
          clear Hw
          go_wp2_with (at_builtin; refine wpList_append_run rfl _ _ 38 38 rfl _ _ _ _ rfl rfl Hrun.out ?_)
          generalize World.setCell w' _ _ = w5 at HR ⊢
          clear x0 x1 xl y1 yl yf b2 bl Hrun
          have hQ := HR.out
          refine (HN59.out p true w5 hp hQ.box).mono ?_
          rintro e w6 ⟨k6, bad6, rfl, hb6, hg6, hn6⟩
          have HQ6 := Lib.hid (hQ.rd hg6 hb6)
          have HS6 := Lib.hid (HSR.out.semi hp (fun e => by cases e) hn6)
          have hk6 : k6 ≤ s.size := needR_le hn6 hp
          have HO := Lib.hid (HQ6.out.out (.string RN.n) (.slice RN.a RN.ds.length RN.c))
          have HP6 : Hid (RN.p = (n, RN.ds.map AltD.l)) := Lib.hid (by rw [← hRn.out]; rfl)
          have y0 := HQ6.out.tbox.cell 0
          have y1 := HQ6.out.tbox.cell 1
          have yl := HQ6.out.tbox.lt
          have z0 := HQ6.out.res.cell 0
          have z1 := HQ6.out.res.cell 1
          have zl := HQ6.out.res.lt
          have zf0 := HQ6.out.res.frozen 0
          have zf1 := HQ6.out.res.frozen 1
          simp only [List.getElem?_cons_zero, List.getElem?_cons_succ] at y0 y1 z0 z1
          clear hb6 hg6 hn6 hQ
          clear hRL
          obtain ⟨RL, hRL⟩ : ∃ RL, Hid (RN.ds.length = RL) := ⟨_, Lib.hid rfl⟩
          rw [hRL.out] at y1 HO
          go_wp2_with (fail)
          generalize World.setCell (World.setCell w6 _ _) _ _ = w7 at HO ⊢
          have q0 := HO.out.1.cell 0
          have q1 := HO.out.1.cell 1
          simp only [List.getElem?_cons_zero, List.getElem?_cons_succ] at q0 q1
          exact bodyPost_ret (v := .agg #[.string RN.n, .slice RN.a RL RN.c]) (by simp [results, Try.results32, go_sem, q0, q1]; try first | rfl | assumption | omega) rfl ⟨RN, k6, bad6, by rw [hRL.out], HO.out.2.1, HO.out.2.2.1, HO.out.2.2.2, hk6, HS6.out.1, fun h => by rw [HP6.out]; exact HS6.out.2 h⟩
        case false =>
          go_wp2_with (at_builtin; refine wpList_append_run rfl _ _ 38 38 rfl _ _ _ _ rfl rfl Hrun.out ?_)
          generalize World.setCell w' _ _ = w5 at HR ⊢
          clear x0 x1 xl y1 yl yf b2 bl Hrun
          have hh := Hhere.out p false w5 hp HR.out.box
          rw [Hpp.out] at hh
          have Hh := Lib.hid hh
          have HW : Hid (nameB (wordA s p) = false) := Lib.hid (by first | exact Hw.out rfl | exact Hw.out trivial | simpa using Hw.out)
          clear Hw hh
          refine Hh.out.mono ?_
          rintro e w6 ⟨rfl, hb6, hg6⟩
          have HQ6 := Lib.hid (HR.out.rd hg6 hb6)
          clear hb6 hg6 HR Hh
          by_cases hW : wordA s p = ⟨#[124]⟩
          · have hpn : nxA s p = p := Hpp.out
            obtain ⟨hS7, hk7⟩ := HSR.out.bar (by rw [hpn]; exact hW)
            rw [hpn] at hS7 hk7
            have HS7 := Lib.hid hS7
            have HQ7 : Hid (RuSt w rb tR tb s (w6.setCell ⟨rb, 1, none⟩ (.int .i64 ((p : Int) + 1))) (p + 1) false RN ⟨[], none, 0⟩) := Lib.hid (HQ6.out.rd (grownBy_set w6 rb 1 _) (HQ6.out.box.set 1 _))
            have y1 := HQ6.out.box.cell 1
            have yl := HQ6.out.box.lt
            have yf := HQ6.out.box.frozen 1
            simp only [List.getElem?_cons_zero, List.getElem?_cons_succ] at y1
            rw [hW]
            clear hS7 hpn hW HW
            go_wp2_with (fail)
            go_roundg (s.size + 1 - (p + 1))
            case measure => omega
            case rel => exact ⟨p + 1, false, RN, rfl, hk7, HQ7, HS7, hRn, by rw [hRL.out]; omega⟩
          · have hbe : ((wordA s p).toList == [124]) = false := by
              rw [toList_is, beq_dec]
              exact decide_eq_false (fun e => hW (ByteArray.ext (Array.ext' e)))
            have HWn := Lib.hid hW
            clear hW
            generalize hWW : wordA s p = WW at hbe ⊢
            have HWW := Lib.hid hWW
            clear hWW
            go_wp2_with (fail)
            have hQ := HQ6.out
            refine (HN59.out p false w6 hp hQ.box).mono ?_
            rintro e w8 ⟨k6, bad6, rfl, hb6, hg6, hn6⟩
            have HQ6 := Lib.hid (hQ.rd hg6 hb6)
            have HS6 := Lib.hid (HSR.out.semi hp (fun _ => by rw [Hpp.out]; exact ⟨HW.out, HWn.out⟩) hn6)
            have hk6 : k6 ≤ s.size := needR_le hn6 hp
            have HO := Lib.hid (HQ6.out.out (.string RN.n) (.slice RN.a RN.ds.length RN.c))
            have HP6 : Hid (RN.p = (n, RN.ds.map AltD.l)) := Lib.hid (by rw [← hRn.out]; rfl)
            have y0 := HQ6.out.tbox.cell 0
            have y1 := HQ6.out.tbox.cell 1
            have yl := HQ6.out.tbox.lt
            have z0 := HQ6.out.res.cell 0
            have z1 := HQ6.out.res.cell 1
            have zl := HQ6.out.res.lt
            have zf0 := HQ6.out.res.frozen 0
            have zf1 := HQ6.out.res.frozen 1
            simp only [List.getElem?_cons_zero, List.getElem?_cons_succ] at y0 y1 z0 z1
            clear hb6 hg6 hn6 hQ
            clear hRL
            obtain ⟨RL, hRL⟩ : ∃ RL, Hid (RN.ds.length = RL) := ⟨_, Lib.hid rfl⟩
            rw [hRL.out] at y1 HO
            go_wp2_with (fail)
            generalize World.setCell (World.setCell w8 _ _) _ _ = w7 at HO ⊢
            have q0 := HO.out.1.cell 0
            have q1 := HO.out.1.cell 1
            simp only [List.getElem?_cons_zero, List.getElem?_cons_succ] at q0 q1
            exact bodyPost_ret (v := .agg #[.string RN.n, .slice RN.a RL RN.c]) (by simp [results, Try.results32, go_sem, q0, q1]; try first | rfl | assumption | omega) rfl ⟨RN, k6, bad6, by rw [hRL.out], HO.out.2.1, HO.out.2.2.1, HO.out.2.2.2, hk6, HS6.out.1, fun h => by rw [HP6.out]; exact HS6.out.2 h⟩
end Go.Proofs.Ytoaabfdilhbajaa
