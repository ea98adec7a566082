/- Texts of layer 2 joined: Text TextF. -/
import Derived.Test.YtkdfobnkebkpfaaJH
import Derived.Test.YtkdfobnkebkpfaaJB
set_option linter.unusedVariables false
set_option linter.unusedSimpArgs false
/- regex.appendText: an expression's text. -/
namespace Go.Proofs.Ytkdfobnkebkpfaa
open Go.RowKit Go.Shelf

attribute [local go_sem] Oper.semAt_some

theorem appendPart_any (W0 : World) (k : Int) (hh : Hd) (kids : Fo) (sa : Option Addr) (sc : Nat) (ka : Option Addr) (kcap : Nat) (hT : TextC W0 hh kids sa sc ka kcap)
    (a : Option Addr) (n cap : Nat) (ys : List UInt8) (w : World) (hB : Below W0.heap.size W0 w) (hown : OwnB w W0.heap.size a n cap ys) (hn : n + 2 + (9 * hh.set.length + 12 + wtT kids) ≤ 140737488355328) :
    Calls Try.prog 62 #[.slice a n cap, itemV hh sa sc ka kids.len kcap, .int .i64 k] w fun e w' => ∃ a' c', e = .returned (.slice a' (n + (partT k hh (textOf hh kids)).length) c') ∧ OwnB w' W0.heap.size a' (n + (partT k hh (textOf hh kids)).length) c' (ys ++ partT k hh (textOf hh kids)) ∧ Grw W0.heap.size w a w' a' := by
  by_cases hk : hh.k = 4 ∨ (hh.k = 3 ∧ k ≠ 4)
  · refine (appendPart_wrap W0 k hh kids sa sc ka kcap hT hk a n cap ys w hB hown hn).mono ?_
    rintro e w' ⟨a', c', rfl, ho, hg⟩
    have hl : n + (partT k hh (textOf hh kids)).length = n + 1 + (textOf hh kids).length + 1 := by
      unfold partT; rw [if_pos hk]; simp; omega
    refine ⟨a', c', by rw [hl], ?_, hg⟩
    rw [hl]
    unfold partT; rw [if_pos hk]
    simpa using ho
  · refine (appendPart_bare W0 k hh kids sa sc ka kcap hT hk a n cap ys w hB hown (by omega)).mono ?_
    have hl : partT k hh (textOf hh kids) = textOf hh kids := by unfold partT; rw [if_neg hk]
    rw [hl]
    exact fun e w' h => h

/-- The contract of appendText at expressions smaller than this. -/
def TextN (N : Nat) : Prop := ∀ (W0 : World) (hh : Hd) (kids : Fo) (sa : Option Addr) (sc : Nat) (ka : Option Addr) (kcap : Nat), kids.size < N → plainB hh kids.len = true → okF kids → Sps W0 sa sc hh.set → Items W0 ka kcap kids → TextC W0 hh kids sa sc ka kcap

theorem plainB_kind {h : Hd} {len : Nat} (hp : plainB h len = true) : h.k = 1 ∨ (h.k = 2 ∧ 0 < h.set.length ∧ ordB h.set = true) ∨ h.k = 3 ∨ h.k = 4 ∨ h.k = 5 ∨ h.k = 6 ∨ h.k = 7 := by
  unfold plainB at hp
  split at hp
  · rename_i h1; left; simpa using h1
  · split at hp
    · rename_i h1 h2
      right; left
      simp only [Bool.and_eq_true, decide_eq_true_eq] at hp
      exact ⟨by simpa using h2, hp.1.1, hp.1.2⟩
    · split at hp
      · rename_i h1 h2 h3
        simp only [Bool.or_eq_true, beq_iff_eq] at h3
        rcases h3 with h3 | h3
        · exact .inr (.inr (.inl h3))
        · exact .inr (.inr (.inr (.inl h3)))
      · split at hp
        · rename_i h1 h2 h3 h4
          simp only [Bool.or_eq_true, beq_iff_eq] at h4
          rcases h4 with (h4 | h4) | h4
          · exact .inr (.inr (.inr (.inr (.inl h4))))
          · exact .inr (.inr (.inr (.inr (.inr (.inl h4)))))
          · exact .inr (.inr (.inr (.inr (.inr (.inr h4)))))
        · cases hp

set_option maxRecDepth 100000 in
set_option maxHeartbeats 1000000 in
/-- An Empty, a Set. -/
theorem text_leaf (W0 : World) (hh : Hd) (kids : Fo) (sa : Option Addr) (sc : Nat) (ka : Option Addr) (kcap : Nat) (hk : hh.k = 1 ∨ (hh.k = 2 ∧ 0 < hh.set.length ∧ ordB hh.set = true)) (hs : Sps W0 sa sc hh.set) : TextC W0 hh kids sa sc ka kcap := by
  intro a n cap ys w hB hown hn
  obtain ⟨kk, set⟩ := hh
  dsimp only [itemV] at hk hn hs ⊢
  rcases hk with rfl | ⟨rfl, h0, hord⟩
  · have hT : Hid (textOf ⟨1, set⟩ kids = [40, 41]) := Lib.hid (by simp [textOf, nodeT])
    obtain ⟨a2, c2, w2, hrun, ho, hg, hnw⟩ := run_append_str (w.alloc (.cells #[.int .i64 1, .slice sa set.length sc, .slice ka kids.len kcap] 25)) 65 (World.ownsRow.alloc hown _ : OwnB _ W0.heap.size a n cap ys) (ByteArray.mk #[40, 41]) (by show n + 2 ≤ _; omega) (Nat.le_trans hB.size (by simp)) (by show (2 : Nat) ≠ 0; omega)
    have Hr := Lib.hid hrun
    have hG := (Grw.alloc W0.heap.size w a _).trans (Grw.of (World.ownsRow.alloc hown _ : OwnB _ W0.heap.size a n cap ys) hg hnw)
    clear hrun
    go_enter Try.func44, Try.ntmps44
    go_wp2_with (at_builtin; refine wpList_append_run rfl _ _ 65 9 rfl _ _ _ _ rfl rfl Hr.out ?_)
    go_ret
    rw [hT.out]
    exact ⟨a2, c2, rfl, ho, hG⟩
  · have hT : Hid (textOf ⟨2, set⟩ kids = setT set) := Lib.hid (by simp [textOf, nodeT])
    have hloc : ∀ b off, sa = some ⟨b, off, none⟩ → b < W0.heap.size := fun b off e => by
      have := (hs.cell b off e 0 h0).1
      exact World.block_lt_of_cell? W0 _ this
    have hs1 := Below.spsB (hB.alloc hB.size (.cells #[.int .i64 2, .slice sa set.length sc, .slice ka kids.len kcap] 25)) hs hloc
    have hC := appendSet_any a n cap W0.heap.size sa set.length sc set ys _ hs1 rfl hloc (ordB_le hord) (World.ownsRow.alloc hown _) (by omega) (Nat.le_trans hB.size (by simp))
    have hG0 := Grw.alloc W0.heap.size w a (.cells #[.int .i64 2, .slice sa set.length sc, .slice ka kids.len kcap] 25)
    have HC := Lib.hid hC
    obtain ⟨L, HL⟩ : ∃ L, Hid (set.length = L) := ⟨_, Lib.hid rfl⟩
    clear hloc hC h0
    go_enter Try.func44, Try.ntmps44
    go_wp2_with (go_at_call 61; (with_reducible refine HC.out.mono ?_); rintro e w8 ⟨a8, c8, rfl, ho8, hg8⟩)
    go_ret
    rw [hT.out]
    exact ⟨a8, c8, rfl, ho8, hG0.trans hg8⟩

set_option maxRecDepth 100000 in
set_option maxHeartbeats 2000000 in
theorem text_step3 (N : Nat) (ih : TextN N) (W0 : World) (hh : Hd) (kids : Fo) (sa : Option Addr) (sc : Nat) (ka : Option Addr) (kcap : Nat) (hN : kids.size < N + 1) (hk : hh.k = 3) (hok : okF kids) (hI : Items W0 ka kcap kids) : TextC W0 hh kids sa sc ka kcap := by
  intro a n cap ys w hB hown hn
  obtain ⟨kk, set⟩ := hh
  dsimp only [itemV] at hk hn ⊢
  subst hk
  obtain ⟨L, HL⟩ : ∃ L, Hid (kids.len = L) := ⟨_, Lib.hid rfl⟩
  obtain ⟨SL, HSL⟩ : ∃ SL, Hid (set.length = SL) := ⟨_, Lib.hid rfl⟩
  have hlm : kids.len ≤ kcap ∧ kcap ≤ 9223372036854775807 := ⟨hI.le, hI.max⟩
  have hK := hI.at_
  have Hok := Lib.hid hok
  have hS0 : St W0 w.heap.size [.int .i64 3, .slice sa set.length sc, .slice ka kids.len kcap] (w.alloc (.cells #[.int .i64 3, .slice sa set.length sc, .slice ka kids.len kcap] 25)) a n cap ys :=
    ⟨hB.alloc hB.size _, World.ownsRow.alloc hown _, Blk.new w 25 #[.int .i64 3, .slice sa set.length sc, .slice ka kids.len kcap]⟩
  have hG0 := Grw.alloc W0.heap.size w a (.cells #[.int .i64 3, .slice sa set.length sc, .slice ka kids.len kcap] 25)
  have hTx : Hid (textOf ⟨3, set⟩ kids = textF kids 3 true ++ []) := Lib.hid (by simp [textOf, nodeT])
  have Hih := Lib.hid ih
  rw [HL.out, HSL.out] at hS0 hG0 ⊢
  rw [HL.out] at hlm hK
  rw [HSL.out] at hn
  have HK := Lib.hid hK
  clear hI hok hB hown ih hK
  go_enter Try.func44, Try.ntmps44
  go_wp2_with (fail)
  generalize w.alloc (.cells #[.int .i64 3, .slice sa SL sc, .slice ka L kcap] 25) = W at hS0 hG0 ⊢
  generalize w.heap.size = bx at hS0 ⊢
  go_loopw [0, 22] (fun ov iv wr => ∃ (j : Nat) (ak : Option Addr) (ck : Nat), j ≤ L ∧ iv = .int .i64 (j : Int) ∧ ov = .slice ak (n + (textF (kids.take j) 3 true).length) ck ∧ St W0 bx [.int .i64 3, .slice sa SL sc, .slice ka L kcap] wr ak (n + (textF (kids.take j) 3 true).length) ck (ys ++ textF (kids.take j) 3 true) ∧ Grw W0.heap.size w a wr ak) (fun _ i _ => L - (intOf i).toNat)
  case atStart => exact ⟨0, a, cap, by omega, rfl, by simp [Fo.take, textF], by simpa [Fo.take, textF] using hS0, hG0⟩
  case round =>
    obtain ⟨j, ak, ck, hj, rfl, rfl, hSr, hGr⟩ := hrel
    have hltb := hSr.box.lt
    have x0 := hSr.box.cell 0
    simp only [List.getElem?_cons_zero, List.getElem?_cons_succ] at x0
    clear hS0 hG0
    have hwt := wtT_drop j kids
    have hlT := textF_length (kids.take j) 3 true
    by_cases hlt : j < L
    · obtain ⟨hd, ks, rs, hdr⟩ := Fo.drop_cons (f := kids) (k := j) (by rw [HL.out]; exact hlt)
      obtain ⟨b, off, rfl, hel⟩ := HK.out (by omega)
      have hel2 := Elems.drop j kids b off hel
      rw [hdr] at hel2 hwt
      have hel3 := Elems.grown hSr.below _ _ _ hel2
      obtain ⟨-, ⟨xsa, xsc, g1, g2⟩, ⟨xa, xcap, g3, g4, g5, g6, g7⟩, -⟩ := hel2
      have hokk := okF_drop j kids Hok.out
      rw [hdr] at hokk
      obtain ⟨hpl, hok2, -⟩ := hokk
      have hsz : ks.size < N := by
        have h1 := Fo.drop_size j kids
        rw [hdr] at h1
        simp only [Fo.size] at h1
        omega
      have hTC := Lib.hid (Hih.out W0 hd ks xsa xsc xa xcap hsz hpl hok2 g2 ⟨g4, g5, g6, g7⟩)
      obtain ⟨y0, -, -, -⟩ := hel3
      have k1 := (hSr.below.cell (p := ⟨b, off + j * 3 + 1, none⟩) (World.block_lt_of_cell? W0 _ g1)).trans g1
      have k2 := (hSr.below.cell (p := ⟨b, off + j * 3 + 2, none⟩) (World.block_lt_of_cell? W0 _ g3)).trans g3
      have hcl : ks.len ≤ xcap ∧ xcap ≤ 9223372036854775807 := ⟨g4, g5⟩
      have hsn := Lib.hid (textF_snoc j kids 3 true hd ks rs hdr)
      simp only [wtT] at hwt
      obtain ⟨TJ, HTJ⟩ : ∃ TJ, Hid (textF (kids.take j) 3 true = TJ) := ⟨_, Lib.hid rfl⟩
      rw [HTJ.out] at hSr hlT hsn ⊢
      clear hdr hel g1 g2 g3 g4 g5 g6 g7 hpl hok2
      · have hsn := Lib.hid (show _ = _ from (by have := hsn.out; simpa using this : textF (kids.take (j + 1)) 3 true = TJ ++ partT 3 hd (textOf hd ks)))
        have hS2 := hSr.alloc (.cells #[.int .i64 hd.k, .slice xsa hd.set.length xsc, .slice xa ks.len xcap] 25)
        have hG2 := hGr.trans (Grw.alloc W0.heap.size wr ak (.cells #[.int .i64 hd.k, .slice xsa hd.set.length xsc, .slice xa ks.len xcap] 25))
        have hBx := Blk.new wr 25 #[.int .i64 hd.k, .slice xsa hd.set.length xsc, .slice xa ks.len xcap]
        have hC := appendPart_any W0 3 hd ks xsa xsc xa xcap hTC.out ak _ ck _ _ hS2.below hS2.own (by omega)
        go_wp2_with (first | (go_at_call 62; (with_reducible refine hC.mono ?_); rintro e w4 ⟨a4, c4, rfl, ho4, hg4⟩))
        have hS4 := hS2.grw ho4 hg4
        have hG4 := hG2.trans hg4
        have hlen : n + (textF (kids.take (j + 1)) 3 true).length = n + TJ.length + (partT 3 hd (textOf hd ks)).length := by rw [hsn.out]; simp; omega
        refine ⟨⟨j + 1, a4, c4, by omega, by simp, by rw [hlen], ?_, hG4⟩, by simp [intOf]; omega⟩
        rw [hlen, hsn.out]
        simpa using hS4
    · obtain rfl : j = L := by omega
      have htk : kids.take j = kids := Fo.take_all j kids (by rw [HL.out]; exact Nat.le_refl _)
      rw [htk] at hSr hlT ⊢
      obtain ⟨TJ, HTJ⟩ : ∃ TJ, Hid (textF kids 3 true = TJ) := ⟨_, Lib.hid rfl⟩
      rw [HTJ.out] at hSr hlT hTx ⊢
      clear htk
      go_wp2_with (fail)
      go_ret
      rw [hTx.out]
      exact ⟨ak, ck, by simp, by simpa using hSr.own, hGr⟩

set_option maxRecDepth 100000 in
set_option maxHeartbeats 2000000 in
theorem text_step4 (N : Nat) (ih : TextN N) (W0 : World) (hh : Hd) (kids : Fo) (sa : Option Addr) (sc : Nat) (ka : Option Addr) (kcap : Nat) (hN : kids.size < N + 1) (hk : hh.k = 4) (hok : okF kids) (hI : Items W0 ka kcap kids) : TextC W0 hh kids sa sc ka kcap := by
  intro a n cap ys w hB hown hn
  obtain ⟨kk, set⟩ := hh
  dsimp only [itemV] at hk hn ⊢
  subst hk
  obtain ⟨L, HL⟩ : ∃ L, Hid (kids.len = L) := ⟨_, Lib.hid rfl⟩
  obtain ⟨SL, HSL⟩ : ∃ SL, Hid (set.length = SL) := ⟨_, Lib.hid rfl⟩
  have hlm : kids.len ≤ kcap ∧ kcap ≤ 9223372036854775807 := ⟨hI.le, hI.max⟩
  have hK := hI.at_
  have Hok := Lib.hid hok
  have hS0 : St W0 w.heap.size [.int .i64 4, .slice sa set.length sc, .slice ka kids.len kcap] (w.alloc (.cells #[.int .i64 4, .slice sa set.length sc, .slice ka kids.len kcap] 25)) a n cap ys :=
    ⟨hB.alloc hB.size _, World.ownsRow.alloc hown _, Blk.new w 25 #[.int .i64 4, .slice sa set.length sc, .slice ka kids.len kcap]⟩
  have hG0 := Grw.alloc W0.heap.size w a (.cells #[.int .i64 4, .slice sa set.length sc, .slice ka kids.len kcap] 25)
  have hTx : Hid (textOf ⟨4, set⟩ kids = textF kids 4 true ++ []) := Lib.hid (by simp [textOf, nodeT])
  have Hih := Lib.hid ih
  rw [HL.out, HSL.out] at hS0 hG0 ⊢
  rw [HL.out] at hlm hK
  rw [HSL.out] at hn
  have HK := Lib.hid hK
  clear hI hok hB hown ih hK
  go_enter Try.func44, Try.ntmps44
  go_wp2_with (fail)
  generalize w.alloc (.cells #[.int .i64 4, .slice sa SL sc, .slice ka L kcap] 25) = W at hS0 hG0 ⊢
  generalize w.heap.size = bx at hS0 ⊢
  go_loopw [0, 22] (fun ov iv wr => ∃ (j : Nat) (ak : Option Addr) (ck : Nat), j ≤ L ∧ iv = .int .i64 (j : Int) ∧ ov = .slice ak (n + (textF (kids.take j) 4 true).length) ck ∧ St W0 bx [.int .i64 4, .slice sa SL sc, .slice ka L kcap] wr ak (n + (textF (kids.take j) 4 true).length) ck (ys ++ textF (kids.take j) 4 true) ∧ Grw W0.heap.size w a wr ak) (fun _ i _ => L - (intOf i).toNat)
  case atStart => exact ⟨0, a, cap, by omega, rfl, by simp [Fo.take, textF], by simpa [Fo.take, textF] using hS0, hG0⟩
  case round =>
    obtain ⟨j, ak, ck, hj, rfl, rfl, hSr, hGr⟩ := hrel
    have hltb := hSr.box.lt
    have x0 := hSr.box.cell 0
    simp only [List.getElem?_cons_zero, List.getElem?_cons_succ] at x0
    clear hS0 hG0
    have hwt := wtT_drop j kids
    have hlT := textF_length (kids.take j) 4 true
    by_cases hlt : j < L
    · obtain ⟨hd, ks, rs, hdr⟩ := Fo.drop_cons (f := kids) (k := j) (by rw [HL.out]; exact hlt)
      obtain ⟨b, off, rfl, hel⟩ := HK.out (by omega)
      have hel2 := Elems.drop j kids b off hel
      rw [hdr] at hel2 hwt
      have hel3 := Elems.grown hSr.below _ _ _ hel2
      obtain ⟨-, ⟨xsa, xsc, g1, g2⟩, ⟨xa, xcap, g3, g4, g5, g6, g7⟩, -⟩ := hel2
      have hokk := okF_drop j kids Hok.out
      rw [hdr] at hokk
      obtain ⟨hpl, hok2, -⟩ := hokk
      have hsz : ks.size < N := by
        have h1 := Fo.drop_size j kids
        rw [hdr] at h1
        simp only [Fo.size] at h1
        omega
      have hTC := Lib.hid (Hih.out W0 hd ks xsa xsc xa xcap hsz hpl hok2 g2 ⟨g4, g5, g6, g7⟩)
      obtain ⟨y0, -, -, -⟩ := hel3
      have k1 := (hSr.below.cell (p := ⟨b, off + j * 3 + 1, none⟩) (World.block_lt_of_cell? W0 _ g1)).trans g1
      have k2 := (hSr.below.cell (p := ⟨b, off + j * 3 + 2, none⟩) (World.block_lt_of_cell? W0 _ g3)).trans g3
      have hcl : ks.len ≤ xcap ∧ xcap ≤ 9223372036854775807 := ⟨g4, g5⟩
      have hsn := Lib.hid (textF_snoc j kids 4 true hd ks rs hdr)
      simp only [wtT] at hwt
      obtain ⟨TJ, HTJ⟩ : ∃ TJ, Hid (textF (kids.take j) 4 true = TJ) := ⟨_, Lib.hid rfl⟩
      rw [HTJ.out] at hSr hlT hsn ⊢
      clear hdr hel g1 g2 g3 g4 g5 g6 g7 hpl hok2
      by_cases hj0 : 0 < j
      · have hj1 : (0 : Int) < (j : Int) := by omega
        have hsn2 : textF (kids.take (j + 1)) 4 true = TJ ++ (124 :: partT 4 hd (textOf hd ks)) := by have := hsn.out; simpa [hj0] using this
        have hsx := Lib.hid hsn2
        clear hsn2 hsn
        have hS2 := hSr.alloc (.cells #[.int .i64 hd.k, .slice xsa hd.set.length xsc, .slice xa ks.len xcap] 25)
        have hG2 := hGr.trans (Grw.alloc W0.heap.size wr ak (.cells #[.int .i64 hd.k, .slice xsa hd.set.length xsc, .slice xa ks.len xcap] 25))
        have hBx := Blk.new wr 25 #[.int .i64 hd.k, .slice xsa hd.set.length xsc, .slice xa ks.len xcap]
        obtain ⟨a3, c3, w3, hrun3, ho3, hg3⟩ := step_bytes _ 65 hS2.own 124 (by omega) hS2.below.size (.int .u8 124) rfl
        rw [World.size_alloc] at hrun3
        have Hr3 := Lib.hid hrun3
        have hS3 := hS2.grw ho3 hg3
        have hG3 := hG2.trans hg3
        have hBx3 := hg3.blk hBx (by decide)
        have z0 := hBx3.cell 0
        have z1 := hBx3.cell 1
        have z2 := hBx3.cell 2
        have q0 := hS3.box.cell 0
        simp only [List.getElem?_cons_zero, List.getElem?_cons_succ] at z0 z1 z2 q0
        have hC := appendPart_any W0 4 hd ks xsa xsc xa xcap hTC.out a3 _ c3 _ w3 hS3.below hS3.own (by omega)
        clear hrun3 ho3 hS2 hG2 hBx
        go_wp2_with (first | (at_builtin; refine wpList_append_run rfl _ _ 65 65 rfl _ _ _ _ rfl rfl Hr3.out ?_) | (go_at_call 62; (with_reducible refine hC.mono ?_); rintro e w4 ⟨a4, c4, rfl, ho4, hg4⟩))
        have hS4 := hS3.grw ho4 hg4
        have hG4 := hG3.trans hg4
        have hlen : n + (textF (kids.take (j + 1)) 4 true).length = n + TJ.length + 1 + (partT 4 hd (textOf hd ks)).length := by rw [hsx.out]; simp; omega
        refine ⟨⟨j + 1, a4, c4, by omega, by simp, by rw [hlen], ?_, hG4⟩, by simp [intOf]; omega⟩
        rw [hlen, hsx.out]
        simpa using hS4
      · have hj1 : ¬ (0 : Int) < (j : Int) := by omega
        have hsn2 : textF (kids.take (j + 1)) 4 true = TJ ++ partT 4 hd (textOf hd ks) := by have := hsn.out; simpa [hj0] using this
        have hsx := Lib.hid hsn2
        clear hsn2 hsn
        have hS2 := hSr.alloc (.cells #[.int .i64 hd.k, .slice xsa hd.set.length xsc, .slice xa ks.len xcap] 25)
        have hG2 := hGr.trans (Grw.alloc W0.heap.size wr ak (.cells #[.int .i64 hd.k, .slice xsa hd.set.length xsc, .slice xa ks.len xcap] 25))
        have hBx := Blk.new wr 25 #[.int .i64 hd.k, .slice xsa hd.set.length xsc, .slice xa ks.len xcap]
        have hC := appendPart_any W0 4 hd ks xsa xsc xa xcap hTC.out ak _ ck _ _ hS2.below hS2.own (by omega)
        go_wp2_with (first | (go_at_call 62; (with_reducible refine hC.mono ?_); rintro e w4 ⟨a4, c4, rfl, ho4, hg4⟩))
        have hS4 := hS2.grw ho4 hg4
        have hG4 := hG2.trans hg4
        have hlen : n + (textF (kids.take (j + 1)) 4 true).length = n + TJ.length + (partT 4 hd (textOf hd ks)).length := by rw [hsx.out]; simp; omega
        refine ⟨⟨j + 1, a4, c4, by omega, by simp, by rw [hlen], ?_, hG4⟩, by simp [intOf]; omega⟩
        rw [hlen, hsx.out]
        simpa using hS4
    · obtain rfl : j = L := by omega
      have htk : kids.take j = kids := Fo.take_all j kids (by rw [HL.out]; exact Nat.le_refl _)
      rw [htk] at hSr hlT ⊢
      obtain ⟨TJ, HTJ⟩ : ∃ TJ, Hid (textF kids 4 true = TJ) := ⟨_, Lib.hid rfl⟩
      rw [HTJ.out] at hSr hlT hTx ⊢
      clear htk
      go_wp2_with (fail)
      go_ret
      rw [hTx.out]
      exact ⟨ak, ck, by simp, by simpa using hSr.own, hGr⟩

set_option maxRecDepth 100000 in
set_option maxHeartbeats 2000000 in
theorem text_step5 (N : Nat) (ih : TextN N) (W0 : World) (hh : Hd) (kids : Fo) (sa : Option Addr) (sc : Nat) (ka : Option Addr) (kcap : Nat) (hN : kids.size < N + 1) (hk : hh.k = 5) (hok : okF kids) (hI : Items W0 ka kcap kids) : TextC W0 hh kids sa sc ka kcap := by
  intro a n cap ys w hB hown hn
  obtain ⟨kk, set⟩ := hh
  dsimp only [itemV] at hk hn ⊢
  subst hk
  obtain ⟨L, HL⟩ : ∃ L, Hid (kids.len = L) := ⟨_, Lib.hid rfl⟩
  obtain ⟨SL, HSL⟩ : ∃ SL, Hid (set.length = SL) := ⟨_, Lib.hid rfl⟩
  have hlm : kids.len ≤ kcap ∧ kcap ≤ 9223372036854775807 := ⟨hI.le, hI.max⟩
  have hK := hI.at_
  have Hok := Lib.hid hok
  have hS0 : St W0 w.heap.size [.int .i64 5, .slice sa set.length sc, .slice ka kids.len kcap] (w.alloc (.cells #[.int .i64 5, .slice sa set.length sc, .slice ka kids.len kcap] 25)) a n cap ys :=
    ⟨hB.alloc hB.size _, World.ownsRow.alloc hown _, Blk.new w 25 #[.int .i64 5, .slice sa set.length sc, .slice ka kids.len kcap]⟩
  have hG0 := Grw.alloc W0.heap.size w a (.cells #[.int .i64 5, .slice sa set.length sc, .slice ka kids.len kcap] 25)
  have hTx : Hid (textOf ⟨5, set⟩ kids = textF kids 5 true ++ [42]) := Lib.hid (by simp [textOf, nodeT, repT])
  have Hih := Lib.hid ih
  rw [HL.out, HSL.out] at hS0 hG0 ⊢
  rw [HL.out] at hlm hK
  rw [HSL.out] at hn
  have HK := Lib.hid hK
  clear hI hok hB hown ih hK
  go_enter Try.func44, Try.ntmps44
  go_wp2_with (fail)
  generalize w.alloc (.cells #[.int .i64 5, .slice sa SL sc, .slice ka L kcap] 25) = W at hS0 hG0 ⊢
  generalize w.heap.size = bx at hS0 ⊢
  go_loopw [0, 22] (fun ov iv wr => ∃ (j : Nat) (ak : Option Addr) (ck : Nat), j ≤ L ∧ iv = .int .i64 (j : Int) ∧ ov = .slice ak (n + (textF (kids.take j) 5 true).length) ck ∧ St W0 bx [.int .i64 5, .slice sa SL sc, .slice ka L kcap] wr ak (n + (textF (kids.take j) 5 true).length) ck (ys ++ textF (kids.take j) 5 true) ∧ Grw W0.heap.size w a wr ak) (fun _ i _ => L - (intOf i).toNat)
  case atStart => exact ⟨0, a, cap, by omega, rfl, by simp [Fo.take, textF], by simpa [Fo.take, textF] using hS0, hG0⟩
  case round =>
    obtain ⟨j, ak, ck, hj, rfl, rfl, hSr, hGr⟩ := hrel
    have hltb := hSr.box.lt
    have x0 := hSr.box.cell 0
    simp only [List.getElem?_cons_zero, List.getElem?_cons_succ] at x0
    clear hS0 hG0
    have hwt := wtT_drop j kids
    have hlT := textF_length (kids.take j) 5 true
    by_cases hlt : j < L
    · obtain ⟨hd, ks, rs, hdr⟩ := Fo.drop_cons (f := kids) (k := j) (by rw [HL.out]; exact hlt)
      obtain ⟨b, off, rfl, hel⟩ := HK.out (by omega)
      have hel2 := Elems.drop j kids b off hel
      rw [hdr] at hel2 hwt
      have hel3 := Elems.grown hSr.below _ _ _ hel2
      obtain ⟨-, ⟨xsa, xsc, g1, g2⟩, ⟨xa, xcap, g3, g4, g5, g6, g7⟩, -⟩ := hel2
      have hokk := okF_drop j kids Hok.out
      rw [hdr] at hokk
      obtain ⟨hpl, hok2, -⟩ := hokk
      have hsz : ks.size < N := by
        have h1 := Fo.drop_size j kids
        rw [hdr] at h1
        simp only [Fo.size] at h1
        omega
      have hTC := Lib.hid (Hih.out W0 hd ks xsa xsc xa xcap hsz hpl hok2 g2 ⟨g4, g5, g6, g7⟩)
      obtain ⟨y0, -, -, -⟩ := hel3
      have k1 := (hSr.below.cell (p := ⟨b, off + j * 3 + 1, none⟩) (World.block_lt_of_cell? W0 _ g1)).trans g1
      have k2 := (hSr.below.cell (p := ⟨b, off + j * 3 + 2, none⟩) (World.block_lt_of_cell? W0 _ g3)).trans g3
      have hcl : ks.len ≤ xcap ∧ xcap ≤ 9223372036854775807 := ⟨g4, g5⟩
      have hsn := Lib.hid (textF_snoc j kids 5 true hd ks rs hdr)
      simp only [wtT] at hwt
      obtain ⟨TJ, HTJ⟩ : ∃ TJ, Hid (textF (kids.take j) 5 true = TJ) := ⟨_, Lib.hid rfl⟩
      rw [HTJ.out] at hSr hlT hsn ⊢
      clear hdr hel g1 g2 g3 g4 g5 g6 g7 hpl hok2
      · have hsn := Lib.hid (show _ = _ from (by have := hsn.out; simpa using this : textF (kids.take (j + 1)) 5 true = TJ ++ partT 5 hd (textOf hd ks)))
        have hS2 := hSr.alloc (.cells #[.int .i64 hd.k, .slice xsa hd.set.length xsc, .slice xa ks.len xcap] 25)
        have hG2 := hGr.trans (Grw.alloc W0.heap.size wr ak (.cells #[.int .i64 hd.k, .slice xsa hd.set.length xsc, .slice xa ks.len xcap] 25))
        have hBx := Blk.new wr 25 #[.int .i64 hd.k, .slice xsa hd.set.length xsc, .slice xa ks.len xcap]
        have hC := appendPart_any W0 5 hd ks xsa xsc xa xcap hTC.out ak _ ck _ _ hS2.below hS2.own (by omega)
        go_wp2_with (first | (go_at_call 62; (with_reducible refine hC.mono ?_); rintro e w4 ⟨a4, c4, rfl, ho4, hg4⟩))
        have hS4 := hS2.grw ho4 hg4
        have hG4 := hG2.trans hg4
        have hlen : n + (textF (kids.take (j + 1)) 5 true).length = n + TJ.length + (partT 5 hd (textOf hd ks)).length := by rw [hsn.out]; simp; omega
        refine ⟨⟨j + 1, a4, c4, by omega, by simp, by rw [hlen], ?_, hG4⟩, by simp [intOf]; omega⟩
        rw [hlen, hsn.out]
        simpa using hS4
    · obtain rfl : j = L := by omega
      have htk : kids.take j = kids := Fo.take_all j kids (by rw [HL.out]; exact Nat.le_refl _)
      rw [htk] at hSr hlT ⊢
      obtain ⟨TJ, HTJ⟩ : ∃ TJ, Hid (textF kids 5 true = TJ) := ⟨_, Lib.hid rfl⟩
      rw [HTJ.out] at hSr hlT hTx ⊢
      clear htk
      obtain ⟨a3, c3, w3, hrun3, ho3, hg3⟩ := step_bytes wr 65 hSr.own 42 (by omega) hSr.below.size (.int .u8 42) rfl
      have Hr3 := Lib.hid hrun3
      have hG3 := hGr.trans hg3
      clear hrun3
      go_wp2_with (first | (at_builtin; refine wpList_append_run rfl _ _ 65 65 rfl _ _ _ _ rfl rfl Hr3.out ?_))
      go_ret
      rw [hTx.out]
      exact ⟨a3, c3, by simp [Nat.add_assoc], by simpa [Nat.add_assoc] using ho3, hG3⟩

set_option maxRecDepth 100000 in
set_option maxHeartbeats 2000000 in
theorem text_step6 (N : Nat) (ih : TextN N) (W0 : World) (hh : Hd) (kids : Fo) (sa : Option Addr) (sc : Nat) (ka : Option Addr) (kcap : Nat) (hN : kids.size < N + 1) (hk : hh.k = 6) (hok : okF kids) (hI : Items W0 ka kcap kids) : TextC W0 hh kids sa sc ka kcap := by
  intro a n cap ys w hB hown hn
  obtain ⟨kk, set⟩ := hh
  dsimp only [itemV] at hk hn ⊢
  subst hk
  obtain ⟨L, HL⟩ : ∃ L, Hid (kids.len = L) := ⟨_, Lib.hid rfl⟩
  obtain ⟨SL, HSL⟩ : ∃ SL, Hid (set.length = SL) := ⟨_, Lib.hid rfl⟩
  have hlm : kids.len ≤ kcap ∧ kcap ≤ 9223372036854775807 := ⟨hI.le, hI.max⟩
  have hK := hI.at_
  have Hok := Lib.hid hok
  have hS0 : St W0 w.heap.size [.int .i64 6, .slice sa set.length sc, .slice ka kids.len kcap] (w.alloc (.cells #[.int .i64 6, .slice sa set.length sc, .slice ka kids.len kcap] 25)) a n cap ys :=
    ⟨hB.alloc hB.size _, World.ownsRow.alloc hown _, Blk.new w 25 #[.int .i64 6, .slice sa set.length sc, .slice ka kids.len kcap]⟩
  have hG0 := Grw.alloc W0.heap.size w a (.cells #[.int .i64 6, .slice sa set.length sc, .slice ka kids.len kcap] 25)
  have hTx : Hid (textOf ⟨6, set⟩ kids = textF kids 6 true ++ [43]) := Lib.hid (by simp [textOf, nodeT, repT])
  have Hih := Lib.hid ih
  rw [HL.out, HSL.out] at hS0 hG0 ⊢
  rw [HL.out] at hlm hK
  rw [HSL.out] at hn
  have HK := Lib.hid hK
  clear hI hok hB hown ih hK
  go_enter Try.func44, Try.ntmps44
  go_wp2_with (fail)
  generalize w.alloc (.cells #[.int .i64 6, .slice sa SL sc, .slice ka L kcap] 25) = W at hS0 hG0 ⊢
  generalize w.heap.size = bx at hS0 ⊢
  go_loopw [0, 22] (fun ov iv wr => ∃ (j : Nat) (ak : Option Addr) (ck : Nat), j ≤ L ∧ iv = .int .i64 (j : Int) ∧ ov = .slice ak (n + (textF (kids.take j) 6 true).length) ck ∧ St W0 bx [.int .i64 6, .slice sa SL sc, .slice ka L kcap] wr ak (n + (textF (kids.take j) 6 true).length) ck (ys ++ textF (kids.take j) 6 true) ∧ Grw W0.heap.size w a wr ak) (fun _ i _ => L - (intOf i).toNat)
  case atStart => exact ⟨0, a, cap, by omega, rfl, by simp [Fo.take, textF], by simpa [Fo.take, textF] using hS0, hG0⟩
  case round =>
    obtain ⟨j, ak, ck, hj, rfl, rfl, hSr, hGr⟩ := hrel
    have hltb := hSr.box.lt
    have x0 := hSr.box.cell 0
    simp only [List.getElem?_cons_zero, List.getElem?_cons_succ] at x0
    clear hS0 hG0
    have hwt := wtT_drop j kids
    have hlT := textF_length (kids.take j) 6 true
    by_cases hlt : j < L
    · obtain ⟨hd, ks, rs, hdr⟩ := Fo.drop_cons (f := kids) (k := j) (by rw [HL.out]; exact hlt)
      obtain ⟨b, off, rfl, hel⟩ := HK.out (by omega)
      have hel2 := Elems.drop j kids b off hel
      rw [hdr] at hel2 hwt
      have hel3 := Elems.grown hSr.below _ _ _ hel2
      obtain ⟨-, ⟨xsa, xsc, g1, g2⟩, ⟨xa, xcap, g3, g4, g5, g6, g7⟩, -⟩ := hel2
      have hokk := okF_drop j kids Hok.out
      rw [hdr] at hokk
      obtain ⟨hpl, hok2, -⟩ := hokk
      have hsz : ks.size < N := by
        have h1 := Fo.drop_size j kids
        rw [hdr] at h1
        simp only [Fo.size] at h1
        omega
      have hTC := Lib.hid (Hih.out W0 hd ks xsa xsc xa xcap hsz hpl hok2 g2 ⟨g4, g5, g6, g7⟩)
      obtain ⟨y0, -, -, -⟩ := hel3
      have k1 := (hSr.below.cell (p := ⟨b, off + j * 3 + 1, none⟩) (World.block_lt_of_cell? W0 _ g1)).trans g1
      have k2 := (hSr.below.cell (p := ⟨b, off + j * 3 + 2, none⟩) (World.block_lt_of_cell? W0 _ g3)).trans g3
      have hcl : ks.len ≤ xcap ∧ xcap ≤ 9223372036854775807 := ⟨g4, g5⟩
      have hsn := Lib.hid (textF_snoc j kids 6 true hd ks rs hdr)
      simp only [wtT] at hwt
      obtain ⟨TJ, HTJ⟩ : ∃ TJ, Hid (textF (kids.take j) 6 true = TJ) := ⟨_, Lib.hid rfl⟩
      rw [HTJ.out] at hSr hlT hsn ⊢
      clear hdr hel g1 g2 g3 g4 g5 g6 g7 hpl hok2
      · have hsn := Lib.hid (show _ = _ from (by have := hsn.out; simpa using this : textF (kids.take (j + 1)) 6 true = TJ ++ partT 6 hd (textOf hd ks)))
        have hS2 := hSr.alloc (.cells #[.int .i64 hd.k, .slice xsa hd.set.length xsc, .slice xa ks.len xcap] 25)
        have hG2 := hGr.trans (Grw.alloc W0.heap.size wr ak (.cells #[.int .i64 hd.k, .slice xsa hd.set.length xsc, .slice xa ks.len xcap] 25))
        have hBx := Blk.new wr 25 #[.int .i64 hd.k, .slice xsa hd.set.length xsc, .slice xa ks.len xcap]
        have hC := appendPart_any W0 6 hd ks xsa xsc xa xcap hTC.out ak _ ck _ _ hS2.below hS2.own (by omega)
        go_wp2_with (first | (go_at_call 62; (with_reducible refine hC.mono ?_); rintro e w4 ⟨a4, c4, rfl, ho4, hg4⟩))
        have hS4 := hS2.grw ho4 hg4
        have hG4 := hG2.trans hg4
        have hlen : n + (textF (kids.take (j + 1)) 6 true).length = n + TJ.length + (partT 6 hd (textOf hd ks)).length := by rw [hsn.out]; simp; omega
        refine ⟨⟨j + 1, a4, c4, by omega, by simp, by rw [hlen], ?_, hG4⟩, by simp [intOf]; omega⟩
        rw [hlen, hsn.out]
        simpa using hS4
    · obtain rfl : j = L := by omega
      have htk : kids.take j = kids := Fo.take_all j kids (by rw [HL.out]; exact Nat.le_refl _)
      rw [htk] at hSr hlT ⊢
      obtain ⟨TJ, HTJ⟩ : ∃ TJ, Hid (textF kids 6 true = TJ) := ⟨_, Lib.hid rfl⟩
      rw [HTJ.out] at hSr hlT hTx ⊢
      clear htk
      obtain ⟨a3, c3, w3, hrun3, ho3, hg3⟩ := step_bytes wr 65 hSr.own 43 (by omega) hSr.below.size (.int .u8 43) rfl
      have Hr3 := Lib.hid hrun3
      have hG3 := hGr.trans hg3
      clear hrun3
      go_wp2_with (first | (at_builtin; refine wpList_append_run rfl _ _ 65 65 rfl _ _ _ _ rfl rfl Hr3.out ?_))
      go_ret
      rw [hTx.out]
      exact ⟨a3, c3, by simp [Nat.add_assoc], by simpa [Nat.add_assoc] using ho3, hG3⟩

set_option maxRecDepth 100000 in
set_option maxHeartbeats 2000000 in
theorem text_step7 (N : Nat) (ih : TextN N) (W0 : World) (hh : Hd) (kids : Fo) (sa : Option Addr) (sc : Nat) (ka : Option Addr) (kcap : Nat) (hN : kids.size < N + 1) (hk : hh.k = 7) (hok : okF kids) (hI : Items W0 ka kcap kids) : TextC W0 hh kids sa sc ka kcap := by
  intro a n cap ys w hB hown hn
  obtain ⟨kk, set⟩ := hh
  dsimp only [itemV] at hk hn ⊢
  subst hk
  obtain ⟨L, HL⟩ : ∃ L, Hid (kids.len = L) := ⟨_, Lib.hid rfl⟩
  obtain ⟨SL, HSL⟩ : ∃ SL, Hid (set.length = SL) := ⟨_, Lib.hid rfl⟩
  have hlm : kids.len ≤ kcap ∧ kcap ≤ 9223372036854775807 := ⟨hI.le, hI.max⟩
  have hK := hI.at_
  have Hok := Lib.hid hok
  have hS0 : St W0 w.heap.size [.int .i64 7, .slice sa set.length sc, .slice ka kids.len kcap] (w.alloc (.cells #[.int .i64 7, .slice sa set.length sc, .slice ka kids.len kcap] 25)) a n cap ys :=
    ⟨hB.alloc hB.size _, World.ownsRow.alloc hown _, Blk.new w 25 #[.int .i64 7, .slice sa set.length sc, .slice ka kids.len kcap]⟩
  have hG0 := Grw.alloc W0.heap.size w a (.cells #[.int .i64 7, .slice sa set.length sc, .slice ka kids.len kcap] 25)
  have hTx : Hid (textOf ⟨7, set⟩ kids = textF kids 7 true ++ [63]) := Lib.hid (by simp [textOf, nodeT, repT])
  have Hih := Lib.hid ih
  rw [HL.out, HSL.out] at hS0 hG0 ⊢
  rw [HL.out] at hlm hK
  rw [HSL.out] at hn
  have HK := Lib.hid hK
  clear hI hok hB hown ih hK
  go_enter Try.func44, Try.ntmps44
  go_wp2_with (fail)
  generalize w.alloc (.cells #[.int .i64 7, .slice sa SL sc, .slice ka L kcap] 25) = W at hS0 hG0 ⊢
  generalize w.heap.size = bx at hS0 ⊢
  go_loopw [0, 22] (fun ov iv wr => ∃ (j : Nat) (ak : Option Addr) (ck : Nat), j ≤ L ∧ iv = .int .i64 (j : Int) ∧ ov = .slice ak (n + (textF (kids.take j) 7 true).length) ck ∧ St W0 bx [.int .i64 7, .slice sa SL sc, .slice ka L kcap] wr ak (n + (textF (kids.take j) 7 true).length) ck (ys ++ textF (kids.take j) 7 true) ∧ Grw W0.heap.size w a wr ak) (fun _ i _ => L - (intOf i).toNat)
  case atStart => exact ⟨0, a, cap, by omega, rfl, by simp [Fo.take, textF], by simpa [Fo.take, textF] using hS0, hG0⟩
  case round =>
    obtain ⟨j, ak, ck, hj, rfl, rfl, hSr, hGr⟩ := hrel
    have hltb := hSr.box.lt
    have x0 := hSr.box.cell 0
    simp only [List.getElem?_cons_zero, List.getElem?_cons_succ] at x0
    clear hS0 hG0
    have hwt := wtT_drop j kids
    have hlT := textF_length (kids.take j) 7 true
    by_cases hlt : j < L
    · obtain ⟨hd, ks, rs, hdr⟩ := Fo.drop_cons (f := kids) (k := j) (by rw [HL.out]; exact hlt)
      obtain ⟨b, off, rfl, hel⟩ := HK.out (by omega)
      have hel2 := Elems.drop j kids b off hel
      rw [hdr] at hel2 hwt
      have hel3 := Elems.grown hSr.below _ _ _ hel2
      obtain ⟨-, ⟨xsa, xsc, g1, g2⟩, ⟨xa, xcap, g3, g4, g5, g6, g7⟩, -⟩ := hel2
      have hokk := okF_drop j kids Hok.out
      rw [hdr] at hokk
      obtain ⟨hpl, hok2, -⟩ := hokk
      have hsz : ks.size < N := by
        have h1 := Fo.drop_size j kids
        rw [hdr] at h1
        simp only [Fo.size] at h1
        omega
      have hTC := Lib.hid (Hih.out W0 hd ks xsa xsc xa xcap hsz hpl hok2 g2 ⟨g4, g5, g6, g7⟩)
      obtain ⟨y0, -, -, -⟩ := hel3
      have k1 := (hSr.below.cell (p := ⟨b, off + j * 3 + 1, none⟩) (World.block_lt_of_cell? W0 _ g1)).trans g1
      have k2 := (hSr.below.cell (p := ⟨b, off + j * 3 + 2, none⟩) (World.block_lt_of_cell? W0 _ g3)).trans g3
      have hcl : ks.len ≤ xcap ∧ xcap ≤ 9223372036854775807 := ⟨g4, g5⟩
      have hsn := Lib.hid (textF_snoc j kids 7 true hd ks rs hdr)
      simp only [wtT] at hwt
      obtain ⟨TJ, HTJ⟩ : ∃ TJ, Hid (textF (kids.take j) 7 true = TJ) := ⟨_, Lib.hid rfl⟩
      rw [HTJ.out] at hSr hlT hsn ⊢
      clear hdr hel g1 g2 g3 g4 g5 g6 g7 hpl hok2
      · have hsn := Lib.hid (show _ = _ from (by have := hsn.out; simpa using this : textF (kids.take (j + 1)) 7 true = TJ ++ partT 7 hd (textOf hd ks)))
        have hS2 := hSr.alloc (.cells #[.int .i64 hd.k, .slice xsa hd.set.length xsc, .slice xa ks.len xcap] 25)
        have hG2 := hGr.trans (Grw.alloc W0.heap.size wr ak (.cells #[.int .i64 hd.k, .slice xsa hd.set.length xsc, .slice xa ks.len xcap] 25))
        have hBx := Blk.new wr 25 #[.int .i64 hd.k, .slice xsa hd.set.length xsc, .slice xa ks.len xcap]
        have hC := appendPart_any W0 7 hd ks xsa xsc xa xcap hTC.out ak _ ck _ _ hS2.below hS2.own (by omega)
        go_wp2_with (first | (go_at_call 62; (with_reducible refine hC.mono ?_); rintro e w4 ⟨a4, c4, rfl, ho4, hg4⟩))
        have hS4 := hS2.grw ho4 hg4
        have hG4 := hG2.trans hg4
        have hlen : n + (textF (kids.take (j + 1)) 7 true).length = n + TJ.length + (partT 7 hd (textOf hd ks)).length := by rw [hsn.out]; simp; omega
        refine ⟨⟨j + 1, a4, c4, by omega, by simp, by rw [hlen], ?_, hG4⟩, by simp [intOf]; omega⟩
        rw [hlen, hsn.out]
        simpa using hS4
    · obtain rfl : j = L := by omega
      have htk : kids.take j = kids := Fo.take_all j kids (by rw [HL.out]; exact Nat.le_refl _)
      rw [htk] at hSr hlT ⊢
      obtain ⟨TJ, HTJ⟩ : ∃ TJ, Hid (textF kids 7 true = TJ) := ⟨_, Lib.hid rfl⟩
      rw [HTJ.out] at hSr hlT hTx ⊢
      clear htk
      obtain ⟨a3, c3, w3, hrun3, ho3, hg3⟩ := step_bytes wr 65 hSr.own 63 (by omega) hSr.below.size (.int .u8 63) rfl
      have Hr3 := Lib.hid hrun3
      have hG3 := hGr.trans hg3
      clear hrun3
      go_wp2_with (first | (at_builtin; refine wpList_append_run rfl _ _ 65 65 rfl _ _ _ _ rfl rfl Hr3.out ?_))
      go_ret
      rw [hTx.out]
      exact ⟨a3, c3, by simp [Nat.add_assoc], by simpa [Nat.add_assoc] using ho3, hG3⟩

theorem text_any : ∀ N, TextN N := by
  intro N
  induction N with
  | zero => intro W0 hh kids sa sc ka kcap hN; omega
  | succ N ih =>
    intro W0 hh kids sa sc ka kcap hN hpl hok hs hI
    rcases plainB_kind hpl with h | h | h | h | h | h | h
    · exact text_leaf W0 hh kids sa sc ka kcap (.inl h) hs
    · exact text_leaf W0 hh kids sa sc ka kcap (.inr h) hs
    · exact text_step3 N ih W0 hh kids sa sc ka kcap hN h hok hI
    · exact text_step4 N ih W0 hh kids sa sc ka kcap hN h hok hI
    · exact text_step5 N ih W0 hh kids sa sc ka kcap hN h hok hI
    · exact text_step6 N ih W0 hh kids sa sc ka kcap hN h hok hI
    · exact text_step7 N ih W0 hh kids sa sc ka kcap hN h hok hI
end Go.Proofs.Ytkdfobnkebkpfaa

/- regex.Text. -/
namespace Go.Proofs.Ytkdfobnkebkpfaa
open Go.RowKit Go.Shelf

attribute [local go_sem] Oper.semAt_some

theorem okF_of_pre : ∀ (f : Fo) (d : Nat), (f.pre d).all (fun x => plainB x.h x.len) = true → okF f := by
  intro f
  induction f with
  | nil => intro d _; trivial
  | cons h kids rest ihk ihr =>
    intro d hp
    simp only [Fo.pre, List.all_cons, List.all_append, Bool.and_eq_true] at hp
    exact ⟨hp.1, ihk _ hp.2.1, ihr _ hp.2.2⟩
/-- Check's answer. -/
def ckE (h : Hd) (kids : Fo) : Int := checkE (Fo.pre 1 (.cons h kids .nil))
theorem ckE_ok {h : Hd} {kids : Fo} (e : ckE h kids = 0) : plainB h kids.len = true ∧ okF kids := by
  unfold ckE checkE at e
  split at e
  · rename_i hp
    have := okF_of_pre (.cons h kids .nil) 1 hp
    exact ⟨this.1, this.2.1⟩
  · cases e
/-- Text's answer. -/
def txE (h : Hd) (kids : Fo) : List UInt8 := if ckE h kids = 0 then textOf h kids else []

set_option maxRecDepth 100000 in
set_option maxHeartbeats 1000000 in
theorem rtext_any (hh : Hd) (kids : Fo) (sa : Option Addr) (sc : Nat) (ka : Option Addr) (kcap : Nat) (w : World) (hss : Sps w sa sc hh.set) (hk : Items w ka kcap kids) (hN : kids.size ≤ 1099511627776) (hwt : 9 * hh.set.length + 12 + wtT kids ≤ 140737488355328) :
    Calls Try.prog 23 #[itemV hh sa sc ka kids.len kcap] w fun e w' => e = .returned (.tuple #[.string ⟨(txE hh kids).toArray⟩, .int .i64 (ckE hh kids)]) ∧ Below w.heap.size w w' := by
  have hck := rcheck_any hh kids sa sc ka kcap (w.alloc (.cells #[.int .i64 hh.k, .slice sa hh.set.length sc, .slice ka kids.len kcap] 25)) (hss.grown ((Below.refl _ w).alloc (Nat.le_refl _) _)) (hk.grown ((Below.refl _ w).alloc (Nat.le_refl _) _)) hN
  have hB0 := Blk.new w 25 #[.int .i64 hh.k, .slice sa hh.set.length sc, .slice ka kids.len kcap]
  have hb0 : Below w.heap.size w (w.alloc (.cells #[.int .i64 hh.k, .slice sa hh.set.length sc, .slice ka kids.len kcap] 25)) := (Below.refl _ w).alloc (Nat.le_refl _) _
  change Calls _ _ _ _ (fun e w' => e = .returned (.int .i64 (ckE hh kids)) ∧ _) at hck
  have htx : Hid (txE hh kids = if ckE hh kids = 0 then textOf hh kids else []) := Lib.hid rfl
  have hokE : Hid (ckE hh kids = 0 → plainB hh kids.len = true ∧ okF kids) := Lib.hid ckE_ok
  generalize ckE hh kids = E at hck htx hokE ⊢
  obtain ⟨X, HX⟩ : ∃ X, Hid (txE hh kids = X) := ⟨_, Lib.hid rfl⟩
  rw [HX.out] at htx ⊢
  by_cases hE : E = 0
  · have hpl := hokE.out hE
    have hE1 : (E != 0) = false := by simp [hE]
    have hT := Lib.hid (text_any (kids.size + 1) w hh kids sa sc ka kcap (by omega) hpl.1 hpl.2 hss hk)
    have hX : Hid (X = textOf hh kids) := Lib.hid (by rw [htx.out, if_pos hE])
    have HE := Lib.hid hE
    obtain ⟨kk, set⟩ := hh
    dsimp only [itemV] at *
    clear hpl hE htx hokE
    go_enter Try.func23, Try.ntmps23
    go_wp2_with (go_at_call 14; (with_reducible refine hck.mono ?_); rintro e w1 ⟨rfl, hb1⟩; have hbx := (hB0.below hb1 hB0.lt); have x0 := hbx.cell 0; have x1 := hbx.cell 1; have x2 := hbx.cell 2; simp only [List.getElem?_cons_zero, List.getElem?_cons_succ] at x0 x1 x2; have hb01 := hb0.trans (hb1.mono hb0.size))
    refine (hT.out none 0 0 [] w1 hb01 (OwnB.nil _ _) (by show 0 + (9 * set.length + 12 + wtT kids) ≤ _; omega)).mono ?_
    rintro e w2 ⟨a2, c2, rfl, ho2, hg2⟩
    have hcv := run_conv w2 ho2.bytes ho2.len
    rw [← hX.out] at ho2 hcv ⊢
    rw [Nat.zero_add] at hcv ⊢
    have hb2 := hb01.trans (hg2.only.below (Nat.le_refl _) hb01.size)
    clear hck hB0 hb0 hb1 hbx x0 x1 x2 hg2 ho2
    go_wp2_with (fail)
    go_ret2
    exact ⟨by rw [HE.out]; rfl, hb2⟩
  · have hE1 : (E != 0) = true := by simp [hE]
    have hX : Hid (X = []) := Lib.hid (by rw [htx.out, if_neg hE])
    clear hE htx hokE
    obtain ⟨kk, set⟩ := hh
    dsimp only [itemV] at *
    go_enter Try.func23, Try.ntmps23
    go_wp2_with (go_at_call 14; (with_reducible refine hck.mono ?_); rintro e w1 ⟨rfl, hb1⟩; have hb01 := hb0.trans (hb1.mono hb0.size))
    go_ret2
    exact ⟨by rw [hX.out]; rfl, hb01⟩
end Go.Proofs.Ytkdfobnkebkpfaa
