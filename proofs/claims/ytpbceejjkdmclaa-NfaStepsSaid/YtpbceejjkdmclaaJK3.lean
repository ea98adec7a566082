/- Texts of layer 2 joined: Kd. -/
import Derived.Test.YtpbceejjkdmclaaJK2
import Derived.Test.YtpbceejjkdmclaaJM
import Derived.BigRegion
set_option linter.unusedVariables false
set_option linter.unusedSimpArgs false
/- Layer 3: star; the reference's SameInts. -/
namespace Go.Proofs.Ytpbceejjkdmclaa
open Go.RowKit Go.Shelf

attribute [local go_sem] Oper.semAt_some

set_option maxRecDepth 100000 in
set_option maxHeartbeats 1000000 in
theorem sameInts_any (a b : Option Addr) (ac bc : Nat) (l m : List Int) (w : World) (hl : Ints w a ac l) (hm : Ints w b bc m) :
    Calls Try.prog 18 #[.slice a l.length ac, .slice b m.length bc] w fun e w' => e = .returned (.bool (decide (l = m))) ∧ Below w.heap.size w w' := by
  have hle := hl.le
  have hmx := hl.max
  have hle2 := hm.le
  have hmx2 := hm.max
  obtain ⟨L, HL⟩ : ∃ L, Hid (l.length = L) := ⟨_, Lib.hid rfl⟩
  obtain ⟨M, HM⟩ : ∃ L, Hid (m.length = L) := ⟨_, Lib.hid rfl⟩
  rw [HL.out] at hle ⊢
  rw [HM.out] at hle2 ⊢
  by_cases hLM : L = M
  · subst hLM
    go_enter Try.func18, Try.ntmps18
    go_wp2_with (fail)
    go_loopw [5, 13] (fun _ i wr => ∃ (k : Nat), k ≤ L ∧ i = .int .i64 (k : Int) ∧ l.take k = m.take k ∧ Below w.heap.size w wr) (fun _ i _ => L - (intOf i).toNat)
    case atStart => exact ⟨0, by omega, rfl, rfl, Below.refl _ w⟩
    case round =>
      obtain ⟨k, hk, rfl, hr, hbr⟩ := hrel
      have HR := Lib.hid hr
      clear hr
      by_cases hlt : k < L
      · have hkl : k < l.length := by rw [HL.out]; exact hlt
        have hkm : k < m.length := by rw [HM.out]; exact hlt
        have hkI : (k : Int) < (L : Int) := by omega
        have hkI0 : (0 : Int) ≤ (k : Int) := by omega
        obtain ⟨b1, o1, rfl⟩ := hl.at_ k hkl
        obtain ⟨b2, o2, rfl⟩ := hm.at_ k hkm
        have c0 := (hl.grown hbr).cell b1 o1 rfl k hkl
        have d0 := (hm.grown hbr).cell b2 o2 rfl k hkm
        obtain ⟨s, HS⟩ : ∃ s, Hid (l[k] = s) := ⟨_, Lib.hid rfl⟩
        obtain ⟨t, HT⟩ : ∃ s, Hid (m[k] = s) := ⟨_, Lib.hid rfl⟩
        rw [HS.out] at c0
        rw [HT.out] at d0
        have hmore : Hid (l.take (k + 1) = l.take k ++ [s] ∧ m.take (k + 1) = m.take k ++ [t]) := Lib.hid ⟨by rw [List.take_add_one, List.getElem?_eq_getElem hkl, HS.out]; rfl, by rw [List.take_add_one, List.getElem?_eq_getElem hkm, HT.out]; rfl⟩
        have hne : Hid (s ≠ t → decide (l = m) = false) := Lib.hid (fun h => decide_eq_false (fun e => h (by rw [← HS.out, ← HT.out]; subst e; rfl)))
        have hbd : Below w.heap.size w wr := hbr
        have hbl := World.block_lt_of_cell? _ _ c0
        have hbl2 := World.block_lt_of_cell? _ _ d0
        by_cases e1 : s = t
        · subst e1
          clear hl hm
          go_wp2_with (fail)
          go_region
          all_goals
            go_wp2_with (fail)
            go_roundw
          case rel => exact ⟨k + 1, by omega, by go_num, by rw [hmore.out.1, hmore.out.2, HR.out], hbd.drew⟩
          case measure => simp [intOf]; omega
        · have e3 : (s == t) = false := by rw [beq_eq_false_iff_ne]; exact e1
          have hF := Lib.hid (hne.out e1)
          clear hl hm
          go_wp2_with (fail)
          go_region
          go_wp2_with (fail)
          exact bodyPost_ret (v := .bool false) (by simp [results, Try.results18, go_sem]; try rfl) rfl ⟨ret_bool hF.out.symm, hbd.drew⟩
      · obtain rfl : k = L := by omega
        have hT : Hid (decide (l = m) = true) := Lib.hid (decide_eq_true (by have := HR.out; rwa [List.take_of_length_le (by rw [HL.out]; exact Nat.le_refl _), List.take_of_length_le (by rw [HM.out]; exact Nat.le_refl _)] at this))
        go_wp2_with (fail)
        exact bodyPost_ret (v := .bool true) (by simp [results, Try.results18, go_sem]; try rfl) rfl ⟨ret_bool hT.out.symm, hbr⟩
  · have hF : Hid (decide (l = m) = false) := Lib.hid (decide_eq_false (fun e => hLM (by rw [← HL.out, ← HM.out, e])))
    have hne : ((L : Int) == (M : Int)) = false := by rw [beq_eq_false_iff_ne]; omega
    go_enter Try.func18, Try.ntmps18
    go_wp2_with (fail)
    all_goals first
      | exact bodyPost_ret (v := .bool false) (by simp [results, Try.results18, go_sem]; try rfl) rfl ⟨ret_bool hF.out.symm, Below.refl _ w⟩
      | (exfalso; omega)

/-- a. -/
abbrev hA : Hd := ⟨2, [⟨97, 97⟩]⟩
/-- a, and a*. -/
abbrev fSt : Fo := .cons hA .nil (.cons ⟨5, []⟩ (.cons hA .nil .nil) .nil)

set_option maxRecDepth 100000 in
set_option maxHeartbeats 1000000 in
theorem star_any (w : World) :
    Calls Try.prog 28 #[] w fun e w' => ∃ b, e = .returned (.slice (some ⟨b, 0, none⟩) 2 2) ∧ Elems w' fSt b 0 ∧ Below w.heap.size w w' := by
  go_enter Try.func28, Try.ntmps28
  go_wp2_with (fail)
  have h0 := (((Blk.new w 79 #[.int .u8 97, .int .u8 97]).alloc (.cells #[.int .i64 2, .slice (some ⟨w.heap.size, 0, none⟩) 1 1, .slice none 0 0] 35)).alloc (.cells #[.int .i64 2, .slice (some ⟨w.heap.size, 0, none⟩) 1 1, .slice none 0 0] 35)).alloc (.cells #[.int .i64 2, .slice (some ⟨w.heap.size, 0, none⟩) 1 1, .slice none 0 0, .int .i64 5, .slice none 0 0, .slice (some ⟨w.heap.size + 1 + 1, 0, none⟩) 1 1] 35)
  have h2 := (blkN ((w.alloc (.cells #[.int .u8 97, .int .u8 97] 79)).alloc (.cells #[.int .i64 2, .slice (some ⟨w.heap.size, 0, none⟩) 1 1, .slice none 0 0] 35)) (w.heap.size + 1 + 1) #[.int .i64 2, .slice (some ⟨w.heap.size, 0, none⟩) 1 1, .slice none 0 0] 35 (by simp)).alloc (.cells #[.int .i64 2, .slice (some ⟨w.heap.size, 0, none⟩) 1 1, .slice none 0 0, .int .i64 5, .slice none 0 0, .slice (some ⟨w.heap.size + 1 + 1, 0, none⟩) 1 1] 35)
  have h3 := blkN (((w.alloc (.cells #[.int .u8 97, .int .u8 97] 79)).alloc (.cells #[.int .i64 2, .slice (some ⟨w.heap.size, 0, none⟩) 1 1, .slice none 0 0] 35)).alloc (.cells #[.int .i64 2, .slice (some ⟨w.heap.size, 0, none⟩) 1 1, .slice none 0 0] 35)) (w.heap.size + 1 + 1 + 1) #[.int .i64 2, .slice (some ⟨w.heap.size, 0, none⟩) 1 1, .slice none 0 0, .int .i64 5, .slice none 0 0, .slice (some ⟨w.heap.size + 1 + 1, 0, none⟩) 1 1] 35 (by simp)
  have hb : Below w.heap.size w ((((w.alloc (.cells #[.int .u8 97, .int .u8 97] 79)).alloc (.cells #[.int .i64 2, .slice (some ⟨w.heap.size, 0, none⟩) 1 1, .slice none 0 0] 35)).alloc (.cells #[.int .i64 2, .slice (some ⟨w.heap.size, 0, none⟩) 1 1, .slice none 0 0] 35)).alloc (.cells #[.int .i64 2, .slice (some ⟨w.heap.size, 0, none⟩) 1 1, .slice none 0 0, .int .i64 5, .slice none 0 0, .slice (some ⟨w.heap.size + 1 + 1, 0, none⟩) 1 1] 35)) := ((((Below.refl _ w).alloc (Nat.le_refl _) _).alloc (by simp) _).alloc (by simp; omega) _).alloc (by simp; omega) _
  generalize ((((w.alloc (.cells #[.int .u8 97, .int .u8 97] 79)).alloc (.cells #[.int .i64 2, .slice (some ⟨w.heap.size, 0, none⟩) 1 1, .slice none 0 0] 35)).alloc (.cells #[.int .i64 2, .slice (some ⟨w.heap.size, 0, none⟩) 1 1, .slice none 0 0] 35)).alloc (.cells #[.int .i64 2, .slice (some ⟨w.heap.size, 0, none⟩) 1 1, .slice none 0 0, .int .i64 5, .slice none 0 0, .slice (some ⟨w.heap.size + 1 + 1, 0, none⟩) 1 1] 35)) = W at h0 h2 h3 hb ⊢
  have sA : Sps W (some ⟨w.heap.size, 0, none⟩) 1 [⟨97, 97⟩] := by
    refine ⟨by simp, by omega, fun e => (by cases e), fun i _ => ⟨_, _, rfl⟩, fun b off e i hi => ?_⟩
    cases e
    obtain rfl : i = 0 := by simp at hi; omega
    exact ⟨h0.cell 0, h0.cell 1⟩
  have eA : ∀ (b off : Nat), W.cell? ⟨b, off, none⟩ = some (.int .i64 2) → W.cell? ⟨b, off + 1, none⟩ = some (.slice (some ⟨w.heap.size, 0, none⟩) 1 1) → W.cell? ⟨b, off + 2, none⟩ = some (.slice none 0 0) → ∀ r, Elems W r b (off + 3) → Elems W (.cons hA .nil r) b off := fun b off c0 c1 c2 r hr => ⟨c0, ⟨_, _, c1, sA⟩, ⟨none, 0, c2, Nat.le_refl _, by omega, fun _ => rfl, fun h => absurd h (Nat.lt_irrefl _)⟩, hr⟩
  have e2 : Elems W (.cons hA .nil .nil) (w.heap.size + 1 + 1) 0 := eA _ _ (h2.cell 0) (h2.cell 1) (h2.cell 2) _ trivial
  have e3 : Elems W fSt (w.heap.size + 1 + 1 + 1) 0 := eA _ _ (h3.cell 0) (h3.cell 1) (h3.cell 2) _ ⟨h3.cell 3, ⟨none, 0, h3.cell 4, Sps.nil W⟩, ⟨_, 1, h3.cell 5, by decide, by omega, fun e => (by cases e), fun _ => ⟨_, _, rfl, e2⟩⟩, trivial⟩
  exact bodyPost_ret (v := .slice (some ⟨w.heap.size + 1 + 1 + 1, 0, none⟩) 2 2) (by simp [results, Try.results28, go_sem]) rfl ⟨_, rfl, e3, hb⟩
/-- Where the expressions of a list begin. -/
theorem Items.of {w : World} {f : Fo} {b off cap : Nat} (h : Elems w f b off) (hl : f.len ≤ cap) (hc : cap ≤ 9223372036854775807) : Items w (some ⟨b, off, none⟩) cap f :=
  ⟨hl, hc, fun e => (by cases e), fun _ => ⟨_, _, rfl, h⟩⟩
/-- The second one alone. -/
abbrev fS1 : Fo := .cons ⟨5, []⟩ (.cons hA .nil .nil) .nil
theorem st_err : errF fSt = 0 ∧ errF fS1 = 0 ∧ stF fSt = 4 ∧ stF fS1 = 3 := ⟨by kernel_rfl, by kernel_rfl, by kernel_rfl, by kernel_rfl⟩
theorem st_size : fSt.size = 3 ∧ fS1.size = 2 := ⟨by kernel_rfl, by kernel_rfl⟩
theorem st_nfB : nfB (autF fSt) = true := by kernel_rfl
theorem st_n : (autF fSt).n = 5 ∧ (autF fSt).es.length = 5 ∧ (autF fSt).ends.length = 2 := ⟨rfl, rfl, rfl⟩
theorem s1_edges : (autF fS1).es.length = 4 ∧ (autF fS1).n = 4 := ⟨rfl, rfl⟩
theorem mA_is (s : List UInt8) : mL hA .nil s ↔ s = [97] := by
  show (∃ c : UInt8, s = [c] ∧ inSp [⟨97, 97⟩] c.toNat = true) ↔ _
  constructor
  · rintro ⟨c, rfl, h⟩
    have : c = 97 := by
      simp [inSp] at h
      have h2 : c.toNat = 97 := by omega
      exact UInt8.toNat_inj.1 h2
    rw [this]
  · rintro rfl
    exact ⟨97, rfl, rfl⟩
open Classical in
theorem st_run : runP (autF fSt) [97] = [0, 1] ∧ runP (autF fSt) [] = [1] := by
  obtain ⟨h1, _, h3, _⟩ := st_err
  have ho := okF_err _ h1
  have hr := run_is ho (by rw [h3]; omega)
  have hlen : (autF fSt).ends.length = 2 := (aut_n ho).2.2
  have hls : lsF fSt = [mL hA .nil, mL ⟨5, []⟩ (.cons hA .nil .nil)] := rfl
  have a0 : mL hA .nil [97] := (mA_is _).2 rfl
  have a1 : mL ⟨5, []⟩ (.cons hA .nil .nil) [97] := by
    show Star (exL hA (foL .nil)) [97]
    exact Star.app (u := [97]) (v := []) a0 .nil
  have b0 : ¬ mL hA .nil [] := fun h => by have := (mA_is _).1 h; cases this
  have b1 : mL ⟨5, []⟩ (.cons hA .nil .nil) [] := Star.nil
  have key : ∀ s, runP (autF fSt) s = (List.range 2).filter (fun i => decide (i ∈ runP (autF fSt) s)) := fun s => by
    conv => lhs; unfold runP
    rw [hlen]
    refine List.filter_congr (fun i hi => ?_)
    congr 1
    unfold runP
    rw [hlen]
    simp only [List.mem_filter, decide_eq_true_eq, eq_iff_iff]
    exact ⟨fun h => ⟨hi, h⟩, fun h => h.2⟩
  constructor
  · rw [key]
    have c0 : 0 ∈ runP (autF fSt) [97] := (hr _ _).2 ⟨_, by rw [hls]; rfl, a0⟩
    have c1 : 1 ∈ runP (autF fSt) [97] := (hr _ _).2 ⟨_, by rw [hls]; rfl, a1⟩
    simp [List.range, List.range.loop, c0, c1]
  · rw [key]
    have c0 : ¬ 0 ∈ runP (autF fSt) [] := fun h => by
      obtain ⟨L, e, hL⟩ := (hr _ _).1 h
      rw [hls] at e
      simp only [List.getElem?_cons_zero, Option.some.injEq] at e
      subst e
      exact b0 hL
    have c1 : 1 ∈ runP (autF fSt) [] := (hr _ _).2 ⟨_, by rw [hls]; rfl, b1⟩
    simp [List.range, List.range.loop, c0, c1]
end Go.Proofs.Ytpbceejjkdmclaa
