/- Texts joined: Kd Ke Kf. -/
import Derived.Test.YtngbfjimmdkfeaaPBK2
import Derived.Test.YtngbfjimmdkfeaaPBM
import Derived.BigRegion
set_option linter.unusedVariables false
set_option linter.unusedSimpArgs false
namespace Go.Proofs.Ytngbfjimmdkfeaa
open Go.RowKit Go.Shelf

attribute [local go_sem] Oper.semAt_some

set_option maxRecDepth 100000 in
set_option maxHeartbeats 1000000 in
theorem sameInts_any (a b : Option Addr) (ac bc : Nat) (l m : List Int) (w : World) (hl : Ints w a ac l) (hm : Ints w b bc m) :
    Calls Try.prog 42 #[.slice a l.length ac, .slice b m.length bc] w fun e w' => e = .returned (.bool (decide (l = m))) ∧ Below w.heap.size w w' := by
  have hle := hl.le
  have hmx := hl.max
  have hle2 := hm.le
  have hmx2 := hm.max
  obtain ⟨L, HL⟩ : ∃ L, Hid (l.length = L) := ⟨_, Lib.hid rfl⟩
  obtain ⟨M, HM⟩ : ∃ L, Hid (m.length = L) := ⟨_, Lib.hid rfl⟩
  rw [HL.out] at hle ⊢
  rw [HM.out] at hle2 ⊢
  by_cases hLM : L = M
  · subst hLM
    go_enter Try.func42, Try.ntmps42
    go_wp2_with (fail)
    go_loopw [5, 13] (fun _ i wr => ∃ (k : Nat), k ≤ L ∧ i = .int .i64 (k : Int) ∧ l.take k = m.take k ∧ Below w.heap.size w wr) (fun _ i _ => L - (intOf i).toNat)
    case atStart => exact ⟨0, by omega, rfl, rfl, Below.refl _ w⟩
    case round =>
      obtain ⟨k, hk, rfl, hr, hbr⟩ := hrel
      have HR := Lib.hid hr
      clear hr
      by_cases hlt : k < L
      · have hkl : k < l.length := by rw [HL.out]; exact hlt
        have hkm : k < m.length := by rw [HM.out]; exact hlt
        have hkI : (k : Int) < (L : Int) := by omega
        have hkI0 : (0 : Int) ≤ (k : Int) := by omega
        obtain ⟨b1, o1, rfl⟩ := hl.at_ k hkl
        obtain ⟨b2, o2, rfl⟩ := hm.at_ k hkm
        have c0 := (hl.grown hbr).cell b1 o1 rfl k hkl
        have d0 := (hm.grown hbr).cell b2 o2 rfl k hkm
        obtain ⟨s, HS⟩ : ∃ s, Hid (l[k] = s) := ⟨_, Lib.hid rfl⟩
        obtain ⟨t, HT⟩ : ∃ s, Hid (m[k] = s) := ⟨_, Lib.hid rfl⟩
        rw [HS.out] at c0
        rw [HT.out] at d0
        have hmore : Hid (l.take (k + 1) = l.take k ++ [s] ∧ m.take (k + 1) = m.take k ++ [t]) := Lib.hid ⟨by rw [List.take_add_one, List.getElem?_eq_getElem hkl, HS.out]; rfl, by rw [List.take_add_one, List.getElem?_eq_getElem hkm, HT.out]; rfl⟩
        have hne : Hid (s ≠ t → decide (l = m) = false) := Lib.hid (fun h => decide_eq_false (fun e => h (by rw [← HS.out, ← HT.out]; subst e; rfl)))
        have hbd : Below w.heap.size w wr := hbr
        have hbl := World.block_lt_of_cell? _ _ c0
        have hbl2 := World.block_lt_of_cell? _ _ d0
        by_cases e1 : s = t
        · subst e1
          clear hl hm
          go_wp2_with (fail)
          go_region
          all_goals
            go_wp2_with (fail)
            go_roundw
          case rel => exact ⟨k + 1, by omega, by go_num, by rw [hmore.out.1, hmore.out.2, HR.out], hbd.drew⟩
          case measure => simp [intOf]; omega
        · have e3 : (s == t) = false := by rw [beq_eq_false_iff_ne]; exact e1
          have hF := Lib.hid (hne.out e1)
          clear hl hm
          go_wp2_with (fail)
          go_region
          go_wp2_with (fail)
          exact bodyPost_ret (v := .bool false) (by simp [results, Try.results42, go_sem]; try rfl) rfl ⟨ret_bool hF.out.symm, hbd.drew⟩
      · obtain rfl : k = L := by omega
        have hT : Hid (decide (l = m) = true) := Lib.hid (decide_eq_true (by have := HR.out; rwa [List.take_of_length_le (by rw [HL.out]; exact Nat.le_refl _), List.take_of_length_le (by rw [HM.out]; exact Nat.le_refl _)] at this))
        go_wp2_with (fail)
        exact bodyPost_ret (v := .bool true) (by simp [results, Try.results42, go_sem]; try rfl) rfl ⟨ret_bool hT.out.symm, hbr⟩
  · have hF : Hid (decide (l = m) = false) := Lib.hid (decide_eq_false (fun e => hLM (by rw [← HL.out, ← HM.out, e])))
    have hne : ((L : Int) == (M : Int)) = false := by rw [beq_eq_false_iff_ne]; omega
    go_enter Try.func42, Try.ntmps42
    go_wp2_with (fail)
    all_goals first
      | exact bodyPost_ret (v := .bool false) (by simp [results, Try.results42, go_sem]; try rfl) rfl ⟨ret_bool hF.out.symm, Below.refl _ w⟩
      | (exfalso; omega)

/-- a. -/
abbrev hA : Hd := ⟨2, [⟨97, 97⟩]⟩
/-- a, and a*. -/
abbrev fSt : Fo := .cons hA .nil (.cons ⟨5, []⟩ (.cons hA .nil .nil) .nil)

/-- Where the expressions of a list begin. -/
theorem Items.of {w : World} {f : Fo} {b off cap : Nat} (h : Elems w f b off) (hl : f.len ≤ cap) (hc : cap ≤ 9223372036854775807) : Items w (some ⟨b, off, none⟩) cap f :=
  ⟨hl, hc, fun e => (by cases e), fun _ => ⟨_, _, rfl, h⟩⟩
/-- The second one alone. -/
abbrev fS1 : Fo := .cons ⟨5, []⟩ (.cons hA .nil .nil) .nil
theorem st_err : errF fSt = 0 ∧ errF fS1 = 0 ∧ stF fSt = 4 ∧ stF fS1 = 3 := ⟨by kernel_rfl, by kernel_rfl, by kernel_rfl, by kernel_rfl⟩
theorem st_size : fSt.size = 3 ∧ fS1.size = 2 := ⟨by kernel_rfl, by kernel_rfl⟩
theorem st_nfB : nfB (autF fSt) = true := by kernel_rfl
theorem st_n : (autF fSt).n = 5 ∧ (autF fSt).es.length = 5 ∧ (autF fSt).ends.length = 2 := ⟨rfl, rfl, rfl⟩
end Go.Proofs.Ytngbfjimmdkfeaa

namespace Go.Proofs.Ytngbfjimmdkfeaa
open Go.RowKit Go.Shelf

attribute [local go_sem] Oper.semAt_some

theorem lit_ints (w : World) (l : List Int) : Ints (w.alloc (.cells ((l.map (fun v => Value.int .i64 v)).toArray) 3)) (some ⟨w.heap.size, 0, none⟩) l.length l ∨ 9223372036854775807 < l.length := by
  by_cases h : l.length ≤ 9223372036854775807
  · refine .inl ⟨Nat.le_refl _, h, fun e => (by cases e), fun i _ => ⟨_, _, rfl⟩, fun b off e i hi => ?_⟩
    cases e
    have := (Blk.new w 3 ((l.map (fun v => Value.int .i64 v)).toArray)).cell i
    rw [Nat.zero_add, this]
    simp [List.getElem?_eq_getElem hi]
  · exact .inr (by omega)
end Go.Proofs.Ytngbfjimmdkfeaa

namespace Go.Proofs.Ytngbfjimmdkfeaa
open Go.RowKit Go.Shelf

attribute [local go_sem] Oper.semAt_some

set_option maxRecDepth 100000 in
set_option maxHeartbeats 1000000 in
theorem inI_any (l : List Nat) (a : Option Addr) (cap : Nat) (v : Nat) (w : World) (hl : IntsN w a cap l) :
    Calls Try.prog 43 #[.slice a l.length cap, .int .i64 (v : Int)] w fun e w' => e = .returned (.bool (decide (v ∈ l))) ∧ w' = w := by
  have hlm : l.length ≤ cap ∧ cap ≤ 9223372036854775807 := ⟨by have := hl.le; rw [List.length_map] at this; exact this, hl.max⟩
  obtain ⟨L, HL⟩ : ∃ L, Hid (l.length = L) := ⟨_, Lib.hid rfl⟩
  rw [HL.out] at hlm ⊢
  obtain ⟨B, HB⟩ : ∃ B, Hid (decide (v ∈ l) = B) := ⟨_, Lib.hid rfl⟩
  rw [HB.out]
  go_enter Try.func43, Try.ntmps43
  go_wp2_with (fail)
  go_loopw [6, 9] (fun _ i wr => ∃ (k : Nat), k ≤ L ∧ i = .int .i64 k ∧ B = decide (v ∈ l.drop k) ∧ wr = w) (fun _ i _ => L - (intOf i).toNat)
  case atStart => exact ⟨0, by omega, rfl, HB.out.symm, rfl⟩
  case round =>
    obtain ⟨k, hk, rfl, hr, rfl⟩ := hrel
    have HR := Lib.hid hr
    clear hr
    by_cases hlt : k < L
    · have hkI : (k : Int) < (L : Int) := by omega
      have hkI0 : (0 : Int) ≤ (k : Int) := by omega
      have hkl : k < l.length := by rw [HL.out]; exact hlt
      obtain ⟨b, off, rfl⟩ := hl.at_ k (by rw [List.length_map]; exact hkl)
      have c0 := hl.cell b off rfl k (by rw [List.length_map]; exact hkl)
      rw [List.getElem_map] at c0
      have hbl := World.block_lt_of_cell? _ _ c0
      have hdr : Hid (l.drop k = l[k] :: l.drop (k + 1)) := Lib.hid (List.drop_eq_getElem_cons hkl)
      obtain ⟨u, hu⟩ : ∃ u, Hid (l[k] = u) := ⟨_, Lib.hid rfl⟩
      rw [hu.out] at c0 hdr
      by_cases he : u = v
      · have HT : Hid (B = true) := Lib.hid (by rw [HR.out, hdr.out, he]; simp)
        subst he
        go_wp2_with (fail)
        exact bodyPost_ret (v := .bool true) (by simp [results, Try.results43, go_sem]; try rfl) rfl ⟨ret_bool (by rw [HT.out]), rfl⟩
      · have heI : ((u : Int) == (v : Int)) = false := by rw [beq_eq_false_iff_ne]; omega
        have HN : Hid (B = decide (v ∈ l.drop (k + 1))) := Lib.hid (by
          rw [HR.out, hdr.out]
          simp [Ne.symm he])
        go_wp2_with (fail)
        exact ⟨⟨k + 1, by omega, by simp, HN.out, trivial⟩, by simp [intOf]; omega⟩
    · obtain rfl : k = L := by omega
      have hkI : ¬ (k : Int) < (k : Int) := by omega
      have HK : Hid (B = false) := Lib.hid (by rw [HR.out, List.drop_eq_nil_of_le (by rw [HL.out]; exact Nat.le_refl _)]; simp)
      go_wp2_with (fail)
      exact bodyPost_ret (v := .bool false) (by simp [results, Try.results43, go_sem]; try rfl) rfl ⟨ret_bool (by rw [HK.out]), rfl⟩
end Go.Proofs.Ytngbfjimmdkfeaa

