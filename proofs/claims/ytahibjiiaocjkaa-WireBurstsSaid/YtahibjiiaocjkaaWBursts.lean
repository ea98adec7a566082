/- The law WireBursts. -/
import Derived.Test.YtahibjiiaocjkaaWSeals
import Derived.Test.YtahibjiiaocjkaaBurst2
namespace Go.Proofs.Ytahibjiiaocjkaa
open Go.RowKit

/-- What a seal lies in: a block of the call's own, known whole. -/
theorem blk_of_own {w : World} {base n cap : Nat} {a : Option Addr} {xs : List UInt8} (h : OwnB w base a n cap xs) (hp : 0 < n) :
    ∃ g rest, a = some ⟨g, 0, none⟩ ∧ base ≤ g ∧ n ≤ cap ∧ cap ≤ 9223372036854775807 ∧ Blk w g 5 (xs.map bv ++ rest) := by
  rcases h.2 with ⟨_, e⟩ | ⟨g, c, cur, e, hg, hr, hle, hm, hs, ht⟩
  · omega
  · cases e
    refine ⟨g, cur.toList.drop (n * 1), rfl, hg, hle, by unfold maxLen at hm; omega, ?_⟩
    unfold Blk
    rw [← ht, List.take_append_drop]
    exact hr

theorem at_in (A : Int) (M : Int) (h1 : 32 ≤ M) (h2 : M ≤ 800032) : ∃ T : Nat, (wrap64 (A.tmod M + M)).tmod M = (T : Int) ∧ (T : Int) < M := by
  have hlt : A.tmod M < M := Int.tmod_lt_of_pos A (by omega)
  have hgt : -M < A.tmod M := by
    have := Int.lt_tmod_of_pos A (b := M) (by omega)
    omega
  generalize A.tmod M = q at hlt hgt
  have hw : wrap64 (q + M) = q + M := by unfold wrap64; omega
  rw [hw]
  refine ⟨((q + M).tmod M).toNat, ?_, ?_⟩
  · rw [Int.toNat_of_nonneg (Int.tmod_nonneg _ (by omega))]
  · rw [Int.toNat_of_nonneg (Int.tmod_nonneg _ (by omega))]
    exact Int.tmod_lt_of_pos _ (by omega)

theorem and_bit {B : Nat} (hB : B < 4294967296) (k : Nat) : bits .and .u32 ((B : Int) / 2 ^ k) 1 = ((B / 2 ^ k % 2 : Nat) : Int) := by
  have e : (B : Int) / 2 ^ k = ((B / 2 ^ k : Nat) : Int) := by norm_cast
  have h : B / 2 ^ k < 4294967296 := Nat.lt_of_le_of_lt (Nat.div_le_self _ _) hB
  rw [e]
  generalize B / 2 ^ k = x at h
  have := bits_mask .u32 32 (by decide) (fun n h0 h1 => by rw [IntKind.wrap_u32]; omega) 1 (by decide) (x : Int) (by omega) (by omega)
  have h2 : bits .and .u32 (x : Int) 1 = (x : Int) % 2 := by simpa using this
  rw [h2]; omega
theorem bit_yes {B : Nat} (hB : B < 4294967296) {k : Nat} (h : bits .and .u32 ((B : Int) / 2 ^ k) 1 = 1) : B.testBit k = true := by
  rw [and_bit hB] at h
  rw [Nat.testBit_eq_decide_div_mod_eq]
  exact decide_eq_true (by omega)
theorem bit_no {B : Nat} (hB : B < 4294967296) {k : Nat} (h : ¬ bits .and .u32 ((B : Int) / 2 ^ k) 1 = 1) : ¬ B.testBit k = true := by
  rw [and_bit hB] at h
  rw [Nat.testBit_eq_decide_div_mod_eq]
  intro e
  exact h (by have := of_decide_eq_true e; omega)
theorem xor_flip (c : UInt8) {j : Nat} (hj : j < 8) : bits .xor .u8 (c.toNat : Int) ((2 : Int) ^ j % 256) = ((flipB c j).toNat : Int) := by
  have key : ∀ (c : Fin 256) (j : Fin 8), bits .xor .u8 (c.val : Int) ((2 : Int) ^ j.val % 256) = ((c.val ^^^ 2 ^ j.val : Nat) : Int) := by decide +kernel
  rw [flipB_nat c hj]
  exact key ⟨c.toNat, c.toNat_lt⟩ ⟨j, hj⟩
theorem flip_cells {w : World} {g : Nat} {P rest : _} {T k : Nat} {c : UInt8} (hB : Blk w g 5 (List.map bv P ++ rest)) (hc : P[4 + (T + k) / 8]? = some c) :
    Blk (w.setCell ⟨g, 4 + (T + k) / 8, none⟩ (.int .u8 (bits .xor .u8 (c.toNat : Int) ((2 : Int) ^ ((T + k) % 8) % 256)))) g 5 (List.map bv (flipAt P (32 + T + k)) ++ rest) := by
  have hl := (List.getElem?_eq_some_iff.1 hc).1
  have h := hB.set (4 + (T + k) / 8) (.int .u8 (bits .xor .u8 (c.toNat : Int) ((2 : Int) ^ ((T + k) % 8) % 256)))
  rw [List.set_append_left _ _ (by simpa using hl), xor_flip c (by omega), show Value.int IntKind.u8 ((flipB c ((T + k) % 8)).toNat : Int) = bv (flipB c ((T + k) % 8)) from rfl, ← List.map_set] at h
  rw [xor_flip c (by omega)]
  unfold flipAt
  rw [show (32 + T + k) / 8 = 4 + (T + k) / 8 from by omega, show (32 + T + k) % 8 = (T + k) % 8 from by omega, List.getD_eq_getElem?_getD, hc]
  exact h

set_option maxRecDepth 100000 in
set_option maxHeartbeats 1000000 in
theorem wireBursts_any (a : Option Addr) (n cap : Nat) (A : Int) (B : Nat) (xs : List UInt8) (w : World) (hA : (Lit.int .i64 A).wf = true) (hB : B < 4294967296) (hb : Bytes w a cap xs) (hn : n = xs.length) :
    Calls Try.prog 9 #[.slice a n cap, .int .i64 A, .int .u32 (B : Int)] w fun e w' => e = .returned (.bool true) ∧ Below w.heap.size w w' := by
  have Hn := Lib.hid hn
  clear hn
  go_enter Try.func9, Try.ntmps9
  go_wp2_with (fail)
  refine (live_any w).mono ?_
  rintro e w1 ⟨rfl, hb1⟩
  go_wp2_with (fail)
  · exact bodyPost_ret (v := .bool true) (by simp [results, Try.results9, go_sem]; try rfl) rfl ⟨rfl, hb1⟩
  · have Hl : Hid (n ≤ 100000) := by refine Lib.hid ?_; omega
    refine (wseal_n a n cap xs w1 (hb.grown hb1) Hn.out (by have := Hl.out; omega)).mono ?_
    rintro e w2 ⟨a2, c2, rfl, ho2, hbl2⟩
    obtain ⟨K, HK, HKn⟩ : ∃ K, Hid ((sealed xs).length = K) ∧ Hid (K = n + 8) := ⟨_, Lib.hid rfl, Lib.hid (by rw [sealed_length, Hn.out])⟩
    rw [HK.out] at ho2 ⊢
    obtain ⟨g, rest, rfl, hg, hKc, hcm, hB2⟩ := blk_of_own ho2 (by have := HKn.out; omega)
    have hb2 : Below w.heap.size w w2 := hb1.trans (hbl2.mono hb1.size)
    have Hg : Hid (w.heap.size ≤ g) := Lib.hid (Nat.le_trans hb1.size hg)
    clear hbl2 hb1 hg ho2 hb
    have hK0 : 8 ≤ K ∧ K ≤ 100008 := by have := HKn.out; have := Hl.out; omega
    go_wp2_with (fail)
    obtain ⟨T, hT, hTl⟩ := at_in A (8 * (K : Int) - 32) (by omega) (by omega)
    rw [hT]
    clear hT
    obtain ⟨M, HM⟩ : ∃ M : Nat, Hid (M + 32 = 8 * K) := ⟨8 * K - 32, Lib.hid (by omega)⟩
    go_loopw [10, 11, 39] (fun t _ i wr => ∃ k : Nat, k ≤ 32 ∧ i = .int .i64 k ∧ t = .bool (turned (sealed xs) T B M k).2 ∧ Blk wr g 5 ((turned (sealed xs) T B M k).1.map bv ++ rest) ∧ w2.grownBy wr (some g)) (fun _ _ i _ => 32 - (intOf i).toNat)
    case atStart => exact ⟨0, by omega, rfl, rfl, hB2, ⟨rfl, rfl, rfl, Nat.le_refl _, fun _ _ _ => rfl⟩⟩
    case round =>
      obtain ⟨k, hk, rfl, rfl, hBr, hg⟩ := hrel
      by_cases hlt : k < 32
      · clear hB2
        have hPl : (turned (sealed xs) T B M k).1.length = K := by rw [turned_length, HK.out]
        have HM' := HM.out
        have HS : Hid (turned (sealed xs) T B M (k + 1) = if B.testBit k = true ∧ T + k < M then (flipAt (turned (sealed xs) T B M k).1 (32 + T + k), true) else turned (sealed xs) T B M k) := Lib.hid rfl
        generalize hP : turned (sealed xs) T B M k = P at hBr hPl HS ⊢
        clear hP
        have hPl' := Lib.hid hPl
        clear hPl
        by_cases hin : T + k < M
        · obtain ⟨c, Hc, hcell, hfro⟩ : ∃ c : UInt8, Hid (P.1[4 + (T + k) / 8]? = some c) ∧ wr.cell? ⟨g, 4 + (T + k) / 8, none⟩ = some (.int .u8 (c.toNat : Int)) ∧ wr.frozen? ⟨g, 4 + (T + k) / 8, none⟩ = false := by
            have hl : 4 + (T + k) / 8 < P.1.length := by rw [hPl'.out]; omega
            refine ⟨P.1[4 + (T + k) / 8], Lib.hid (List.getElem?_eq_getElem hl), ?_, hBr.frozen _⟩
            rw [hBr.cell, List.getElem?_append_left (by simpa using hl), List.getElem?_map, List.getElem?_eq_getElem hl]
            rfl
          have h8 := byte_lt c
          go_wp2
          · have hbit : B.testBit k = true := bit_yes hB (by assumption)
            rw [if_pos ⟨hbit, hin⟩] at HS
            go_roundw
            case rel => exact ⟨k + 1, by omega, by go_num, by rw [HS.out], by rw [HS.out]; exact flip_cells hBr Hc.out, grownBy_trans hg (grownBy_set _ _ _ _) (fun i e => .inl e)⟩
            case measure => simp [intOf]; omega
          · rename_i hno
            rw [if_neg (fun h => bit_no hB (by simpa using hno) h.1)] at HS
            go_roundw
            case rel => exact ⟨k + 1, by omega, by go_num, by rw [HS.out], by rw [HS.out]; exact hBr, hg⟩
            case measure => simp [intOf]; omega
        · rw [if_neg (fun h => hin h.2)] at HS
          go_wp2
          all_goals
            go_roundw
            case rel => exact ⟨k + 1, by omega, by go_num, by rw [HS.out], by rw [HS.out]; exact hBr, hg⟩
            case measure => simp [intOf]; omega
      · obtain rfl : k = 32 := by omega
        have HE : Hid (openE (turned (sealed xs) T B M 32).1 = if (turned (sealed xs) T B M 32).2 = true then 12 else 0) := by
          have hM := HM.out
          have hKn := HKn.out
          have hl := Hl.out
          have hn := Hn.out
          have e : M = 8 * xs.length + 32 := by omega
          rw [e]
          exact Lib.hid (burst_found xs T B (by omega) (by omega))
        have HL : Hid (K = (turned (sealed xs) T B M 32).1.length) := Lib.hid (by rw [turned_length, HK.out])
        generalize turned (sealed xs) T B M 32 = P at hBr HE HL ⊢
        obtain ⟨ys, t⟩ := P
        have hby : Bytes wr (some ⟨g, 0, none⟩) c2 ys := by
          refine ⟨by have := HL.out; simp only at this; omega, hcm, fun i _ => ⟨g, 0, rfl⟩, fun b o e i hi => ?_, fun e => by cases e⟩
          cases e
          rw [hBr.cell, Nat.zero_add, List.getElem?_append_left (by simpa using hi), List.getElem?_map, List.getElem?_eq_getElem hi]
          rfl
        have hbw : Below w.heap.size w wr := hb2.trans ⟨hg.os, hg.tape, hg.output, hg.size, fun k hk => hg.block k (Nat.lt_of_lt_of_le hk hb2.size) (fun e => by cases e; have := Hg.out; omega)⟩
        have HLo := Lib.hid HL.out
        clear hB2 hb2 hBr hg hlt hk HL
        go_wp2_with (fail)
        obtain ⟨V, J, N, E, HO, HEE⟩ : ∃ (V : List UInt8) (J : Nat) (N E : Int), (∀ w e w', Opened ys w e w' → ∃ a' c', e = .returned (.tuple #[.slice a' J c', .int .i64 N, .int .i64 E]) ∧ OwnB w' w.heap.size a' J c' V ∧ Below w.heap.size w w') ∧ E = if t = true then 12 else 0 :=
          ⟨openV ys, (openV ys).length, openN ys, openE ys, fun _ _ _ h => h, by have h : openE ys = if t = true then 12 else 0 := HE.out; rw [h]; split <;> rfl⟩
        refine (wopen_any (some ⟨g, 0, none⟩) K c2 ys wr hby HLo.out).mono ?_
        intro e w3 hop
        obtain ⟨a3, c3, rfl, _, hbl3⟩ := HO _ _ _ hop
        clear hop HO HE hby
        have hb3 : Below w.heap.size w w3 := hbw.trans (hbl3.mono hbw.size)
        clear hbl3
        cases t
        · obtain rfl : E = 0 := by simpa using HEE
          clear HEE
          go_wp2_with (fail)
          exact bodyPost_ret (v := .bool true) (by simp [results, Try.results9, go_sem]; try rfl) rfl ⟨rfl, hb3⟩
        · obtain rfl : E = 12 := by simpa using HEE
          clear HEE
          go_wp2_with (fail)
          exact bodyPost_ret (v := .bool true) (by simp [results, Try.results9, go_sem]; try rfl) rfl ⟨rfl, hb3⟩
  · exact bodyPost_ret (v := .bool true) (by simp [results, Try.results9, go_sem]; try rfl) rfl ⟨rfl, hb1⟩
end Go.Proofs.Ytahibjiiaocjkaa
