/- wire.readNum, wire.readText. -/
import Derived.Test.YtahibjiiaocjkaaRdCount
namespace Go.Proofs.Ytahibjiiaocjkaa
open Go.RowKit

/-- No item. -/
abbrev zeroV : Value := .agg #[.int .i64 0, .int .i64 0, .string ⟨#[]⟩, .slice none 0 0]

set_option maxRecDepth 100000 in
set_option maxHeartbeats 1000000 in
theorem readNum_short (a : Option Addr) (n cap : Nat) (w : World) (hn : n < 8) :
    Calls Try.prog 52 #[.slice a n cap] w fun e w' => e = .returned (.tuple #[zeroV, .int .i64 0, .int .i64 10]) ∧ Below w.heap.size w w' := by
  have hlt : (n : Int) < 8 := by omega
  go_enter Try.func52, Try.ntmps52
  go_wp2_with (fail)
  exact bodyPost_ret (v := .tuple #[zeroV, .int .i64 0, .int .i64 10]) (by simp [results, Try.results52, go_sem]; try rfl) rfl ⟨rfl, (Below.refl _ w).alloc (Nat.le_refl _) _⟩

set_option maxRecDepth 100000 in
set_option maxHeartbeats 1000000 in
theorem readNum_any (a : Option Addr) (n cap : Nat) (xs : List UInt8) (w : World) (hb : Bytes w a cap xs) (hn : n = xs.length) (h8 : 8 ≤ n) :
    Calls Try.prog 52 #[.slice a n cap] w fun e w' => e = .returned (.tuple #[itemV ⟨1, s64 (hiV (xs.take 8)), ByteArray.empty⟩ none 0 0, .int .i64 8, .int .i64 0]) ∧ Below w.heap.size w w' := by
  have hge : ¬ (n : Int) < 8 := by omega
  have hle := hb.le
  rw [← hn] at hle
  have hmx := hb.max
  have h8c : (8 : Int) ≤ (cap : Int) := by omega
  have hp := hb.part (lo := 0) (hi := 8) (a' := a) (by omega) (by omega) (fun b off e _ => by simpa using e) (fun e => e) (fun e => e)
  simp only [List.drop_zero, Nat.sub_zero] at hp
  obtain ⟨V, HV⟩ : ∃ V, Hid (V = hiV (xs.take 8)) := ⟨_, Lib.hid rfl⟩
  have hV64 : V < 18446744073709551616 := by
    have := hiV_lt (xs.take 8)
    rw [List.length_take, ← HV.out] at this
    exact Nat.lt_of_lt_of_le this (pow256_le (by omega))
  have hs : IntKind.i64.wrap (V : Int) = s64 V := by rw [IntKind.wrap_i64]; unfold s64; split <;> omega
  have Hn := Lib.hid hn
  have Hs := Lib.hid hs
  rw [← HV.out]
  clear hn hs
  go_enter Try.func52, Try.ntmps52
  have hb0 : Below w.heap.size w (w.alloc (.cells #[.int .i64 0, .int .i64 0, .string ⟨#[]⟩, .slice none 0 0] 24)) := (Below.refl _ w).alloc (Nat.le_refl _) _
  go_wp2_with (fail)
  refine (high_n a 8 cap V (xs.take 8) _ (hp.grown hb0) (by omega) (by rw [List.length_take, ← Hn.out]; omega) HV.out).mono ?_
  rintro e w2 ⟨rfl, rfl⟩
  have hs' := Hs.out
  go_wp2_with (fail)
  exact bodyPost_ret (v := .tuple #[itemV ⟨1, s64 V, ByteArray.empty⟩ none 0 0, .int .i64 8, .int .i64 0]) (by simp [results, Try.results52, go_sem]; try rfl) rfl ⟨rfl, (Below.refl _ w).alloc (Nat.le_refl _) _⟩

/-- wire.readText's answer. -/
def txtV (xs : List UInt8) : Value := match rdCnt 0 0 xs with
  | .inl e => .tuple #[zeroV, .int .i64 0, .int .i64 e]
  | .inr (n, i) => if xs.length < i + n then .tuple #[zeroV, .int .i64 0, .int .i64 10] else .tuple #[itemV ⟨2, 0, ⟨((xs.drop i).take n).toArray⟩⟩ none 0 0, .int .i64 ((i + n : Nat) : Int), .int .i64 0]

theorem rdCnt_err : ∀ (xs : List UInt8) (n i : Nat) (e : Int), rdCnt n i xs = .inl e → e = 10 ∨ e = 11 := by
  intro xs
  induction xs with
  | nil => intro n i e h; simp [rdCnt] at h; exact .inl h.symm
  | cons c r ih =>
    intro n i e h
    unfold rdCnt at h
    split at h
    · cases h
    · split at h
      · cases h; exact .inr rfl
      · exact ih _ _ _ h

set_option maxRecDepth 100000 in
set_option maxHeartbeats 2000000 in
theorem readText_any (a : Option Addr) (L cap : Nat) (xs : List UInt8) (w : World) (hb : Bytes w a cap xs) (hL : L = xs.length) :
    Calls Try.prog 53 #[.slice a L cap] w fun e w' => e = .returned (txtV xs) ∧ Below w.heap.size w w' := by
  have hle := hb.le
  have hmx := hb.max
  rw [← hL] at hle
  have hb0 : Below w.heap.size w (w.alloc (.cells #[.int .i64 0, .int .i64 0, .string ⟨#[]⟩, .slice none 0 0] 24)) := (Below.refl _ w).alloc (Nat.le_refl _) _
  have hcc := readCount_any a cap xs _ (hb.grown hb0)
  rw [← hL] at hcc
  cases hcnt : rdCnt 0 0 xs with
  | inl er =>
    have ht : txtV xs = .tuple #[zeroV, .int .i64 0, .int .i64 er] := by unfold txtV; rw [hcnt]
    have her := rdCnt_err _ _ _ _ hcnt
    rw [hcnt] at hcc
    rw [ht]
    simp only [cntV] at hcc
    have hne : (er != 0) = true := by rcases her with rfl | rfl <;> rfl
    clear her ht hcnt
    have HL := Lib.hid hL
    clear hL
    go_enter Try.func53, Try.ntmps53
    go_wp2_with (fail)
    refine hcc.mono ?_
    rintro e w2 ⟨rfl, rfl⟩
    clear hcc
    go_wp2_with (fail)
    exact bodyPost_ret (v := .tuple #[zeroV, .int .i64 0, .int .i64 er]) (by simp [results, Try.results53, go_sem]; try rfl) rfl ⟨rfl, (Below.refl _ w).alloc (Nat.le_refl _) _⟩
  | inr p =>
    obtain ⟨n, i⟩ := p
    obtain ⟨t, ht, h1, h2, h3, h4⟩ := rdCnt_sound _ _ _ _ _ (by omega) hcnt
    rw [Nat.zero_add] at ht
    subst ht
    rw [hcnt] at hcc
    simp only [cntV] at hcc
    rw [← hL] at h2
    clear h4
    by_cases hroom : L < i + n
    · have ht : txtV xs = .tuple #[zeroV, .int .i64 0, .int .i64 10] := by unfold txtV; rw [hcnt]; simp only; rw [if_pos (by omega)]
      rw [ht]
      have hlt : (L : Int) - (i : Int) < (n : Int) := by omega
      clear ht hcnt
      have HL := Lib.hid hL
      clear hL
      go_enter Try.func53, Try.ntmps53
      go_wp2_with (fail)
      refine hcc.mono ?_
      rintro e w2 ⟨rfl, rfl⟩
      clear hcc
      go_wp2_with (fail)
      exact bodyPost_ret (v := .tuple #[zeroV, .int .i64 0, .int .i64 10]) (by simp [results, Try.results53, go_sem]; try rfl) rfl ⟨rfl, (Below.refl _ w).alloc (Nat.le_refl _) _⟩
    · have ht : txtV xs = .tuple #[itemV ⟨2, 0, ⟨((xs.drop i).take n).toArray⟩⟩ none 0 0, .int .i64 ((i + n : Nat) : Int), .int .i64 0] := by unfold txtV; rw [hcnt]; simp only; rw [if_neg (by omega)]
      obtain ⟨S, HS⟩ : ∃ S : ByteArray, Hid ((⟨((xs.drop i).take n).toArray⟩ : ByteArray) = S) := ⟨_, Lib.hid rfl⟩
      rw [HS.out] at ht
      rw [ht]
      have hge : ¬ (L : Int) - (i : Int) < (n : Int) := by omega
      clear ht hcnt
      have hlo : (i : Int) ≤ (i : Int) + (n : Int) := by omega
      have hhi : (i : Int) + (n : Int) ≤ (cap : Int) := by omega
      have hpart : ∀ A, A = (if cap = i then a else a.map (fun x => x.add i)) → Bytes (w.alloc (.cells #[.int .i64 0, .int .i64 0, .string ⟨#[]⟩, .slice none 0 0] 24)) A (cap - i) ((xs.drop i).take n) := fun A hA => by
        have := (hb.grown hb0).part (lo := i) (hi := i + n) (a' := A) (by omega) (by omega)
          (fun b off e hlt => by rw [hA, if_neg (by omega), e]; simp only [Option.map_some]; unfold Addr.add; split <;> simp_all)
          (fun e => by rw [hA]; split <;> simp [e]) (fun e => by
            rw [hA] at e
            split at e
            · exact e
            · simpa using e)
        rwa [show i + n - i = n from by omega] at this
      have hln : n = ((xs.drop i).take n).length := by rw [List.length_take, List.length_drop, ← hL]; omega
      have hconv : ∀ A, A = (if cap = i then a else a.map (fun x => x.add i)) → (convert 31 9 (.slice A n (cap - i))).run Try.prog (w.alloc (.cells #[.int .i64 0, .int .i64 0, .string ⟨#[]⟩, .slice none 0 0] 24)) = .ok (.string S) (w.alloc (.cells #[.int .i64 0, .int .i64 0, .string ⟨#[]⟩, .slice none 0 0] 24)) := fun A hA => by
        rw [run_conv _ (hpart A hA) hln, HS.out]
      have HL := Lib.hid hL
      have Hconv := Lib.hid hconv
      clear hL hpart hln hconv
      go_enter Try.func53, Try.ntmps53
      go_wp2_with (fail)
      refine hcc.mono ?_
      rintro e w2 ⟨rfl, rfl⟩
      clear hcc hb0
      by_cases hc : cap = i
      · have hk := Hconv.out a (by rw [if_pos hc])
        subst hc
        obtain rfl : n = 0 := by omega
        simp only [Nat.sub_self] at hk
        go_wp2_with (fail)
        exact bodyPost_ret (v := .tuple #[itemV ⟨2, 0, S⟩ none 0 0, .int .i64 (cap : Int), .int .i64 0]) (by simp [results, Try.results53, go_sem]; try rfl) rfl ⟨rfl, (Below.refl _ w).alloc (Nat.le_refl _) _⟩
      · have hk := Hconv.out (a.map (fun x => x.add i)) (by rw [if_neg hc])
        go_wp2_with (fail)
        exact bodyPost_ret (v := .tuple #[itemV ⟨2, 0, S⟩ none 0 0, .int .i64 ((i : Int) + (n : Int)), .int .i64 0]) (by simp [results, Try.results53, go_sem]; try rfl) rfl ⟨by simp, (Below.refl _ w).alloc (Nat.le_refl _) _⟩
end Go.Proofs.Ytahibjiiaocjkaa
