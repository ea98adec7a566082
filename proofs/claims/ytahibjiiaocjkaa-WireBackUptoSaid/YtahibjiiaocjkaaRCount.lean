/- The reference's count. -/
import Derived.Test.YtahibjiiaocjkaaHead2
import Derived.Test.YtahibjiiaocjkaaUniq
namespace Go.Proofs.Ytahibjiiaocjkaa
open Go.RowKit

theorem or_bv (c : UInt8) : bits .or .u8 (c.toNat : Int) 128 = ((c ||| 128).toNat : Int) := by
  have key : ∀ c : Fin 256, bits .or .u8 (c.val : Int) 128 = ((c.val ||| 128 : Nat) : Int) := by decide +kernel
  have e : (c ||| 128).toNat = c.toNat ||| 128 := by rw [UInt8.toNat_or]; rfl
  rw [e]
  exact key ⟨c.toNat, c.toNat_lt⟩

theorem mod_bv (n : Nat) : Value.int .u8 ((n : Int) % 128) = bv (UInt8.ofNat (n % 128)) := by
  unfold bv
  rw [UInt8.toNat_ofNat']
  congr 1; omega

theorem cntF_length : ∀ (f n : Nat), 1 ≤ (cntF f n).length ∧ (cntF f n).length ≤ f + 1 := by
  intro f
  induction f with
  | zero => intro n; simp [cntF]
  | succ f ih =>
    intro n
    unfold cntF
    split
    · have := ih (n / 128); simp; omega
    · simp

/-- The run of append with one byte more, at an own row that may be nil. -/
theorem OwnB.below {w w' : World} {base n cap : Nat} {a : Option Addr} {xs : List UInt8} (h : OwnB w base a n cap xs) (hb : Below w.heap.size w w') : OwnB w' base a n cap xs :=
  h.kept (below_grownBy hb none) (by cases a <;> simp [Value.ownBlock])

set_option maxRecDepth 100000 in
set_option maxHeartbeats 1000000 in
theorem rcount_small (n : Nat) (w : World) (hn : n < 128) :
    Calls Try.prog 51 #[.int .i64 n] w fun e w' => ∃ a c, e = .returned (.slice a 1 c) ∧ OwnB w' w.heap.size a 1 c [UInt8.ofNat (n % 128)] ∧ Below w.heap.size w w' := by
  obtain ⟨a2, c2, w2, hrun, ho2, hg2⟩ := run_append_one w 31 (OwnB.nil w w.heap.size) (UInt8.ofNat (n % 128)) _ (mod_bv n) (by omega) (Nat.le_refl _)
  have Hr := Lib.hid hrun
  have hb2 : Below w.heap.size w w2 := grownBy_below hg2 (fun i e => by simp [Value.ownBlock] at e)
  clear hrun hg2
  go_enter Try.func51, Try.ntmps51
  go_wp2_with (at_builtin; refine wpList_append_run rfl _ _ 31 31 rfl _ _ _ _ rfl rfl Hr.out ?_)
  go_ret
  exact ⟨a2, c2, rfl, by simpa using ho2, hb2⟩

set_option maxRecDepth 100000 in
set_option maxHeartbeats 1000000 in
theorem rcount_any : ∀ (f n : Nat) (w : World), n < 128 ^ (f + 1) → n < 9223372036854775808 → f ≤ 20 →
    Calls Try.prog 51 #[.int .i64 n] w fun e w' => ∃ a c, e = .returned (.slice a (cntF f n).length c) ∧ OwnB w' w.heap.size a (cntF f n).length c (cntF f n) ∧ Below w.heap.size w w' := by
  intro f
  induction f with
  | zero =>
    intro n w hn hm _
    exact rcount_small n w (by simpa using hn)
  | succ f ih =>
    intro n w hn hm hf
    by_cases h1 : n < 128
    · have e : cntF (f + 1) n = [UInt8.ofNat (n % 128)] := by unfold cntF; rw [if_neg (by omega)]
      rw [e]
      exact rcount_small n w h1
    · have hge : (128 : Int) ≤ (n : Int) := by omega
      have hrec := ih (n / 128) w (by rw [Nat.pow_succ] at hn; omega) (by omega) (by omega)
      have hcl := cntF_length f (n / 128)
      have HT := Lib.hid (show cntF (f + 1) n = (cntF f (n / 128)).map (· ||| 128) ++ [UInt8.ofNat (n % 128)] by conv => { lhs; unfold cntF }; rw [if_pos (by omega)])
      obtain ⟨T, HTT⟩ : ∃ T, Hid (cntF (f + 1) n = T) := ⟨_, Lib.hid rfl⟩
      rw [HTT.out] at HT ⊢
      generalize cntF f (n / 128) = G at hrec hcl HT
      obtain ⟨LG, HLG⟩ : ∃ T, Hid (G.length = T) := ⟨_, Lib.hid rfl⟩
      rw [HLG.out] at hrec hcl
      have hTl : Hid (T.length = LG + 1) := Lib.hid (by rw [HT.out]; simp [HLG.out])
      rw [hTl.out]
      go_enter Try.func51, Try.ntmps51
      go_wp2_with (fail)
      rw [show ((n : Int) / 128) = ((n / 128 : Nat) : Int) from by omega]
      refine hrec.mono ?_
      rintro e w1 ⟨ag, cg, rfl, ho1, hb1⟩
      have hbg := ho1.bytes
      have hle := hbg.le
      have hmx := hbg.max
      rw [HLG.out] at hle
      clear hrec ih ho1
      go_wp2_with (fail)
      go_loopw [3, 12] (fun o i wr => ∃ k a c, k ≤ LG ∧ i = .int .i64 (k : Nat) ∧ o = .slice a k c ∧ OwnB wr w1.heap.size a k c ((G.take k).map (· ||| 128)) ∧ Below w1.heap.size w1 wr) (fun _ i _ => LG - (intOf i).toNat)
      case atStart => exact ⟨0, none, 0, by omega, rfl, rfl, by simpa using OwnB.nil w1 w1.heap.size, Below.refl _ _⟩
      case round =>
        obtain ⟨k, a, c, hk, rfl, rfl, hown, hbr⟩ := hrel
        by_cases hlt : k < LG
        · have hlt' : k < G.length := by rw [HLG.out]; exact hlt
          obtain ⟨bb, off, rfl⟩ := hbg.at_ k hlt'
          have hc := (hbg.grown hbr).cell bb off rfl k hlt'
          obtain ⟨x, HX⟩ : ∃ x, Hid (G[k] = x) := ⟨_, Lib.hid rfl⟩
          rw [HX.out] at hc
          obtain ⟨a2, c2, w2, hrun, ho2, hg2⟩ := run_append_one wr 31 hown (x ||| 128) (.int .u8 (bits .or .u8 (x.toNat : Int) 128)) (by rw [or_bv]) (by omega) hbr.size
          have Hr := Lib.hid hrun
          have hb2 : Below w1.heap.size w1 w2 := hbr.grown hg2 hbr.size (fun i e => (hown.lt i e).1)
          have Ho2 := Lib.hid ho2
          clear hrun hg2 ho2 hown
          go_wp2_with (at_builtin; refine wpList_append_run rfl _ _ 31 31 rfl _ _ _ _ rfl rfl Hr.out ?_)
          go_roundw
          case rel => exact ⟨k + 1, a2, c2, by omega, by go_num, rfl, by
            have := Ho2.out
            rw [List.take_succ_eq_append_getElem hlt', HX.out, List.map_append]
            exact this, hb2⟩
          case measure => simp [intOf]; omega
        · obtain rfl : k = LG := by omega
          have hall : (G.take k).map (· ||| 128) = G.map (· ||| 128) := by rw [List.take_of_length_le (by rw [HLG.out]; exact Nat.le_refl _)]
          rw [hall] at hown
          obtain ⟨a2, c2, w2, hrun, ho2, hg2⟩ := run_append_one wr 31 hown (UInt8.ofNat (n % 128)) _ (mod_bv n) (by omega) hbr.size
          have Hr := Lib.hid hrun
          have hb2 : Below w1.heap.size w1 w2 := hbr.grown hg2 hbr.size (fun i e => (hown.lt i e).1)
          have Ho2 := Lib.hid ho2
          clear hrun hg2 ho2 hown hall
          go_wp2_with (at_builtin; refine wpList_append_run rfl _ _ 31 31 rfl _ _ _ _ rfl rfl Hr.out ?_)
          go_ret
          exact ⟨a2, c2, rfl, by rw [HT.out]; exact Ho2.out.mono hb1.size, hb1.trans (hb2.mono hb1.size)⟩
end Go.Proofs.Ytahibjiiaocjkaa
