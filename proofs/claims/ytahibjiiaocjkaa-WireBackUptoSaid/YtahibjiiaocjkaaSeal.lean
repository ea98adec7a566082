/- Seal: the sealed bytes lie in new memory. -/
import Derived.Test.YtahibjiiaocjkaaPut
import Derived.OwnWalk
import Derived.Laws.CopyOwn
import Derived.Deep.QuietTactic
import Derived.BigQuiet
import Derived.StillTailTactics
import Derived.Deep.RegionWith
namespace Go.Proofs.Ytahibjiiaocjkaa
open Go.RowKit

theorem info_u8 : (Try.prog.info? 5).map (fun i => (i.zero, i.size, i.bytes)) = some (some (.int .u8 0), 1, 1) := by kernel_rfl
theorem size_u8 : (Try.prog.info? 5).map (·.size) = some 1 := by kernel_rfl

theorem made_u8 (n : Nat) : (madeCells (Value.int .u8 0).cells n).toList = List.replicate n (.int .u8 0) := toList_madeCells_one _ n

theorem blk_of_make {w : World} {base e g n : Nat} {L : List Value} (h : w.ownsRow base e 1 (.slice (some ⟨g, 0, none⟩) n n) n L) : Blk w g e L := by
  rcases h.2 with ⟨e1, _⟩ | ⟨g', cap, cur, e1, hb, hg, hle, hm, hs, ht⟩
  · cases e1
  · simp only [Value.slice.injEq, Option.some.injEq, Addr.mk.injEq] at e1
    obtain ⟨⟨rfl, -⟩, -, rfl⟩ := e1
    rw [Nat.mul_one] at hs ht
    rw [show cur.toList.take n = cur.toList from List.take_of_length_le (by simp [hs])] at ht
    subst ht
    simpa [Blk] using hg

theorem run_make_bytes (w : World) (n : Nat) (hn : n ≤ 281474976710656) :
    ∃ w', (Instr.makeSlice 31 (.int .i64 (n : Int)) (.int .i64 (n : Int))).run Try.prog w = .ok (.slice (some ⟨w.heap.size, 0, none⟩) n n) w' ∧ Blk w' w.heap.size 5 (List.replicate n (.int .u8 0)) ∧ w.grownBy w' none := by
  obtain ⟨i0, hi, hz0, hz1, hz2⟩ := info_parts info_u8
  obtain ⟨w', hrun, ho, hg⟩ := run_make_full (P := Try.prog) w w.heap.size 31 5 i0 (.int .u8 0) 1 Try.underlying31 hi hz0 hz1 .i64 .i64 n (by rw [hz2]; omega) (by unfold maxLen; omega) (Nat.le_refl _)
  refine ⟨w', hrun, ?_, hg⟩
  have := blk_of_make ho
  rwa [Nat.mul_one, made_u8] at this

theorem own_of_blk {w : World} {base e g : Nat} {xs : List Value} (hb : base ≤ g) (h : Blk w g e xs) (hm : xs.length ≤ maxLen) : w.ownsRow base e 1 (.slice (some ⟨g, 0, none⟩) xs.length xs.length) xs.length xs :=
  ⟨by simp, .inr ⟨g, xs.length, xs.toArray, rfl, hb, h, Nat.le_refl _, hm, by simp, by simp⟩⟩

theorem run_copy_own {P : Program} (w : World) (t e ty : TypeId) (hu : P.underlying t = some (.slice e)) (hsz : (P.info? e).map (·.size) = some 1) (g off n cap : Nat) (cs : List Value) (hB : Blk w g e cs)
    (a : Option Addr) (c : Nat) (xs : List UInt8) (hb : Bytes w a c xs) (hn : xs.length ≤ n) (hfit : off + xs.length ≤ cs.length) :
    ∃ w', (Builtin.copy_ #[t, t] ty #[.slice (some ⟨g, off, none⟩) n cap, .slice a xs.length c]).run P w = .ok (.int .i64 (xs.length : Int)) w' ∧ Blk w' g e (over cs off (xs.map bv)) ∧ w.grownBy w' (some g) := by
  by_cases h0 : xs = []
  · subst h0
    refine ⟨w, ?_, by simpa [over_nil] using hB, ⟨rfl, rfl, rfl, Nat.le_refl _, fun _ _ _ => rfl⟩⟩
    exact run_copy_none (P := P) w t t ty e (some ⟨g, off, none⟩) a n cap 0 c hu hsz (by simp)
  · have hp := List.length_pos_iff.2 h0
    obtain ⟨b, o, rfl⟩ := hb.at_ 0 hp
    have hrun := run_copy_row (P := P) w t t ty e g off n cap ⟨b, o, none⟩ xs.length c cs.toArray e (xs.map bv) hu hsz hB (by rw [List.length_map]; exact (Nat.min_eq_left hn).symm) ?_ (by simpa using hfit) (by simp [bv, Value.oneCell'])
    · refine ⟨w.setRow g (over cs off (xs.map bv)).toArray, ?_, ?_, ⟨rfl, rfl, rfl, by simp [World.setRow], fun k hk hne => setRow_other w g k _ (fun e => hne (by rw [e]))⟩⟩
      · rw [hrun]; simp [goInt, over]
      · exact setRow_heap w g cs.toArray _ e _ hB
    · intro j v hj
      rw [List.getElem?_map] at hj
      obtain ⟨x, hx, rfl⟩ := Option.map_eq_some_iff.1 hj
      obtain ⟨hlt, rfl⟩ := List.getElem?_eq_some_iff.1 hx
      rw [show (⟨b, o, none⟩ : Addr).add j = ⟨b, o + j, none⟩ from by unfold Addr.add; split <;> simp_all]
      exact hb.cell b o rfl j hlt

theorem bytes_of_blk {w : World} {g e cap off : Nat} {cs : List Value} {xs : List UInt8} (hB : Blk w g e cs) (hle : xs.length ≤ cap) (hm : cap ≤ 9223372036854775807)
    (h : ∀ i, (hi : i < xs.length) → cs[off + i]? = some (bv xs[i])) : Bytes w.drew (some ⟨g, off, none⟩) cap xs :=
  ⟨hle, hm, fun i _ => ⟨g, off, rfl⟩, fun b o e i hi => by
    cases e
    rw [← h i hi]
    exact hB.cell (off + i), fun e => by cases e⟩

/-- Three pieces that fill a row. -/
theorem over3 (Z A B D : List Value) {n : Nat} (hA : A.length = 4) (hZ : Z.length = A.length + B.length + D.length) (hn : n + 4 = B.length + 4) : over (over (over Z 0 A) 4 B) (n + 4) D = A ++ B ++ D := by
  have h1 : (over Z 0 A).length = Z.length := over_length (by omega)
  have h2 : (over (over Z 0 A) 4 B).length = Z.length := by rw [over_length (by omega), h1]
  apply List.ext_getElem?
  intro j
  rw [over_get (by omega), over_get (by omega), over_get (by omega)]
  by_cases c1 : n + 4 ≤ j
  · by_cases c2 : j < n + 4 + D.length
    · rw [if_pos ⟨c1, c2⟩, List.getElem?_append_right (by simp; omega)]; congr 1; simp; omega
    · rw [if_neg (by omega), if_neg (by omega), if_neg (by omega), List.getElem?_eq_none (by omega), List.getElem?_eq_none (by simp; omega)]
  · rw [if_neg (by omega), List.append_assoc]
    by_cases c3 : 4 ≤ j
    · rw [if_pos (by omega), List.getElem?_append_right (by omega), List.getElem?_append_left (by omega), hA]
    · rw [if_neg (by omega), if_pos (by omega), List.getElem?_append_left (by omega)]; rfl

def sealed (xs : List UInt8) : List UInt8 := hiB 4 xs.length ++ xs ++ loB 4 (crc (hiB 4 xs.length ++ xs)).toNat

set_option maxRecDepth 100000 in
set_option maxHeartbeats 400000 in
theorem wseal_any (a : Option Addr) (cap : Nat) (xs : List UInt8) (w : World) (hb : Bytes w a cap xs) (hx : xs.length ≤ 2147483647) :
    Calls Try.prog 27 #[.slice a xs.length cap] w fun e w' => ∃ a' cap', e = .returned (.slice a' (sealed xs).length cap') ∧ w'.ownsRow w.heap.size 5 1 (.slice a' (sealed xs).length cap') (sealed xs).length ((sealed xs).map bv) ∧ Below w.heap.size w w' := by
  obtain ⟨i0, hi, hz0, hz1, hz2⟩ := info_parts info_u8
  go_enter Try.func27, Try.ntmps27
  go_wp2_with (at_make; refine wpList_make_full _ rfl _ _ 31 rfl w.heap.size 5 i0 (.int .u8 0) 1 Try.underlying31 hi hz0 hz1 _ _ _ _ (xs.length + 8) rfl rfl (by omega) (by omega) (by rw [hz2]; omega) (by unfold maxLen; omega) (Nat.le_refl _) ?_; intro w1 hown1 hg1)
  have hB1 := blk_of_make hown1
  clear hown1
  rw [Nat.mul_one, made_u8] at hB1
  generalize hG : w.heap.size = g at hB1 ⊢
  have HG := Lib.hid hG
  clear hG
  generalize hZ : List.replicate (xs.length + 8) (Value.int IntKind.u8 0) = Z at hB1
  have hZl : Z.length = xs.length + 8 := by rw [← hZ]; simp
  clear hZ
  refine (putHigh_any g 0 4 (xs.length + 8) xs.length Z w1 (by omega) (by omega) (by omega) hB1).mono ?_
  rintro e w2 ⟨rfl, hB2, hg2⟩
  have hb2 : Bytes w2 a cap xs := hb.grown (grownBy_below (grownBy_trans hg1 hg2 (fun i e => .inr (by cases e; rw [HG.out]; exact Nat.le_refl _))) (fun i e => (by cases e)))
  obtain ⟨w3, hrun, hB3, hg3⟩ := run_copy_own (P := Try.prog) w2 31 5 3 Try.underlying31 size_u8 g 4 (xs.length + 4) (xs.length + 4) _ hB2 a cap xs hb2 (by omega) (by rw [over_length (by simp [hiB_length]; omega)]; omega)
  go_wp2_with (fail)
  have hL1 : (over Z 0 (List.map bv (hiB 4 xs.length))).length = Z.length := over_length (by simp [hiB_length]; omega)
  have hbs : Bytes w3.drew (some ⟨g, 0, none⟩) (xs.length + 8) (hiB 4 xs.length ++ xs) := by
    refine bytes_of_blk (w := w3) hB3 (by simp [hiB_length]; omega) (by omega) ?_
    intro i h
    rw [over_get (by rw [hL1]; simp; omega), over_get (by simp [hiB_length]; omega)]
    rw [List.length_append, hiB_length] at h
    by_cases h4 : i < 4
    · rw [if_neg (by omega), if_pos (by simp [hiB_length]; omega), List.getElem_append_left (by rw [hiB_length]; exact h4)]
      simp [hiB_length, h4]
    · rw [if_pos (by simp; omega), List.getElem_append_right (by rw [hiB_length]; omega)]
      simp only [hiB_length, List.getElem?_map, Nat.zero_add]
      rw [List.getElem?_eq_getElem (by omega)]; rfl
  have hys : xs.length + 4 = (hiB 4 xs.length ++ xs).length := by simp [hiB_length]; omega
  have Hys := Lib.hid hys
  clear hys
  obtain ⟨C, hC⟩ : ∃ C, C = (crc (hiB 4 xs.length ++ xs)).toNat := ⟨_, rfl⟩
  have hC1 : C < 4294967296 := by rw [hC]; exact (crc _).isLt
  have HC := Lib.hid hC
  clear hC
  have e1 : (4 + (xs.length : Int)).toNat = xs.length + 4 := by omega
  generalize hY : hiB 4 xs.length ++ xs = ys at hbs Hys HC
  have HY := Lib.hid hY
  clear hY
  have HW : Hid (IntKind.u64.wrap (C : Int) = (C : Int)) := by
    have : IntKind.u64.wrap (C : Int) = (C : Int) := by rw [wrap_u64]; omega
    exact this
  have hB3' : Blk w3.drew g 5 _ := hB3
  have hfit : xs.length + 4 + 4 ≤ (over (over Z 0 (List.map bv (hiB 4 xs.length))) 4 (List.map bv xs)).length := by rw [over_length (by rw [hL1]; simp; omega), hL1]; omega
  go_region_with (first | (go_at_call 25; (with_reducible refine (wsum_n (some ⟨g, 0, none⟩) (xs.length + 4) (xs.length + 8) ys C w3.drew hbs Hys.out HC.out).mono ?_); rintro e w' ⟨rfl, rfl⟩) | (go_at_call 46; rw [HW.out]; (with_reducible refine (putLow_any g (xs.length + 4) 4 4 C _ w3.drew (by omega) (by omega) hfit hB3').mono ?_); rintro e w4 ⟨rfl, hB4, hg4⟩))
  all_goals
    go_wp2
    have hfin : over (over (over Z 0 (List.map bv (hiB 4 xs.length))) 4 (List.map bv xs)) (xs.length + 4) (List.map bv (loB 4 C)) = (sealed xs).map bv := by
      rw [over3 Z _ _ _ (by simp [hiB_length]) (by simp [hiB_length, loB_length]; omega) (by simp)]
      unfold sealed
      rw [HY.out, ← HC.out]
      simp [← HY.out]
    rw [hfin] at hB4
    have hlen : (sealed xs).length = xs.length + 8 := by unfold sealed; simp [hiB_length, loB_length]; omega
    have hown := own_of_blk (base := g) (Nat.le_refl _) hB4 (by rw [List.length_map, hlen]; unfold maxLen; omega)
    rw [List.length_map] at hown
    go_ret
    refine ⟨some ⟨g, 0, none⟩, (sealed xs).length, ?_, ?_, ?_⟩
    · rw [hlen]; rfl
    · rw [HG.out]; exact hown
    · have h1 : w.grownBy w4 none := grownBy_trans (grownBy_trans (grownBy_trans hg1 hg2 (fun i e => .inr (by cases e; rw [HG.out]; exact Nat.le_refl _))) hg3 (fun i e => .inr (by cases e; rw [HG.out]; exact Nat.le_refl _)))
        (grownBy_trans (grownBy_drew w3 (some g)) hg4 (fun i e => .inl e)) (fun i e => .inr (by cases e; rw [HG.out]; exact Nat.le_refl _))
      exact grownBy_below h1 (fun i e => (by cases e))
end Go.Proofs.Ytahibjiiaocjkaa
