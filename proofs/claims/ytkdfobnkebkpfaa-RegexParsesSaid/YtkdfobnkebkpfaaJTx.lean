/- Texts of layer 2 joined: Ta Tb Tc Td Te WTx PTx. -/
import Derived.Test.YtkdfobnkebkpfaaJM
import Derived.Test.YtkdfobnkebkpfaaJG
import Derived.Lib.SlBytesConst
import Derived.Test.YtkdfobnkebkpfaaJB
import Derived.Test.YtkdfobnkebkpfaaJI
import Derived.Deep.RegionWith
import Derived.Test.YtkdfobnkebkpfaaJCk
import Derived.Test.YtkdfobnkebkpfaaJO
set_option linter.unusedVariables false
set_option linter.unusedSimpArgs false
/- The reference's special, letter. -/
namespace Go.Proofs.Ytkdfobnkebkpfaa
open Go.RowKit

attribute [local go_sem] Oper.semAt_some

theorem indexByte_mem (l : List UInt8) (c : UInt8) : decide (0 ≤ Lib.indexByte l c) = l.any (fun x => x == c) := by
  induction l with
  | nil => simp [Lib.indexByte]
  | cons b l ih =>
    have hge := Lib.indexByte_ge l c
    rw [Lib.indexByte, List.any_cons]
    by_cases h : (b == c) = true
    · rw [if_pos h, h]; simp
    · rw [if_neg h, Bool.eq_false_iff.2 h, Bool.false_or, ← ih]
      by_cases h2 : (Lib.indexByte l c == -1) = true
      · rw [if_pos h2]
        have : Lib.indexByte l c = -1 := by simpa using h2
        rw [this]
      · rw [if_neg h2]
        have : Lib.indexByte l c ≠ -1 := by simpa using h2
        exact decide_eq_decide.2 (by omega)
theorem bs_app (a b : Array UInt8) : ((⟨a⟩ : ByteArray) ++ (⟨b⟩ : ByteArray)) = ⟨a ++ b⟩ := by
  apply ByteArray.ext
  rw [ByteArray.data_append]
theorem hex_at : ∀ (q : Nat) (h : q < 16), (⟨#[48, 49, 50, 51, 52, 53, 54, 55, 56, 57, 97, 98, 99, 100, 101, 102]⟩ : ByteArray)[q]'h = hexD q
  | 0, _ => rfl
  | 1, _ => rfl
  | 2, _ => rfl
  | 3, _ => rfl
  | 4, _ => rfl
  | 5, _ => rfl
  | 6, _ => rfl
  | 7, _ => rfl
  | 8, _ => rfl
  | 9, _ => rfl
  | 10, _ => rfl
  | 11, _ => rfl
  | 12, _ => rfl
  | 13, _ => rfl
  | 14, _ => rfl
  | 15, _ => rfl
  | _ + 16, h => absurd h (by omega)
def specS : ByteArray := ⟨#[92, 124, 42, 43, 63, 40, 41, 91, 93, 46, 94, 45]⟩
set_option maxRecDepth 100000 in
set_option maxHeartbeats 1000000 in
theorem special_any (c : UInt8) (w : World) :
    Calls Try.prog 83 #[.int .u8 (c.toNat : Int)] w fun e w' => e = .returned (.bool (decide (0 ≤ Lib.indexByte specials c))) ∧ w' = w := by
  obtain ⟨R, HR⟩ : ∃ R, Hid (decide (0 ≤ Lib.indexByte specials c) = R) := ⟨_, Lib.hid rfl⟩
  have HA : Hid (specials.any (fun x => x == c) = R) := Lib.hid (by rw [← indexByte_mem]; exact HR.out)
  rw [HR.out]
  go_enter Try.func83, Try.ntmps83
  go_wp2_with (fail)
  go_loopw [4] (fun iv wr => ∃ k : Nat, k ≤ 12 ∧ iv = .int .i64 (k : Int) ∧ (specials.take k).any (fun x => x == c) = false ∧ wr = w) (fun iv _ => 12 - (intOf iv).toNat)
  case atStart => exact ⟨0, by omega, rfl, rfl, rfl⟩
  case round =>
    obtain ⟨k, hk, rfl, hr, rfl⟩ := hrel
    have Hr := Lib.hid hr
    clear hr
    by_cases hlt : k < 12
    · have hl : k < specials.length := hlt
      obtain ⟨u, hu⟩ : ∃ u, Hid (specials[k] = u) := ⟨_, Lib.hid rfl⟩
      have hkI : (k : Int) < 12 := by omega
      have hcell : (⟨#[92, 124, 42, 43, 63, 40, 41, 91, 93, 46, 94, 45]⟩ : ByteArray)[k]'(show k < 12 from hlt) = u := by rw [← hu.out]; rfl
      have htk : Hid ((specials.take (k + 1)).any (fun x => x == c) = ((specials.take k).any (fun x => x == c) || (u == c))) := Lib.hid (by rw [List.take_add_one, List.getElem?_eq_getElem hl, hu.out]; simp)
      have hmem : Hid ((u == c) = true → R = true) := Lib.hid (fun h => by
        rw [← HA.out, List.any_eq_true]
        exact ⟨u, by rw [← hu.out]; exact List.getElem_mem _, h⟩)
      by_cases hq : u = c
      · have hqI : ((u.toNat : Int) == (c.toNat : Int)) = true := by rw [hq]; simp
        have hT : Hid (R = true) := Lib.hid (hmem.out (by rw [hq]; simp))
        clear hq
        go_wp2_with (fail)
        exact bodyPost_ret (v := .bool true) (by simp [results, Try.results83, go_sem]; try rfl) rfl ⟨ret_bool hT.out.symm, rfl⟩
      · have hqI : ((u.toNat : Int) == (c.toNat : Int)) = false := by
          rw [beq_eq_false_iff_ne]
          intro e
          exact hq (UInt8.toNat_inj.1 (by omega))
        have hqb : Hid ((u == c) = false) := Lib.hid (by rw [beq_eq_false_iff_ne]; exact hq)
        clear hq
        go_wp2_with (fail)
        refine ⟨⟨k + 1, by omega, by simp, by rw [htk.out, Hr.out, hqb.out]; rfl, trivial⟩, by simp [intOf]; omega⟩
    · obtain rfl : k = 12 := by omega
      have hF : Hid (R = false) := Lib.hid (by rw [← HA.out]; exact Hr.out)
      go_wp2_with (fail)
      exact bodyPost_ret (v := .bool false) (by simp [results, Try.results83, go_sem]; try rfl) rfl ⟨ret_bool hF.out.symm, rfl⟩
set_option maxRecDepth 100000 in
set_option maxHeartbeats 1000000 in
theorem rletter_any (c : UInt8) (w : World) :
    Calls Try.prog 77 #[.int .u8 (c.toNat : Int)] w fun e w' => e = .returned (.string ⟨(byteT c).toArray⟩) ∧ Below w.heap.size w w' := by
  have hsp := special_any c w
  have hu := c.toNat_lt
  have eqI : ∀ k : UInt8, ((c.toNat : Int) == (k.toNat : Int)) = decide (c = k) := fun k => by
    rw [Bool.eq_iff_iff]
    simp only [beq_iff_eq, decide_eq_true_eq]
    constructor
    · intro e; exact UInt8.toNat_inj.1 (by omega)
    · intro e; rw [e]
  obtain ⟨T, HT⟩ : ∃ T, Hid (byteT c = T) := ⟨_, Lib.hid rfl⟩
  rw [HT.out]
  have hbw : Below w.heap.size w (w.alloc (.cells #[.int .u8 (c.toNat : Int)] 5)) := (Below.refl _ w).alloc (Nat.le_refl _) _
  have hby : Bytes (w.alloc (.cells #[.int .u8 (c.toNat : Int)] 5)) (some ⟨w.heap.size, 0, none⟩) 1 [c] := by
    have hb := Blk.new w 5 #[.int .u8 (c.toNat : Int)]
    exact ⟨by simp, by omega, fun i _ => ⟨_, _, rfl⟩, fun b off e i hi => by
      cases e
      have : i = 0 := by simpa using hi
      subst this
      exact hb.cell 0, fun e => by cases e⟩
  have hcv := run_conv _ hby (n := 1) rfl
  by_cases h10 : c = 10
  · have e10 : ((c.toNat : Int) == 10) = true := by rw [h10]; rfl
    have hTT : Hid (T = [92, 110]) := Lib.hid (by rw [← HT.out, byteT, if_pos h10])
    clear h10
    go_enter Try.func77, Try.ntmps77
    go_wp2_with (fail)
    exact bodyPost_ret (v := .string ⟨#[92, 110]⟩) (by simp [results, Try.results77, go_sem]; try rfl) rfl ⟨by rw [hTT.out], Below.refl _ w⟩
  have e10 : ((c.toNat : Int) == 10) = false := by have := eqI 10; rw [decide_eq_false h10] at this; exact this
  by_cases h9 : c = 9
  · have e9 : ((c.toNat : Int) == 9) = true := by rw [h9]; rfl
    have hTT : Hid (T = [92, 116]) := Lib.hid (by rw [← HT.out, byteT, if_neg h10, if_pos h9])
    clear h10 h9
    go_enter Try.func77, Try.ntmps77
    go_wp2_with (fail)
    exact bodyPost_ret (v := .string ⟨#[92, 116]⟩) (by simp [results, Try.results77, go_sem]; try rfl) rfl ⟨by rw [hTT.out], Below.refl _ w⟩
  have e9 : ((c.toNat : Int) == 9) = false := by have := eqI 9; rw [decide_eq_false h9] at this; exact this
  by_cases h13 : c = 13
  · have e13 : ((c.toNat : Int) == 13) = true := by rw [h13]; rfl
    have hTT : Hid (T = [92, 114]) := Lib.hid (by rw [← HT.out, byteT, if_neg h10, if_neg h9, if_pos h13])
    clear h10 h9 h13
    go_enter Try.func77, Try.ntmps77
    go_wp2_with (fail)
    exact bodyPost_ret (v := .string ⟨#[92, 114]⟩) (by simp [results, Try.results77, go_sem]; try rfl) rfl ⟨by rw [hTT.out], Below.refl _ w⟩
  have e13 : ((c.toNat : Int) == 13) = false := by have := eqI 13; rw [decide_eq_false h13] at this; exact this
  by_cases hs : 0 ≤ Lib.indexByte specials c
  · rw [decide_eq_true hs] at hsp
    have hTT : Hid (T = [92, c]) := Lib.hid (by rw [← HT.out, byteT, if_neg h10, if_neg h9, if_neg h13, if_pos hs])
    clear h10 h9 h13 hs eqI
    go_enter Try.func77, Try.ntmps77
    go_wp2_with (go_at_call 83; (with_reducible refine hsp.mono ?_); rintro e v ⟨rfl, hv⟩; subst v)
    rw [bs_app]
    exact bodyPost_ret (v := .string ⟨#[92] ++ #[c]⟩) (by simp [results, Try.results77, go_sem]; try rfl) rfl ⟨by rw [hTT.out]; rfl, hbw⟩
  rw [decide_eq_false hs] at hsp
  by_cases hr : 32 ≤ c.toNat ∧ c.toNat ≤ 126
  · have hTT : Hid (T = [c]) := Lib.hid (by rw [← HT.out, byteT, if_neg h10, if_neg h9, if_neg h13, if_neg hs, if_pos hr])
    have r1 : (32 : Int) ≤ (c.toNat : Int) := by omega
    have r2 : (c.toNat : Int) ≤ 126 := by omega
    clear h10 h9 h13 hs eqI
    go_enter Try.func77, Try.ntmps77
    go_wp2_with (go_at_call 83; (with_reducible refine hsp.mono ?_); rintro e v ⟨rfl, hv⟩; subst v)
    exact bodyPost_ret (v := .string ⟨#[c]⟩) (by simp [results, Try.results77, go_sem]; try rfl) rfl ⟨by rw [hTT.out], hbw⟩
  have hTT : Hid (T = [92, 120, hexD (c.toNat / 16), hexD (c.toNat % 16)]) := Lib.hid (by rw [← HT.out, byteT, if_neg h10, if_neg h9, if_neg h13, if_neg hs, if_neg hr])
  have hr1 : c.toNat < 32 ∨ 126 < c.toNat := by omega
  clear h10 h9 h13 hs eqI hr hbw hby hcv
  obtain ⟨p, hp⟩ : ∃ p, Hid (c.toNat / 16 = p) := ⟨_, Lib.hid rfl⟩
  obtain ⟨q, hq⟩ : ∃ p, Hid (c.toNat % 16 = p) := ⟨_, Lib.hid rfl⟩
  have l1 : p < 16 := by rw [← hp.out]; omega
  have l2 : q < 16 := by rw [← hq.out]; omega
  rw [hp.out, hq.out] at hTT
  obtain ⟨x, hx⟩ : ∃ x, Hid (hexD p = x) := ⟨_, Lib.hid rfl⟩
  obtain ⟨y, hy⟩ : ∃ x, Hid (hexD q = x) := ⟨_, Lib.hid rfl⟩
  rw [hx.out, hy.out] at hTT
  have hd1 := hex_at p l1
  have hd2 := hex_at q l2
  rw [hx.out] at hd1
  rw [hy.out] at hd2
  have q1 : (c.toNat : Int).tdiv 16 = (p : Int) := by rw [Int.tdiv_eq_ediv_of_nonneg (by omega), ← hp.out]; omega
  have q2 : (c.toNat : Int).tmod 16 = (q : Int) := by rw [Int.tmod_eq_emod_of_nonneg (by omega), ← hq.out]; omega
  have w1 : IntKind.u8.wrap (p : Int) = (p : Int) := by rw [IntKind.wrap_u8]; omega
  have w2 : IntKind.u8.wrap (q : Int) = (q : Int) := by rw [IntKind.wrap_u8]; omega
  have hbw : Below w.heap.size w (w.alloc (.cells #[.int .u8 (x.toNat : Int), .int .u8 (y.toNat : Int)] 5)).drew := ((Below.refl _ w).alloc (Nat.le_refl _) _).drew
  have hby : Bytes (w.alloc (.cells #[.int .u8 (x.toNat : Int), .int .u8 (y.toNat : Int)] 5)).drew (some ⟨w.heap.size, 0, none⟩) 2 [x, y] := by
    have hb := Blk.new w 5 #[.int .u8 (x.toNat : Int), .int .u8 (y.toNat : Int)]
    exact ⟨by simp, by omega, fun i _ => ⟨_, _, rfl⟩, fun b off e i hi => by
      cases e
      have : i = 0 ∨ i = 1 := by simp at hi; omega
      rcases this with rfl | rfl
      · exact hb.cell 0
      · exact hb.cell 1, fun e => by cases e⟩
  have hcv := run_conv _ hby (n := 2) rfl
  rcases hr1 with hr1 | hr1
  · have r1 : ¬ (32 : Int) ≤ (c.toNat : Int) := by omega
    go_enter Try.func77, Try.ntmps77
    go_wp2_with (go_at_call 83; (with_reducible refine hsp.mono ?_); rintro e v ⟨rfl, hv⟩; subst v)
    go_region
    all_goals go_wp2_with (fail)
    rw [bs_app]
    exact bodyPost_ret (v := .string ⟨#[92, 120] ++ #[x, y]⟩) (by simp [results, Try.results77, go_sem]; try rfl) rfl ⟨by rw [hTT.out]; rfl, hbw⟩
  · have r1 : (32 : Int) ≤ (c.toNat : Int) := by omega
    have r2 : ¬ (c.toNat : Int) ≤ 126 := by omega
    go_enter Try.func77, Try.ntmps77
    go_wp2_with (go_at_call 83; (with_reducible refine hsp.mono ?_); rintro e v ⟨rfl, hv⟩; subst v)
    go_region
    all_goals go_wp2_with (fail)
    rw [bs_app]
    exact bodyPost_ret (v := .string ⟨#[92, 120] ++ #[x, y]⟩) (by simp [results, Try.results77, go_sem]; try rfl) rfl ⟨by rw [hTT.out]; rfl, hbw⟩
end Go.Proofs.Ytkdfobnkebkpfaa

/- The reference's set: a Set's text. -/
namespace Go.Proofs.Ytkdfobnkebkpfaa
open Go.RowKit Go.Shelf
attribute [local go_sem] Oper.semAt_some

theorem bs_cat (a b : List UInt8) : ((⟨a.toArray⟩ : ByteArray) ++ (⟨b.toArray⟩ : ByteArray)) = ⟨(a ++ b).toArray⟩ := by
  rw [bs_app]; simp

set_option maxRecDepth 100000 in
set_option maxHeartbeats 1000000 in
theorem rset_one (sa : Option Addr) (sc : Nat) (x : Sp) (w : World) (hs : Sps w sa sc [x]) (hx : x.lo = x.hi) :
    Calls Try.prog 63 #[.slice sa 1 sc] w fun e w' => e = .returned (.string ⟨(byteT x.lo).toArray⟩) ∧ Below w.heap.size w w' := by
  obtain ⟨b, off, rfl⟩ := hs.at_ 0 (by simp)
  obtain ⟨c0, c1⟩ := hs.cell b off rfl 0 (by simp)
  simp only [List.getElem_cons_zero, Nat.zero_mul, Nat.add_zero] at c0 c1
  rw [← hx] at c1
  have hmx := hs.max
  have hle := hs.le
  simp only [List.length_singleton] at hle
  obtain ⟨X, HX⟩ : ∃ X, Hid (x.lo = X) := ⟨_, Lib.hid rfl⟩
  obtain ⟨T, HT⟩ : ∃ T, Hid (byteT X = T) := ⟨_, Lib.hid rfl⟩
  rw [HX.out] at c0 c1 ⊢
  rw [HT.out]
  clear hx hs
  go_enter Try.func63, Try.ntmps63
  go_wp2_with (fail)
  go_quiet (fail)
  have hb : Below w.heap.size w (w.drewN nq) := Below.drewN (Below.refl _ w) nq
  have c2 : (w.drewN nq).cell? ⟨b, off, none⟩ = _ := c0
  generalize w.drewN nq = W at hb c2 ⊢
  clear c0 c1
  have hl := rletter_any X W
  rw [HT.out] at hl
  go_wp2_with (go_at_call 77; (with_reducible refine hl.mono ?_); rintro e w8 ⟨rfl, h8⟩)
  exact bodyPost_ret (v := .string ⟨T.toArray⟩) (by simp [results, Try.results63, go_sem]; try rfl) rfl ⟨rfl, hb.trans (h8.mono hb.size)⟩
set_option maxRecDepth 100000 in
set_option maxHeartbeats 1000000 in
theorem rset_many (sa : Option Addr) (L sc : Nat) (l : List Sp) (w : World) (hs : Sps w sa sc l) (hL : L = l.length) (hx : lone l = none) (hn : 9 * L + 4 ≤ 140737488355328) :
    Calls Try.prog 63 #[.slice sa L sc] w fun e w' => e = .returned (.string ⟨(setT l).toArray⟩) ∧ Below w.heap.size w w' := by
  have hle := hs.le
  have hmx := hs.max
  rw [← hL] at hle
  have HL := Lib.hid hL
  have Hset : Hid (setT l = 91 :: (spansT l ++ [93])) := Lib.hid (by unfold setT; rw [hx])
  have hg : (L = 1 ∧ ∃ x y : UInt8, x ≠ y ∧ ∃ b off, sa = some ⟨b, off, none⟩ ∧ w.cell? ⟨b, off, none⟩ = some (.int .u8 (x.toNat : Int)) ∧ w.cell? ⟨b, off + 1, none⟩ = some (.int .u8 (y.toNat : Int))) ∨ L ≠ 1 := by
    by_cases h1 : L = 1
    · refine .inl ⟨h1, ?_⟩
      obtain ⟨x, rfl⟩ := List.length_eq_one_iff.1 (hL.symm.trans h1)
      obtain ⟨b, off, rfl⟩ := hs.at_ 0 (by simp)
      obtain ⟨c0, c1⟩ := hs.cell b off rfl 0 (by simp)
      simp only [List.getElem_cons_zero, Nat.zero_mul, Nat.add_zero] at c0 c1
      refine ⟨x.lo, x.hi, fun e => ?_, b, off, rfl, c0, c1⟩
      simp [lone, e] at hx
    · exact .inr h1
  clear hL hx
  rcases hg with ⟨h1, x, y, hxy, b, off, rfl, c0, c1⟩ | h1
  · have hne : ((x.toNat : Int) == (y.toNat : Int)) = false := by
      have : x.toNat ≠ y.toNat := fun e => hxy (UInt8.toNat_inj.1 e)
      simp; omega
    have hne1 : ((L : Int) == 1) = true := by simp; omega
    have hlt : 0 < L := by omega
    clear hxy h1
    go_enter Try.func63, Try.ntmps63
    go_wp2_with (fail)
    go_quiet (fail)
    clear hlt hne c0 c1 hne1
    have hb0 : Below w.heap.size w (w.drewN nq) := Below.drewN (Below.refl _ w) nq
    generalize w.drewN nq = W at hb0 ⊢
    go_wp2_with (fail)
    go_loopw [3, 27] (fun sv iv wr => ∃ (k : Nat), k ≤ L ∧ iv = .int .i64 (k : Int) ∧ sv = .string ⟨(91 :: spansT (l.take k)).toArray⟩ ∧ Below w.heap.size w wr) (fun _ i _ => L - (intOf i).toNat)
    case atStart => exact ⟨0, by omega, rfl, rfl, hb0⟩
    case round =>
      obtain ⟨k, hk, rfl, rfl, hbr⟩ := hrel
      by_cases hlt : k < L
      · have hlt' : k < l.length := by rw [← HL.out]; exact hlt
        have hsr := hs.grown hbr
        obtain ⟨b', off', he⟩ := hs.at_ k hlt'
        obtain ⟨c0, c1'⟩ := hsr.cell b' off' he k hlt'
        cases he
        obtain ⟨s, HS1⟩ : ∃ s, Hid (l[k] = s) := ⟨_, Lib.hid rfl⟩
        rw [HS1.out] at c0 c1'
        have hget : l[k]? = some s := by rw [List.getElem?_eq_getElem hlt', HS1.out]
        have hsn := Lib.hid (spansT_snoc l k s hget)
        obtain ⟨T, HT⟩ : ∃ T, Hid (spansT (l.take k) = T) := ⟨_, Lib.hid rfl⟩
        have hTl := spansT_length (l.take k)
        rw [List.length_take_of_le (by omega)] at hTl
        rw [HT.out] at hsn hTl ⊢
        obtain ⟨S, hS⟩ : ∃ S : ByteArray, Hid ((⟨(91 :: T).toArray⟩ : ByteArray) = S) := ⟨_, Lib.hid rfl⟩
        have zS : S.size ≤ 9 * L + 1 := by rw [← hS.out]; simp [ByteArray.size]; omega
        rw [hS.out]
        clear hTl
        clear hget
        have hu1 : s.hi.toNat < 256 := s.hi.toNat_lt
        have hBs := Blk.new wr 52 #[.int .u8 (s.lo.toNat : Int), .int .u8 (s.hi.toNat : Int)]
        have hbX : Below wr.heap.size wr (wr.alloc (.cells #[.int .u8 (s.lo.toNat : Int), .int .u8 (s.hi.toNat : Int)] 52)) := (Below.refl _ wr).alloc (Nat.le_refl _) _
        have hbw := hbr.trans (hbX.mono hbr.size)
        have hk1 := rletter_any s.lo (wr.alloc (.cells #[.int .u8 (s.lo.toNat : Int), .int .u8 (s.hi.toNat : Int)] 52))
        have Hk : Hid ((k : Int) + 1 = ((k + 1 : Nat) : Int)) := Lib.hid (by omega)
        obtain ⟨TL, HTL⟩ : ∃ T, Hid (byteT s.lo = T) := ⟨_, Lib.hid rfl⟩
        obtain ⟨TH, HTH⟩ : ∃ T, Hid (byteT s.hi = T) := ⟨_, Lib.hid rfl⟩
        rw [HTL.out] at hk1
        obtain ⟨BL, hBL⟩ : ∃ S : ByteArray, Hid ((⟨TL.toArray⟩ : ByteArray) = S) := ⟨_, Lib.hid rfl⟩
        obtain ⟨BH, hBH⟩ : ∃ S : ByteArray, Hid ((⟨TH.toArray⟩ : ByteArray) = S) := ⟨_, Lib.hid rfl⟩
        have zL : BL.size ≤ 4 := by rw [← hBL.out, ← HTL.out]; have := byteT_length s.lo; simpa [ByteArray.size] using this
        have zH : BH.size ≤ 4 := by rw [← hBH.out, ← HTH.out]; have := byteT_length s.hi; simpa [ByteArray.size] using this
        rw [hBL.out] at hk1
        clear hsr hlt' HS1
        by_cases hc : s.lo.toNat < s.hi.toNat
        · have n2 : (s.lo.toNat : Int) < (s.hi.toNat : Int) := by omega
          have wr1 : IntKind.u8.wrap ((s.lo.toNat : Int) + 1) = (s.lo.toNat : Int) + 1 := by rw [IntKind.wrap_u8]; omega
          by_cases hc2 : s.lo.toNat + 1 < s.hi.toNat
          · have Hsp : Hid (spanT s = TL ++ ([45] ++ TH)) := Lib.hid (by unfold spanT; rw [if_pos (by omega), if_pos (by omega), HTL.out, HTH.out])
            have n1 : (s.lo.toNat : Int) + 1 < (s.hi.toNat : Int) := by omega
            clear hc hc2
            go_wp2_with (first
              | (go_at_call 77; (with_reducible refine hk1.mono ?_); rintro e w8 ⟨rfl, h8⟩;
                 have z0 := (hBs.below h8 hBs.lt).cell 0; have z1 := (hBs.below h8 hBs.lt).cell 1;
                 simp only [List.getElem?_cons_zero, List.getElem?_cons_succ] at z0 z1;
                 have hk2 := rletter_any s.hi w8; rw [HTH.out, hBH.out] at hk2)
              | (go_at_call 77; (with_reducible refine hk2.mono ?_); rintro e w9 ⟨rfl, h9⟩))
            refine ⟨⟨k + 1, by omega, by rw [← Hk.out], ?_, ((hbw.trans (h8.mono hbw.size)).trans (h9.mono (hbw.trans (h8.mono hbw.size)).size))⟩, by simp [intOf]; omega⟩
            rw [hsn.out, Hsp.out]
            have e45 : (⟨#[45]⟩ : ByteArray) = ⟨([45] : List UInt8).toArray⟩ := rfl
            rw [← hS.out, ← hBL.out, ← hBH.out, e45, bs_cat, bs_cat, bs_cat]; simp
          · have Hsp : Hid (spanT s = TL ++ TH) := Lib.hid (by unfold spanT; rw [if_neg (by omega), if_pos (by omega), HTL.out, HTH.out]; simp)
            have n1 : ¬ (s.lo.toNat : Int) + 1 < (s.hi.toNat : Int) := by omega
            clear hc hc2
            go_wp2_with (first
              | (go_at_call 77; (with_reducible refine hk1.mono ?_); rintro e w8 ⟨rfl, h8⟩;
                 have z0 := (hBs.below h8 hBs.lt).cell 0; have z1 := (hBs.below h8 hBs.lt).cell 1;
                 simp only [List.getElem?_cons_zero, List.getElem?_cons_succ] at z0 z1;
                 have hk2 := rletter_any s.hi w8; rw [HTH.out, hBH.out] at hk2)
              | (go_at_call 77; (with_reducible refine hk2.mono ?_); rintro e w9 ⟨rfl, h9⟩))
            refine ⟨⟨k + 1, by omega, by rw [← Hk.out], ?_, ((hbw.trans (h8.mono hbw.size)).trans (h9.mono (hbw.trans (h8.mono hbw.size)).size))⟩, by simp [intOf]; omega⟩
            rw [hsn.out, Hsp.out, ← hS.out, ← hBL.out, ← hBH.out, bs_cat, bs_cat]; simp
        · have Hsp : Hid (spanT s = TL) := Lib.hid (by unfold spanT; rw [if_neg (by omega), if_neg (by omega), HTL.out]; simp)
          have n2 : ¬ (s.lo.toNat : Int) < (s.hi.toNat : Int) := by omega
          clear hc
          go_wp2_with (first
            | (go_at_call 77; (with_reducible refine hk1.mono ?_); rintro e w8 ⟨rfl, h8⟩;
               have z0 := (hBs.below h8 hBs.lt).cell 0; have z1 := (hBs.below h8 hBs.lt).cell 1;
               simp only [List.getElem?_cons_zero, List.getElem?_cons_succ] at z0 z1))
          refine ⟨⟨k + 1, by omega, by rw [← Hk.out], ?_, (hbw.trans (h8.mono hbw.size))⟩, by simp [intOf]; omega⟩
          rw [hsn.out, Hsp.out, ← hS.out, ← hBL.out, bs_cat]; simp
      · obtain rfl : k = L := by omega
        have htk : l.take k = l := by rw [HL.out]; exact List.take_length
        rw [htk]
        have hTl := spansT_length l
        rw [← HL.out] at hTl
        obtain ⟨S, hS⟩ : ∃ S : ByteArray, Hid ((⟨(91 :: spansT l).toArray⟩ : ByteArray) = S) := ⟨_, Lib.hid rfl⟩
        have zS : S.size ≤ 9 * k + 1 := by rw [← hS.out]; simp [ByteArray.size]; omega
        rw [hS.out]
        clear hTl
        go_wp2_with (fail)
        have e93 : (⟨#[93]⟩ : ByteArray) = ⟨([93] : List UInt8).toArray⟩ := rfl
        rw [← hS.out, e93, bs_cat]
        exact bodyPost_ret (v := .string ⟨(91 :: spansT l ++ [93]).toArray⟩) (by simp [results, Try.results63, go_sem]; try rfl) rfl ⟨by rw [Hset.out]; rfl, hbr⟩
  · have hne : ((L : Int) == 1) = false := by simp; omega
    go_enter Try.func63, Try.ntmps63
    go_wp2_with (fail)
    go_quiet (fail)
    clear hne h1
    have hb0 : Below w.heap.size w (w.drewN nq) := Below.drewN (Below.refl _ w) nq
    generalize w.drewN nq = W at hb0 ⊢
    go_wp2_with (fail)
    go_loopw [3, 27] (fun sv iv wr => ∃ (k : Nat), k ≤ L ∧ iv = .int .i64 (k : Int) ∧ sv = .string ⟨(91 :: spansT (l.take k)).toArray⟩ ∧ Below w.heap.size w wr) (fun _ i _ => L - (intOf i).toNat)
    case atStart => exact ⟨0, by omega, rfl, rfl, hb0⟩
    case round =>
      obtain ⟨k, hk, rfl, rfl, hbr⟩ := hrel
      by_cases hlt : k < L
      · have hlt' : k < l.length := by rw [← HL.out]; exact hlt
        have hsr := hs.grown hbr
        obtain ⟨b', off', he⟩ := hs.at_ k hlt'
        obtain ⟨c0, c1'⟩ := hsr.cell b' off' he k hlt'
        cases he
        obtain ⟨s, HS1⟩ : ∃ s, Hid (l[k] = s) := ⟨_, Lib.hid rfl⟩
        rw [HS1.out] at c0 c1'
        have hget : l[k]? = some s := by rw [List.getElem?_eq_getElem hlt', HS1.out]
        have hsn := Lib.hid (spansT_snoc l k s hget)
        obtain ⟨T, HT⟩ : ∃ T, Hid (spansT (l.take k) = T) := ⟨_, Lib.hid rfl⟩
        have hTl := spansT_length (l.take k)
        rw [List.length_take_of_le (by omega)] at hTl
        rw [HT.out] at hsn hTl ⊢
        obtain ⟨S, hS⟩ : ∃ S : ByteArray, Hid ((⟨(91 :: T).toArray⟩ : ByteArray) = S) := ⟨_, Lib.hid rfl⟩
        have zS : S.size ≤ 9 * L + 1 := by rw [← hS.out]; simp [ByteArray.size]; omega
        rw [hS.out]
        clear hTl
        clear hget
        have hu1 : s.hi.toNat < 256 := s.hi.toNat_lt
        have hBs := Blk.new wr 52 #[.int .u8 (s.lo.toNat : Int), .int .u8 (s.hi.toNat : Int)]
        have hbX : Below wr.heap.size wr (wr.alloc (.cells #[.int .u8 (s.lo.toNat : Int), .int .u8 (s.hi.toNat : Int)] 52)) := (Below.refl _ wr).alloc (Nat.le_refl _) _
        have hbw := hbr.trans (hbX.mono hbr.size)
        have hk1 := rletter_any s.lo (wr.alloc (.cells #[.int .u8 (s.lo.toNat : Int), .int .u8 (s.hi.toNat : Int)] 52))
        have Hk : Hid ((k : Int) + 1 = ((k + 1 : Nat) : Int)) := Lib.hid (by omega)
        obtain ⟨TL, HTL⟩ : ∃ T, Hid (byteT s.lo = T) := ⟨_, Lib.hid rfl⟩
        obtain ⟨TH, HTH⟩ : ∃ T, Hid (byteT s.hi = T) := ⟨_, Lib.hid rfl⟩
        rw [HTL.out] at hk1
        obtain ⟨BL, hBL⟩ : ∃ S : ByteArray, Hid ((⟨TL.toArray⟩ : ByteArray) = S) := ⟨_, Lib.hid rfl⟩
        obtain ⟨BH, hBH⟩ : ∃ S : ByteArray, Hid ((⟨TH.toArray⟩ : ByteArray) = S) := ⟨_, Lib.hid rfl⟩
        have zL : BL.size ≤ 4 := by rw [← hBL.out, ← HTL.out]; have := byteT_length s.lo; simpa [ByteArray.size] using this
        have zH : BH.size ≤ 4 := by rw [← hBH.out, ← HTH.out]; have := byteT_length s.hi; simpa [ByteArray.size] using this
        rw [hBL.out] at hk1
        clear hsr hlt' HS1
        by_cases hc : s.lo.toNat < s.hi.toNat
        · have n2 : (s.lo.toNat : Int) < (s.hi.toNat : Int) := by omega
          have wr1 : IntKind.u8.wrap ((s.lo.toNat : Int) + 1) = (s.lo.toNat : Int) + 1 := by rw [IntKind.wrap_u8]; omega
          by_cases hc2 : s.lo.toNat + 1 < s.hi.toNat
          · have Hsp : Hid (spanT s = TL ++ ([45] ++ TH)) := Lib.hid (by unfold spanT; rw [if_pos (by omega), if_pos (by omega), HTL.out, HTH.out])
            have n1 : (s.lo.toNat : Int) + 1 < (s.hi.toNat : Int) := by omega
            clear hc hc2
            go_wp2_with (first
              | (go_at_call 77; (with_reducible refine hk1.mono ?_); rintro e w8 ⟨rfl, h8⟩;
                 have z0 := (hBs.below h8 hBs.lt).cell 0; have z1 := (hBs.below h8 hBs.lt).cell 1;
                 simp only [List.getElem?_cons_zero, List.getElem?_cons_succ] at z0 z1;
                 have hk2 := rletter_any s.hi w8; rw [HTH.out, hBH.out] at hk2)
              | (go_at_call 77; (with_reducible refine hk2.mono ?_); rintro e w9 ⟨rfl, h9⟩))
            refine ⟨⟨k + 1, by omega, by rw [← Hk.out], ?_, ((hbw.trans (h8.mono hbw.size)).trans (h9.mono (hbw.trans (h8.mono hbw.size)).size))⟩, by simp [intOf]; omega⟩
            rw [hsn.out, Hsp.out]
            have e45 : (⟨#[45]⟩ : ByteArray) = ⟨([45] : List UInt8).toArray⟩ := rfl
            rw [← hS.out, ← hBL.out, ← hBH.out, e45, bs_cat, bs_cat, bs_cat]; simp
          · have Hsp : Hid (spanT s = TL ++ TH) := Lib.hid (by unfold spanT; rw [if_neg (by omega), if_pos (by omega), HTL.out, HTH.out]; simp)
            have n1 : ¬ (s.lo.toNat : Int) + 1 < (s.hi.toNat : Int) := by omega
            clear hc hc2
            go_wp2_with (first
              | (go_at_call 77; (with_reducible refine hk1.mono ?_); rintro e w8 ⟨rfl, h8⟩;
                 have z0 := (hBs.below h8 hBs.lt).cell 0; have z1 := (hBs.below h8 hBs.lt).cell 1;
                 simp only [List.getElem?_cons_zero, List.getElem?_cons_succ] at z0 z1;
                 have hk2 := rletter_any s.hi w8; rw [HTH.out, hBH.out] at hk2)
              | (go_at_call 77; (with_reducible refine hk2.mono ?_); rintro e w9 ⟨rfl, h9⟩))
            refine ⟨⟨k + 1, by omega, by rw [← Hk.out], ?_, ((hbw.trans (h8.mono hbw.size)).trans (h9.mono (hbw.trans (h8.mono hbw.size)).size))⟩, by simp [intOf]; omega⟩
            rw [hsn.out, Hsp.out, ← hS.out, ← hBL.out, ← hBH.out, bs_cat, bs_cat]; simp
        · have Hsp : Hid (spanT s = TL) := Lib.hid (by unfold spanT; rw [if_neg (by omega), if_neg (by omega), HTL.out]; simp)
          have n2 : ¬ (s.lo.toNat : Int) < (s.hi.toNat : Int) := by omega
          clear hc
          go_wp2_with (first
            | (go_at_call 77; (with_reducible refine hk1.mono ?_); rintro e w8 ⟨rfl, h8⟩;
               have z0 := (hBs.below h8 hBs.lt).cell 0; have z1 := (hBs.below h8 hBs.lt).cell 1;
               simp only [List.getElem?_cons_zero, List.getElem?_cons_succ] at z0 z1))
          refine ⟨⟨k + 1, by omega, by rw [← Hk.out], ?_, (hbw.trans (h8.mono hbw.size))⟩, by simp [intOf]; omega⟩
          rw [hsn.out, Hsp.out, ← hS.out, ← hBL.out, bs_cat]; simp
      · obtain rfl : k = L := by omega
        have htk : l.take k = l := by rw [HL.out]; exact List.take_length
        rw [htk]
        have hTl := spansT_length l
        rw [← HL.out] at hTl
        obtain ⟨S, hS⟩ : ∃ S : ByteArray, Hid ((⟨(91 :: spansT l).toArray⟩ : ByteArray) = S) := ⟨_, Lib.hid rfl⟩
        have zS : S.size ≤ 9 * k + 1 := by rw [← hS.out]; simp [ByteArray.size]; omega
        rw [hS.out]
        clear hTl
        go_wp2_with (fail)
        have e93 : (⟨#[93]⟩ : ByteArray) = ⟨([93] : List UInt8).toArray⟩ := rfl
        rw [← hS.out, e93, bs_cat]
        exact bodyPost_ret (v := .string ⟨(91 :: spansT l ++ [93]).toArray⟩) (by simp [results, Try.results63, go_sem]; try rfl) rfl ⟨by rw [Hset.out]; rfl, hbr⟩
theorem rset_any (sa : Option Addr) (sc : Nat) (l : List Sp) (w : World) (hs : Sps w sa sc l) (hn : 9 * l.length + 4 ≤ 140737488355328) :
    Calls Try.prog 63 #[.slice sa l.length sc] w fun e w' => e = .returned (.string ⟨(setT l).toArray⟩) ∧ Below w.heap.size w w' := by
  cases hx : lone l with
  | none => exact rset_many sa l.length sc l w hs rfl hx hn
  | some c =>
    match l, hx with
    | [x], hx =>
      have hxx : x.lo = x.hi := by
        simp only [lone] at hx
        split at hx
        · assumption
        · cases hx
      have := rset_one sa sc x w hs hxx
      have e : setT [x] = byteT x.lo := by simp [setT, lone, hxx]
      rw [e]
      exact this
end Go.Proofs.Ytkdfobnkebkpfaa

/- The reference's part. -/
namespace Go.Proofs.Ytkdfobnkebkpfaa
open Go.RowKit Go.Shelf
attribute [local go_sem] Oper.semAt_some

theorem bs_wrap (T : List UInt8) : ((⟨#[40]⟩ : ByteArray) ++ (⟨T.toArray⟩ : ByteArray) ++ (⟨#[41]⟩ : ByteArray)) = ⟨(40 :: (T ++ [41])).toArray⟩ := by
  rw [bs_app, bs_app]; simp

/-- The contract of the reference's text at one expression, above a world. -/
def RText (W0 : World) (h : Hd) (kids : Fo) (sa : Option Addr) (sc : Nat) (a : Option Addr) (cap : Nat) : Prop :=
  ∀ w : World, Below W0.heap.size W0 w → Calls Try.prog 45 #[itemV h sa sc a kids.len cap] w fun e w' => e = .returned (.string ⟨(textOf h kids).toArray⟩) ∧ Below w.heap.size w w'

set_option maxRecDepth 100000 in
set_option maxHeartbeats 1000000 in
theorem rpart_any (W0 : World) (o : Int) (h : Hd) (kids : Fo) (sa : Option Addr) (sc : Nat) (a : Option Addr) (cap : Nat) (hT : RText W0 h kids sa sc a cap) (w : World) (hB : Below W0.heap.size W0 w) (hz : (textOf h kids).length ≤ 140737488355328) :
    Calls Try.prog 64 #[itemV h sa sc a kids.len cap, .int .i64 o] w fun e w' => e = .returned (.string ⟨(partT o h (textOf h kids)).toArray⟩) ∧ Below w.heap.size w w' := by
  obtain ⟨hk, hs⟩ := h
  dsimp only [itemV, RText] at *
  obtain ⟨L, HL⟩ : ∃ L, Hid (kids.len = L) := ⟨_, Lib.hid rfl⟩
  obtain ⟨S, HS⟩ : ∃ L, Hid (hs.length = L) := ⟨_, Lib.hid rfl⟩
  have hP : Hid (partT o ⟨hk, hs⟩ (textOf ⟨hk, hs⟩ kids) = if hk = 4 ∨ (hk = 3 ∧ o ≠ 4) then 40 :: (textOf ⟨hk, hs⟩ kids ++ [41]) else textOf ⟨hk, hs⟩ kids) := Lib.hid rfl
  obtain ⟨T, HT⟩ : ∃ T, Hid (textOf ⟨hk, hs⟩ kids = T) := ⟨_, Lib.hid rfl⟩
  rw [HL.out, HS.out] at hT ⊢
  rw [HT.out] at hT hP hz ⊢
  obtain ⟨X, HX⟩ : ∃ X, Hid (partT o ⟨hk, hs⟩ T = X) := ⟨_, Lib.hid rfl⟩
  rw [HX.out] at hP ⊢
  have hb0 : Below w.heap.size w (w.alloc (.cells #[.int .i64 hk, .slice sa S sc, .slice a L cap] 25)) := (Below.refl _ w).alloc (Nat.le_refl _) _
  have hc := hT _ (hB.trans (hb0.mono hB.size))
  obtain ⟨BT, hBT⟩ : ∃ S : ByteArray, Hid ((⟨T.toArray⟩ : ByteArray) = S) := ⟨_, Lib.hid rfl⟩
  have zT : BT.size ≤ 140737488355328 := by rw [← hBT.out]; simpa [ByteArray.size] using hz
  rw [hBT.out] at hc
  have Hc := Lib.hid hc
  clear hc hT hz hB
  by_cases h4 : hk = 4
  · subst h4
    have hX : Hid (X = 40 :: (T ++ [41])) := Lib.hid (by rw [hP.out, if_pos (.inl rfl)])
    clear hP
    go_enter Try.func64, Try.ntmps64
    go_wp2_with (go_at_call 45; (with_reducible refine Hc.out.mono ?_); rintro e w8 ⟨rfl, h8⟩)
    exact bodyPost_ret (v := .string (⟨#[40]⟩ ++ BT ++ ⟨#[41]⟩)) (by simp [results, Try.results64, go_sem]; try rfl) rfl ⟨by rw [hX.out, ← hBT.out, bs_wrap], hb0.trans (h8.mono hb0.size)⟩
  have q4 : (hk == 4) = false := by simpa using h4
  by_cases h3 : hk = 3
  · subst h3
    by_cases ho : o = 4
    · subst ho
      have hX : Hid (X = T) := Lib.hid (by rw [hP.out, if_neg (by simp)])
      clear hP h4
      go_enter Try.func64, Try.ntmps64
      go_wp2_with (go_at_call 45; (with_reducible refine Hc.out.mono ?_); rintro e w8 ⟨rfl, h8⟩)
      exact bodyPost_ret (v := .string BT) (by simp [results, Try.results64, go_sem]; try rfl) rfl ⟨by rw [hX.out, ← hBT.out], hb0.trans (h8.mono hb0.size)⟩
    · have qo : (o != 4) = true := by simpa using ho
      have hX : Hid (X = 40 :: (T ++ [41])) := Lib.hid (by rw [hP.out, if_pos (.inr ⟨rfl, ho⟩)])
      clear hP h4 ho
      go_enter Try.func64, Try.ntmps64
      go_wp2_with (go_at_call 45; (with_reducible refine Hc.out.mono ?_); rintro e w8 ⟨rfl, h8⟩)
      exact bodyPost_ret (v := .string (⟨#[40]⟩ ++ BT ++ ⟨#[41]⟩)) (by simp [results, Try.results64, go_sem]; try rfl) rfl ⟨by rw [hX.out, ← hBT.out, bs_wrap], hb0.trans (h8.mono hb0.size)⟩
  have q3 : (hk == 3) = false := by simpa using h3
  have hX : Hid (X = T) := Lib.hid (by rw [hP.out, if_neg (by intro hh; rcases hh with hh | hh; exact h4 hh; exact h3 hh.1)])
  clear hP h4 h3
  go_enter Try.func64, Try.ntmps64
  go_wp2_with (go_at_call 45; (with_reducible refine Hc.out.mono ?_); rintro e w8 ⟨rfl, h8⟩)
  exact bodyPost_ret (v := .string BT) (by simp [results, Try.results64, go_sem]; try rfl) rfl ⟨by rw [hX.out, ← hBT.out], hb0.trans (h8.mono hb0.size)⟩

/-- Its contract at expressions smaller than this. -/
def RTextN (N : Nat) : Prop := ∀ (W0 : World) (h : Hd) (kids : Fo) (sa : Option Addr) (sc : Nat) (a : Option Addr) (cap : Nat), kids.size < N → plainB h kids.len = true → okF kids → 9 * h.set.length + 12 + wtT kids ≤ 140737488355328 → Sps W0 sa sc h.set → Items W0 a cap kids → RText W0 h kids sa sc a cap

set_option maxRecDepth 100000 in
set_option maxHeartbeats 1000000 in
theorem rt_leaf (W0 : World) (h : Hd) (kids : Fo) (sa : Option Addr) (sc : Nat) (a : Option Addr) (cap : Nat) (hn : 9 * h.set.length + 12 + wtT kids ≤ 140737488355328) (hk : h.k = 1 ∨ h.k = 2) (hs : Sps W0 sa sc h.set) : RText W0 h kids sa sc a cap := by
  intro w hB
  obtain ⟨kk, set⟩ := h
  dsimp only [itemV] at hk hs hn ⊢
  obtain ⟨L, HL⟩ : ∃ L, Hid (kids.len = L) := ⟨_, Lib.hid rfl⟩
  rw [HL.out]
  rcases hk with rfl | rfl
  · have hT : Hid (textOf ⟨1, set⟩ kids = [40, 41]) := Lib.hid (by simp [textOf, nodeT])
    obtain ⟨T, HT⟩ : ∃ T, Hid (textOf ⟨1, set⟩ kids = T) := ⟨_, Lib.hid rfl⟩
    obtain ⟨S, HS⟩ : ∃ L, Hid (set.length = L) := ⟨_, Lib.hid rfl⟩
    rw [HT.out] at hT ⊢
    rw [HS.out]
    have hb0 : Below w.heap.size w (w.alloc (.cells #[.int .i64 1, .slice sa S sc, .slice a L cap] 25)) := (Below.refl _ w).alloc (Nat.le_refl _) _
    go_enter Try.func45, Try.ntmps45
    go_wp2_with (fail)
    exact bodyPost_ret (v := .string ⟨#[40, 41]⟩) (by simp [results, Try.results45, go_sem]; try rfl) rfl ⟨by rw [hT.out], hb0⟩
  · have hT : Hid (textOf ⟨2, set⟩ kids = setT set) := Lib.hid (by simp [textOf, nodeT])
    have hb0 : Below w.heap.size w (w.alloc (.cells #[.int .i64 2, .slice sa set.length sc, .slice a L cap] 25)) := (Below.refl _ w).alloc (Nat.le_refl _) _
    have hc := rset_any sa sc set _ (hs.grown (hB.trans (hb0.mono hB.size))) (by omega)
    obtain ⟨T, HT⟩ : ∃ T, Hid (textOf ⟨2, set⟩ kids = T) := ⟨_, Lib.hid rfl⟩
    rw [HT.out] at hT ⊢
    rw [← hT.out] at hc
    obtain ⟨S, HS⟩ : ∃ L, Hid (set.length = L) := ⟨_, Lib.hid rfl⟩
    rw [HS.out] at hb0 hc ⊢
    have Hc := Lib.hid hc
    clear hc hs
    go_enter Try.func45, Try.ntmps45
    go_wp2_with (go_at_call 63; (with_reducible refine Hc.out.mono ?_); rintro e w8 ⟨rfl, h8⟩)
    exact bodyPost_ret (v := .string ⟨T.toArray⟩) (by simp [results, Try.results45, go_sem]; try rfl) rfl ⟨rfl, hb0.trans (h8.mono hb0.size)⟩
end Go.Proofs.Ytkdfobnkebkpfaa

/- The reference's text. -/
namespace Go.Proofs.Ytkdfobnkebkpfaa
open Go.RowKit Go.Shelf
attribute [local go_sem] Oper.semAt_some

theorem bs_snoc (T : List UInt8) (c : UInt8) : ((⟨T.toArray⟩ : ByteArray) ++ (⟨#[c]⟩ : ByteArray)) = ⟨(T ++ [c]).toArray⟩ := by
  rw [bs_app]; simp
theorem okF_at {w : World} {b off k sc xcap : Nat} {kids ks : Fo} {hd : Hd} {sa xa : Option Addr} (h : ElAt w b off k kids hd ks sa sc xa xcap) (ho : okF kids) : plainB hd ks.len = true ∧ okF ks := by
  have := okF_drop k kids ho
  rw [h.cut] at this
  exact ⟨this.1, this.2.1⟩
theorem wtT_at {w : World} {b off k sc xcap : Nat} {kids ks : Fo} {hd : Hd} {sa xa : Option Addr} (h : ElAt w b off k kids hd ks sa sc xa xcap) : wtT (kids.take k) + (9 * hd.set.length + 12 + wtT ks) ≤ wtT kids := by
  have := wtT_drop k kids
  rw [h.cut] at this
  simp only [wtT] at this
  omega
theorem size_at {w : World} {b off k sc xcap : Nat} {kids ks : Fo} {hd : Hd} {sa xa : Option Addr} (h : ElAt w b off k kids hd ks sa sc xa xcap) : ks.size < kids.size := by
  have := Fo.drop_size k kids
  rw [h.cut] at this
  simp only [Fo.size] at this
  omega

set_option maxRecDepth 100000 in
set_option maxHeartbeats 2000000 in
theorem rt_l3 (N : Nat) (ih : RTextN N) (W0 : World) (h : Hd) (kids : Fo) (sa : Option Addr) (sc : Nat) (a : Option Addr) (cap : Nat) (hN : kids.size < N + 1) (hk : h.k = 3) (hok : okF kids) (hn : 9 * h.set.length + 12 + wtT kids ≤ 140737488355328) (hI : Items W0 a cap kids) : RText W0 h kids sa sc a cap := by
  intro w hB
  obtain ⟨kk, set⟩ := h
  dsimp only [itemV] at hk hn ⊢
  subst hk
  obtain ⟨L, HL⟩ : ∃ L, Hid (kids.len = L) := ⟨_, Lib.hid rfl⟩
  obtain ⟨S, HS⟩ : ∃ L, Hid (set.length = L) := ⟨_, Lib.hid rfl⟩
  have hlm : kids.len ≤ cap ∧ cap ≤ 9223372036854775807 := ⟨hI.le, hI.max⟩
  have hT : Hid (textOf ⟨3, set⟩ kids = textF kids 3 true) := Lib.hid (by simp [textOf, nodeT])
  obtain ⟨T, HT⟩ : ∃ T, Hid (textOf ⟨3, set⟩ kids = T) := ⟨_, Lib.hid rfl⟩
  rw [HT.out] at hT ⊢
  rw [HL.out] at hlm ⊢
  rw [HS.out] at hn ⊢
  have Hok := Lib.hid hok
  have Hih := Lib.hid ih
  have hI1 := hI.grown hB
  have hb0 : Below w.heap.size w (w.alloc (.cells #[.int .i64 3, .slice sa S sc, .slice a L cap] 25)) := (Below.refl _ w).alloc (Nat.le_refl _) _
  have hB0 := Blk.new w 25 #[.int .i64 3, .slice sa S sc, .slice a L cap]
  clear hI hok ih hB
  go_enter Try.func45, Try.ntmps45
  go_wp2_with (fail)
  go_loopw [3, 48] (fun sv iv wr => ∃ (k : Nat), k ≤ L ∧ iv = .int .i64 (k : Int) ∧ sv = .string ⟨(textF (kids.take k) 3 true).toArray⟩ ∧ Below w.heap.size w wr ∧ Blk wr w.heap.size 25 [.int .i64 3, .slice sa S sc, .slice a L cap]) (fun _ i _ => L - (intOf i).toNat)
  case atStart => exact ⟨0, by omega, rfl, by simp [Fo.take, textF], hb0, hB0⟩
  case round =>
    obtain ⟨k, hk', rfl, rfl, hbr, hBr⟩ := hrel
    clear hb0 hB0
    by_cases hlt : k < L
    · obtain ⟨b, off, hd, ks, ya, yc, xa, xcap, rfl, hat⟩ := (hI1.grown hbr).at (k := k) (by rw [HL.out]; exact hlt)
      have Hw := Lib.hid (wtT_at hat)
      have Hz := Lib.hid (size_at hat)
      have Ho := Lib.hid (okF_at hat Hok.out)
      have Hsn := Lib.hid (textF_snoc k kids 3 true hd ks _ hat.cut)
      have hlT := textF_length (kids.take k) 3 true
      obtain ⟨x0, x1, x2, hsp, hIk, hcut⟩ := hat
      clear hcut
      have hTC : RText wr hd ks ya yc xa xcap := Hih.out wr hd ks ya yc xa xcap (by have := Hz.out; omega) Ho.out.1 Ho.out.2 (by have := Hw.out; omega) hsp hIk
      have hnx := (Below.refl wr.heap.size wr).alloc (Nat.le_refl _) (.cells #[.int .i64 hd.k, .slice ya hd.set.length yc, .slice xa ks.len xcap] 25)
      have hl1 := textOf_length hd ks
      have hl2 := partT_length 3 hd (textOf hd ks)
      have hpt := rpart_any wr 3 hd ks ya yc xa xcap hTC _ hnx (by have := Hw.out; omega)
      have hmx := hIk.le
      have hmx2 := hIk.max
      have hbn : Below w.heap.size w (wr.alloc (.cells #[.int .i64 hd.k, .slice ya hd.set.length yc, .slice xa ks.len xcap] 25)) := hbr.trans (hnx.mono hbr.size)
      have hBn := hBr.alloc (.cells #[.int .i64 hd.k, .slice ya hd.set.length yc, .slice xa ks.len xcap] 25)
      have hltb := hBn.lt
      have z0 := hBn.cell 0
      simp only [List.getElem?_cons_zero] at z0
      obtain ⟨P, HP⟩ : ∃ P, Hid (partT 3 hd (textOf hd ks) = P) := ⟨_, Lib.hid rfl⟩
      obtain ⟨U, HU⟩ : ∃ P, Hid (textF (kids.take k) 3 true = P) := ⟨_, Lib.hid rfl⟩
      rw [HP.out] at hpt hl2 Hsn
      rw [HU.out] at Hsn hlT ⊢
      obtain ⟨BP, hBP⟩ : ∃ S : ByteArray, Hid ((⟨P.toArray⟩ : ByteArray) = S) := ⟨_, Lib.hid rfl⟩
      obtain ⟨BU, hBU⟩ : ∃ S : ByteArray, Hid ((⟨U.toArray⟩ : ByteArray) = S) := ⟨_, Lib.hid rfl⟩
      have zP : BP.size + BU.size + 1 ≤ 140737488355328 := by
        rw [← hBP.out, ← hBU.out]
        show P.toArray.size + U.toArray.size + 1 ≤ _
        rw [List.size_toArray, List.size_toArray]
        have := Hw.out
        omega
      rw [hBP.out] at hpt
      rw [hBU.out]
      have Hpt := Lib.hid hpt
      clear hnx hIk hBr hsp hTC hpt hl1 hl2 hlT
      dsimp only [itemV] at Hpt
      by_cases hk0 : k = 0
      · have hS2 : Hid (textF (kids.take (k + 1)) 3 true = U ++ P) := Lib.hid (by rw [Hsn.out, if_neg (by simp; try omega)]; simp)
        have hkn : ¬ (0 : Int) < (k : Int) := by omega
        clear hk0
        go_wp2_with (go_at_call 64; (with_reducible refine Hpt.out.mono ?_); rintro e w8 ⟨rfl, h8⟩)
        refine ⟨⟨k + 1, by omega, by go_num, ?_, hbn.trans (h8.mono hbn.size), hBn.below h8 hltb⟩, by simp [intOf]; omega⟩
        rw [hS2.out, ← hBU.out, ← hBP.out, bs_cat]
      · have hkp : (0 : Int) < (k : Int) := by omega
        have hS2 : Hid (textF (kids.take (k + 1)) 3 true = U ++ P) := Lib.hid (by rw [Hsn.out]; simp)
        go_wp2_with (go_at_call 64; (with_reducible refine Hpt.out.mono ?_); rintro e w8 ⟨rfl, h8⟩)
        refine ⟨⟨k + 1, by omega, by go_num, ?_, hbn.trans (h8.mono hbn.size), hBn.below h8 hltb⟩, by simp [intOf]; omega⟩
        rw [hS2.out, ← hBU.out, ← hBP.out, bs_cat]
    · obtain rfl : k = L := by omega
      have htk : kids.take k = kids := Fo.take_all _ _ (by rw [HL.out]; exact Nat.le_refl _)
      rw [htk, ← hT.out]
      go_wp2_with (fail)
      exact bodyPost_ret (v := .string ⟨T.toArray⟩) (by simp [results, Try.results45, go_sem]; try rfl) rfl ⟨rfl, hbr⟩

set_option maxRecDepth 100000 in
set_option maxHeartbeats 2000000 in
theorem rt_l4 (N : Nat) (ih : RTextN N) (W0 : World) (h : Hd) (kids : Fo) (sa : Option Addr) (sc : Nat) (a : Option Addr) (cap : Nat) (hN : kids.size < N + 1) (hk : h.k = 4) (hok : okF kids) (hn : 9 * h.set.length + 12 + wtT kids ≤ 140737488355328) (hI : Items W0 a cap kids) : RText W0 h kids sa sc a cap := by
  intro w hB
  obtain ⟨kk, set⟩ := h
  dsimp only [itemV] at hk hn ⊢
  subst hk
  obtain ⟨L, HL⟩ : ∃ L, Hid (kids.len = L) := ⟨_, Lib.hid rfl⟩
  obtain ⟨S, HS⟩ : ∃ L, Hid (set.length = L) := ⟨_, Lib.hid rfl⟩
  have hlm : kids.len ≤ cap ∧ cap ≤ 9223372036854775807 := ⟨hI.le, hI.max⟩
  have hT : Hid (textOf ⟨4, set⟩ kids = textF kids 4 true) := Lib.hid (by simp [textOf, nodeT])
  obtain ⟨T, HT⟩ : ∃ T, Hid (textOf ⟨4, set⟩ kids = T) := ⟨_, Lib.hid rfl⟩
  rw [HT.out] at hT ⊢
  rw [HL.out] at hlm ⊢
  rw [HS.out] at hn ⊢
  have Hok := Lib.hid hok
  have Hih := Lib.hid ih
  have hI1 := hI.grown hB
  have hb0 : Below w.heap.size w (w.alloc (.cells #[.int .i64 4, .slice sa S sc, .slice a L cap] 25)) := (Below.refl _ w).alloc (Nat.le_refl _) _
  have hB0 := Blk.new w 25 #[.int .i64 4, .slice sa S sc, .slice a L cap]
  clear hI hok ih hB
  go_enter Try.func45, Try.ntmps45
  go_wp2_with (fail)
  go_loopw [3, 48] (fun sv iv wr => ∃ (k : Nat), k ≤ L ∧ iv = .int .i64 (k : Int) ∧ sv = .string ⟨(textF (kids.take k) 4 true).toArray⟩ ∧ Below w.heap.size w wr ∧ Blk wr w.heap.size 25 [.int .i64 4, .slice sa S sc, .slice a L cap]) (fun _ i _ => L - (intOf i).toNat)
  case atStart => exact ⟨0, by omega, rfl, by simp [Fo.take, textF], hb0, hB0⟩
  case round =>
    obtain ⟨k, hk', rfl, rfl, hbr, hBr⟩ := hrel
    clear hb0 hB0
    by_cases hlt : k < L
    · obtain ⟨b, off, hd, ks, ya, yc, xa, xcap, rfl, hat⟩ := (hI1.grown hbr).at (k := k) (by rw [HL.out]; exact hlt)
      have Hw := Lib.hid (wtT_at hat)
      have Hz := Lib.hid (size_at hat)
      have Ho := Lib.hid (okF_at hat Hok.out)
      have Hsn := Lib.hid (textF_snoc k kids 4 true hd ks _ hat.cut)
      have hlT := textF_length (kids.take k) 4 true
      obtain ⟨x0, x1, x2, hsp, hIk, hcut⟩ := hat
      clear hcut
      have hTC : RText wr hd ks ya yc xa xcap := Hih.out wr hd ks ya yc xa xcap (by have := Hz.out; omega) Ho.out.1 Ho.out.2 (by have := Hw.out; omega) hsp hIk
      have hnx := (Below.refl wr.heap.size wr).alloc (Nat.le_refl _) (.cells #[.int .i64 hd.k, .slice ya hd.set.length yc, .slice xa ks.len xcap] 25)
      have hl1 := textOf_length hd ks
      have hl2 := partT_length 4 hd (textOf hd ks)
      have hpt := rpart_any wr 4 hd ks ya yc xa xcap hTC _ hnx (by have := Hw.out; omega)
      have hmx := hIk.le
      have hmx2 := hIk.max
      have hbn : Below w.heap.size w (wr.alloc (.cells #[.int .i64 hd.k, .slice ya hd.set.length yc, .slice xa ks.len xcap] 25)) := hbr.trans (hnx.mono hbr.size)
      have hBn := hBr.alloc (.cells #[.int .i64 hd.k, .slice ya hd.set.length yc, .slice xa ks.len xcap] 25)
      have hltb := hBn.lt
      have z0 := hBn.cell 0
      simp only [List.getElem?_cons_zero] at z0
      obtain ⟨P, HP⟩ : ∃ P, Hid (partT 4 hd (textOf hd ks) = P) := ⟨_, Lib.hid rfl⟩
      obtain ⟨U, HU⟩ : ∃ P, Hid (textF (kids.take k) 4 true = P) := ⟨_, Lib.hid rfl⟩
      rw [HP.out] at hpt hl2 Hsn
      rw [HU.out] at Hsn hlT ⊢
      obtain ⟨BP, hBP⟩ : ∃ S : ByteArray, Hid ((⟨P.toArray⟩ : ByteArray) = S) := ⟨_, Lib.hid rfl⟩
      obtain ⟨BU, hBU⟩ : ∃ S : ByteArray, Hid ((⟨U.toArray⟩ : ByteArray) = S) := ⟨_, Lib.hid rfl⟩
      have zP : BP.size + BU.size + 1 ≤ 140737488355328 := by
        rw [← hBP.out, ← hBU.out]
        show P.toArray.size + U.toArray.size + 1 ≤ _
        rw [List.size_toArray, List.size_toArray]
        have := Hw.out
        omega
      rw [hBP.out] at hpt
      rw [hBU.out]
      have Hpt := Lib.hid hpt
      clear hnx hIk hBr hsp hTC hpt hl1 hl2 hlT
      dsimp only [itemV] at Hpt
      by_cases hk0 : k = 0
      · have hS2 : Hid (textF (kids.take (k + 1)) 4 true = U ++ P) := Lib.hid (by rw [Hsn.out, if_neg (by simp; try omega)]; simp)
        have hkn : ¬ (0 : Int) < (k : Int) := by omega
        clear hk0
        go_wp2_with (go_at_call 64; (with_reducible refine Hpt.out.mono ?_); rintro e w8 ⟨rfl, h8⟩)
        refine ⟨⟨k + 1, by omega, by go_num, ?_, hbn.trans (h8.mono hbn.size), hBn.below h8 hltb⟩, by simp [intOf]; omega⟩
        rw [hS2.out, ← hBU.out, ← hBP.out, bs_cat]
      · have hkp : (0 : Int) < (k : Int) := by omega
        have hS2 : Hid (textF (kids.take (k + 1)) 4 true = U ++ [124] ++ P) := Lib.hid (by rw [Hsn.out, if_pos ⟨rfl, .inr (by omega)⟩]; simp)
        go_wp2_with (go_at_call 64; (with_reducible refine Hpt.out.mono ?_); rintro e w8 ⟨rfl, h8⟩)
        refine ⟨⟨k + 1, by omega, by go_num, ?_, hbn.trans (h8.mono hbn.size), hBn.below h8 hltb⟩, by simp [intOf]; omega⟩
        rw [hS2.out, ← hBU.out, ← hBP.out, bs_snoc, bs_cat]
    · obtain rfl : k = L := by omega
      have htk : kids.take k = kids := Fo.take_all _ _ (by rw [HL.out]; exact Nat.le_refl _)
      rw [htk, ← hT.out]
      go_wp2_with (fail)
      exact bodyPost_ret (v := .string ⟨T.toArray⟩) (by simp [results, Try.results45, go_sem]; try rfl) rfl ⟨rfl, hbr⟩
end Go.Proofs.Ytkdfobnkebkpfaa

/- The reference's text of what repeats; of any expression; Text. -/
namespace Go.Proofs.Ytkdfobnkebkpfaa
open Go.RowKit Go.Shelf
attribute [local go_sem] Oper.semAt_some

set_option maxRecDepth 100000 in
set_option maxHeartbeats 2000000 in
theorem rt_r5 (N : Nat) (ih : RTextN N) (W0 : World) (h : Hd) (kids : Fo) (sa : Option Addr) (sc : Nat) (a : Option Addr) (cap : Nat) (hN : kids.size < N + 1) (hk : h.k = 5) (hlen : kids.len = 1) (hok : okF kids) (hn : 9 * h.set.length + 12 + wtT kids ≤ 140737488355328) (hI : Items W0 a cap kids) : RText W0 h kids sa sc a cap := by
  intro w hB
  obtain ⟨kk, set⟩ := h
  dsimp only [itemV] at hk hn ⊢
  subst hk
  obtain ⟨S, HS⟩ : ∃ L, Hid (set.length = L) := ⟨_, Lib.hid rfl⟩
  have hlm : kids.len ≤ cap ∧ cap ≤ 9223372036854775807 := ⟨hI.le, hI.max⟩
  obtain ⟨T, HT⟩ : ∃ T, Hid (textOf ⟨5, set⟩ kids = T) := ⟨_, Lib.hid rfl⟩
  rw [HT.out]
  rw [HS.out] at hn ⊢
  have hb0 : Below w.heap.size w (w.alloc (.cells #[.int .i64 5, .slice sa S sc, .slice a kids.len cap] 25)) := (Below.refl _ w).alloc (Nat.le_refl _) _
  have hB0 := Blk.new w 25 #[.int .i64 5, .slice sa S sc, .slice a kids.len cap]
  obtain ⟨b, off, hd, ks, ya, yc, xa, xcap, rfl, hat⟩ := ((hI.grown hB).grown hb0).at (k := 0) (by omega)
  have hTx : Hid (T = partT 5 hd (textOf hd ks) ++ [42]) := Lib.hid (by
    have hc := hat.cut
    have e1 : kids.drop 1 = .nil := Fo.drop_all (by omega)
    simp only [Fo.drop] at hc
    rw [show (0 : Nat) + 1 = 1 from rfl] at hc
    rw [← HT.out, hc, e1]
    simp [textOf, nodeT, textF, repT])
  have Hw := Lib.hid (wtT_at hat)
  have Hz := Lib.hid (size_at hat)
  have Ho := Lib.hid (okF_at hat hok)
  obtain ⟨x0, x1, x2, hsp, hIk, hcut⟩ := hat
  rw [hlen] at hlm hb0 hB0 x0 x1 x2 hsp hIk ⊢
  clear hcut hI HT
  have hdr : Below w.heap.size w (w.alloc (.cells #[.int .i64 5, .slice sa S sc, .slice (some ⟨b, off, none⟩) 1 cap] 25)).drew := hb0.drew
  have z0 := hB0.cell 0
  have z2 := hB0.cell 2
  simp only [List.getElem?_cons_zero, List.getElem?_cons_succ] at z0 z2
  have hltb := hB0.lt
  generalize hWe : w.alloc (.cells #[.int .i64 5, .slice sa S sc, .slice (some ⟨b, off, none⟩) 1 cap] 25) = W at *
  have hTC : RText W hd ks ya yc xa xcap := ih W hd ks ya yc xa xcap (by have := Hz.out; omega) Ho.out.1 Ho.out.2 (by have := Hw.out; omega) hsp hIk
  have hl1 := textOf_length hd ks
  have hl2 := partT_length 5 hd (textOf hd ks)
  have hpt := rpart_any W 5 hd ks ya yc xa xcap hTC W.drew ((Below.refl _ W).drew) (by have := Hw.out; omega)
  have hmx := hIk.le
  have hmx2 := hIk.max
  obtain ⟨P, HP⟩ : ∃ P, Hid (partT 5 hd (textOf hd ks) = P) := ⟨_, Lib.hid rfl⟩
  rw [HP.out] at hpt hl2 hTx
  obtain ⟨BP, hBP⟩ : ∃ S : ByteArray, Hid ((⟨P.toArray⟩ : ByteArray) = S) := ⟨_, Lib.hid rfl⟩
  have zP : BP.size + 1 ≤ 140737488355328 := by
    rw [← hBP.out]
    show P.toArray.size + 1 ≤ _
    rw [List.size_toArray]
    have := Hw.out
    omega
  rw [hBP.out] at hpt
  have Hpt := Lib.hid hpt
  clear hTC hpt hl1 hl2 hsp hIk ih hok hlen
  dsimp only [itemV] at Hpt
  have Hdr := Lib.hid hdr
  clear hdr
  simp only [Nat.zero_mul, Nat.add_zero] at x0 x1 x2
  go_enter Try.func45, Try.ntmps45
  go_wp2_with (fail)
  go_region_with ((go_at_call 64; (with_reducible refine Hpt.out.mono ?_); rintro e w8 ⟨rfl, h8⟩))
  all_goals go_wp2_with (fail)
  all_goals exact bodyPost_ret (v := .string (BP ++ ⟨#[42]⟩)) (by simp [results, Try.results45, go_sem]; try rfl) rfl ⟨by rw [hTx.out, ← hBP.out, bs_snoc], Hdr.out.trans (h8.mono Hdr.out.size)⟩

set_option maxRecDepth 100000 in
set_option maxHeartbeats 2000000 in
theorem rt_r6 (N : Nat) (ih : RTextN N) (W0 : World) (h : Hd) (kids : Fo) (sa : Option Addr) (sc : Nat) (a : Option Addr) (cap : Nat) (hN : kids.size < N + 1) (hk : h.k = 6) (hlen : kids.len = 1) (hok : okF kids) (hn : 9 * h.set.length + 12 + wtT kids ≤ 140737488355328) (hI : Items W0 a cap kids) : RText W0 h kids sa sc a cap := by
  intro w hB
  obtain ⟨kk, set⟩ := h
  dsimp only [itemV] at hk hn ⊢
  subst hk
  obtain ⟨S, HS⟩ : ∃ L, Hid (set.length = L) := ⟨_, Lib.hid rfl⟩
  have hlm : kids.len ≤ cap ∧ cap ≤ 9223372036854775807 := ⟨hI.le, hI.max⟩
  obtain ⟨T, HT⟩ : ∃ T, Hid (textOf ⟨6, set⟩ kids = T) := ⟨_, Lib.hid rfl⟩
  rw [HT.out]
  rw [HS.out] at hn ⊢
  have hb0 : Below w.heap.size w (w.alloc (.cells #[.int .i64 6, .slice sa S sc, .slice a kids.len cap] 25)) := (Below.refl _ w).alloc (Nat.le_refl _) _
  have hB0 := Blk.new w 25 #[.int .i64 6, .slice sa S sc, .slice a kids.len cap]
  obtain ⟨b, off, hd, ks, ya, yc, xa, xcap, rfl, hat⟩ := ((hI.grown hB).grown hb0).at (k := 0) (by omega)
  have hTx : Hid (T = partT 6 hd (textOf hd ks) ++ [43]) := Lib.hid (by
    have hc := hat.cut
    have e1 : kids.drop 1 = .nil := Fo.drop_all (by omega)
    simp only [Fo.drop] at hc
    rw [show (0 : Nat) + 1 = 1 from rfl] at hc
    rw [← HT.out, hc, e1]
    simp [textOf, nodeT, textF, repT])
  have Hw := Lib.hid (wtT_at hat)
  have Hz := Lib.hid (size_at hat)
  have Ho := Lib.hid (okF_at hat hok)
  obtain ⟨x0, x1, x2, hsp, hIk, hcut⟩ := hat
  rw [hlen] at hlm hb0 hB0 x0 x1 x2 hsp hIk ⊢
  clear hcut hI HT
  have hdr : Below w.heap.size w (w.alloc (.cells #[.int .i64 6, .slice sa S sc, .slice (some ⟨b, off, none⟩) 1 cap] 25)).drew := hb0.drew
  have z0 := hB0.cell 0
  have z2 := hB0.cell 2
  simp only [List.getElem?_cons_zero, List.getElem?_cons_succ] at z0 z2
  have hltb := hB0.lt
  generalize hWe : w.alloc (.cells #[.int .i64 6, .slice sa S sc, .slice (some ⟨b, off, none⟩) 1 cap] 25) = W at *
  have hTC : RText W hd ks ya yc xa xcap := ih W hd ks ya yc xa xcap (by have := Hz.out; omega) Ho.out.1 Ho.out.2 (by have := Hw.out; omega) hsp hIk
  have hl1 := textOf_length hd ks
  have hl2 := partT_length 6 hd (textOf hd ks)
  have hpt := rpart_any W 6 hd ks ya yc xa xcap hTC W.drew ((Below.refl _ W).drew) (by have := Hw.out; omega)
  have hmx := hIk.le
  have hmx2 := hIk.max
  obtain ⟨P, HP⟩ : ∃ P, Hid (partT 6 hd (textOf hd ks) = P) := ⟨_, Lib.hid rfl⟩
  rw [HP.out] at hpt hl2 hTx
  obtain ⟨BP, hBP⟩ : ∃ S : ByteArray, Hid ((⟨P.toArray⟩ : ByteArray) = S) := ⟨_, Lib.hid rfl⟩
  have zP : BP.size + 1 ≤ 140737488355328 := by
    rw [← hBP.out]
    show P.toArray.size + 1 ≤ _
    rw [List.size_toArray]
    have := Hw.out
    omega
  rw [hBP.out] at hpt
  have Hpt := Lib.hid hpt
  clear hTC hpt hl1 hl2 hsp hIk ih hok hlen
  dsimp only [itemV] at Hpt
  have Hdr := Lib.hid hdr
  clear hdr
  simp only [Nat.zero_mul, Nat.add_zero] at x0 x1 x2
  go_enter Try.func45, Try.ntmps45
  go_wp2_with (fail)
  go_region_with ((go_at_call 64; (with_reducible refine Hpt.out.mono ?_); rintro e w8 ⟨rfl, h8⟩))
  all_goals go_wp2_with (fail)
  all_goals exact bodyPost_ret (v := .string (BP ++ ⟨#[43]⟩)) (by simp [results, Try.results45, go_sem]; try rfl) rfl ⟨by rw [hTx.out, ← hBP.out, bs_snoc], Hdr.out.trans (h8.mono Hdr.out.size)⟩

set_option maxRecDepth 100000 in
set_option maxHeartbeats 2000000 in
theorem rt_r7 (N : Nat) (ih : RTextN N) (W0 : World) (h : Hd) (kids : Fo) (sa : Option Addr) (sc : Nat) (a : Option Addr) (cap : Nat) (hN : kids.size < N + 1) (hk : h.k = 7) (hlen : kids.len = 1) (hok : okF kids) (hn : 9 * h.set.length + 12 + wtT kids ≤ 140737488355328) (hI : Items W0 a cap kids) : RText W0 h kids sa sc a cap := by
  intro w hB
  obtain ⟨kk, set⟩ := h
  dsimp only [itemV] at hk hn ⊢
  subst hk
  obtain ⟨S, HS⟩ : ∃ L, Hid (set.length = L) := ⟨_, Lib.hid rfl⟩
  have hlm : kids.len ≤ cap ∧ cap ≤ 9223372036854775807 := ⟨hI.le, hI.max⟩
  obtain ⟨T, HT⟩ : ∃ T, Hid (textOf ⟨7, set⟩ kids = T) := ⟨_, Lib.hid rfl⟩
  rw [HT.out]
  rw [HS.out] at hn ⊢
  have hb0 : Below w.heap.size w (w.alloc (.cells #[.int .i64 7, .slice sa S sc, .slice a kids.len cap] 25)) := (Below.refl _ w).alloc (Nat.le_refl _) _
  have hB0 := Blk.new w 25 #[.int .i64 7, .slice sa S sc, .slice a kids.len cap]
  obtain ⟨b, off, hd, ks, ya, yc, xa, xcap, rfl, hat⟩ := ((hI.grown hB).grown hb0).at (k := 0) (by omega)
  have hTx : Hid (T = partT 7 hd (textOf hd ks) ++ [63]) := Lib.hid (by
    have hc := hat.cut
    have e1 : kids.drop 1 = .nil := Fo.drop_all (by omega)
    simp only [Fo.drop] at hc
    rw [show (0 : Nat) + 1 = 1 from rfl] at hc
    rw [← HT.out, hc, e1]
    simp [textOf, nodeT, textF, repT])
  have Hw := Lib.hid (wtT_at hat)
  have Hz := Lib.hid (size_at hat)
  have Ho := Lib.hid (okF_at hat hok)
  obtain ⟨x0, x1, x2, hsp, hIk, hcut⟩ := hat
  rw [hlen] at hlm hb0 hB0 x0 x1 x2 hsp hIk ⊢
  clear hcut hI HT
  have hdr : Below w.heap.size w (w.alloc (.cells #[.int .i64 7, .slice sa S sc, .slice (some ⟨b, off, none⟩) 1 cap] 25)).drew := hb0.drew
  have z0 := hB0.cell 0
  have z2 := hB0.cell 2
  simp only [List.getElem?_cons_zero, List.getElem?_cons_succ] at z0 z2
  have hltb := hB0.lt
  generalize hWe : w.alloc (.cells #[.int .i64 7, .slice sa S sc, .slice (some ⟨b, off, none⟩) 1 cap] 25) = W at *
  have hTC : RText W hd ks ya yc xa xcap := ih W hd ks ya yc xa xcap (by have := Hz.out; omega) Ho.out.1 Ho.out.2 (by have := Hw.out; omega) hsp hIk
  have hl1 := textOf_length hd ks
  have hl2 := partT_length 7 hd (textOf hd ks)
  have hpt := rpart_any W 7 hd ks ya yc xa xcap hTC W.drew ((Below.refl _ W).drew) (by have := Hw.out; omega)
  have hmx := hIk.le
  have hmx2 := hIk.max
  obtain ⟨P, HP⟩ : ∃ P, Hid (partT 7 hd (textOf hd ks) = P) := ⟨_, Lib.hid rfl⟩
  rw [HP.out] at hpt hl2 hTx
  obtain ⟨BP, hBP⟩ : ∃ S : ByteArray, Hid ((⟨P.toArray⟩ : ByteArray) = S) := ⟨_, Lib.hid rfl⟩
  have zP : BP.size + 1 ≤ 140737488355328 := by
    rw [← hBP.out]
    show P.toArray.size + 1 ≤ _
    rw [List.size_toArray]
    have := Hw.out
    omega
  rw [hBP.out] at hpt
  have Hpt := Lib.hid hpt
  clear hTC hpt hl1 hl2 hsp hIk ih hok hlen
  dsimp only [itemV] at Hpt
  have Hdr := Lib.hid hdr
  clear hdr
  simp only [Nat.zero_mul, Nat.add_zero] at x0 x1 x2
  go_enter Try.func45, Try.ntmps45
  go_wp2_with (fail)
  go_region_with ((go_at_call 64; (with_reducible refine Hpt.out.mono ?_); rintro e w8 ⟨rfl, h8⟩))
  all_goals go_wp2_with (fail)
  all_goals exact bodyPost_ret (v := .string (BP ++ ⟨#[63]⟩)) (by simp [results, Try.results45, go_sem]; try rfl) rfl ⟨by rw [hTx.out, ← hBP.out, bs_snoc], Hdr.out.trans (h8.mono Hdr.out.size)⟩

theorem plainB_rep {h : Hd} {len : Nat} (hp : plainB h len = true) (hk : h.k = 5 ∨ h.k = 6 ∨ h.k = 7) : len = 1 := by
  unfold plainB at hp
  rcases hk with hk | hk | hk <;> (simp [hk] at hp; omega)
theorem rt_any : ∀ N, RTextN N := by
  intro N
  induction N with
  | zero => intro W0 h kids sa sc a cap hN; omega
  | succ N ih =>
    intro W0 h kids sa sc a cap hN hp hok hn hs hI
    rcases plainB_kind hp with hk | ⟨hk, -⟩ | hk | hk | hk | hk | hk
    · exact rt_leaf W0 h kids sa sc a cap hn (.inl hk) hs
    · exact rt_leaf W0 h kids sa sc a cap hn (.inr hk) hs
    · exact rt_l3 N ih W0 h kids sa sc a cap hN hk hok hn hI
    · exact rt_l4 N ih W0 h kids sa sc a cap hN hk hok hn hI
    · exact rt_r5 N ih W0 h kids sa sc a cap hN hk (plainB_rep hp (.inl hk)) hok hn hI
    · exact rt_r6 N ih W0 h kids sa sc a cap hN hk (plainB_rep hp (.inr (.inl hk))) hok hn hI
    · exact rt_r7 N ih W0 h kids sa sc a cap hN hk (plainB_rep hp (.inr (.inr hk))) hok hn hI

set_option maxRecDepth 100000 in
set_option maxHeartbeats 1000000 in
theorem refText_any (hh : Hd) (kids : Fo) (sa : Option Addr) (sc : Nat) (ka : Option Addr) (kcap : Nat) (w : World) (hss : Sps w sa sc hh.set) (hk : Items w ka kcap kids) (hN : kids.size ≤ 1099511627776) (hwt : 9 * hh.set.length + 12 + wtT kids ≤ 140737488355328) :
    Calls Try.prog 24 #[itemV hh sa sc ka kids.len kcap] w fun e w' => e = .returned (.tuple #[.string ⟨(txE hh kids).toArray⟩, .int .i64 (ckE hh kids)]) ∧ Below w.heap.size w w' := by
  have hck := refCheck_any hh kids sa sc ka kcap (w.alloc (.cells #[.int .i64 hh.k, .slice sa hh.set.length sc, .slice ka kids.len kcap] 25)) (hss.grown ((Below.refl _ w).alloc (Nat.le_refl _) _)) (hk.grown ((Below.refl _ w).alloc (Nat.le_refl _) _)) hN
  have hB0 := Blk.new w 25 #[.int .i64 hh.k, .slice sa hh.set.length sc, .slice ka kids.len kcap]
  have hb0 : Below w.heap.size w (w.alloc (.cells #[.int .i64 hh.k, .slice sa hh.set.length sc, .slice ka kids.len kcap] 25)) := (Below.refl _ w).alloc (Nat.le_refl _) _
  change Calls _ _ _ _ (fun e w' => e = .returned (.int .i64 (ckE hh kids)) ∧ _) at hck
  have htx : Hid (txE hh kids = if ckE hh kids = 0 then textOf hh kids else []) := Lib.hid rfl
  have hokE : Hid (ckE hh kids = 0 → plainB hh kids.len = true ∧ okF kids) := Lib.hid ckE_ok
  generalize ckE hh kids = E at hck htx hokE ⊢
  obtain ⟨X, HX⟩ : ∃ X, Hid (txE hh kids = X) := ⟨_, Lib.hid rfl⟩
  rw [HX.out] at htx ⊢
  by_cases hE : E = 0
  · have hpl := hokE.out hE
    have hE1 : (E != 0) = false := by simp [hE]
    have hT := Lib.hid (rt_any (kids.size + 1) w hh kids sa sc ka kcap (by omega) hpl.1 hpl.2 hwt hss hk)
    have hX : Hid (X = textOf hh kids) := Lib.hid (by rw [htx.out, if_pos hE])
    have HE := Lib.hid hE
    obtain ⟨kk, set⟩ := hh
    dsimp only [itemV, RText] at *
    clear hpl hE htx hokE
    go_enter Try.func24, Try.ntmps24
    go_wp2_with (go_at_call 15; (with_reducible refine hck.mono ?_); rintro e w1 ⟨rfl, hb1⟩; have hbx := (hB0.below hb1 hB0.lt); have x0 := hbx.cell 0; have x1 := hbx.cell 1; have x2 := hbx.cell 2; simp only [List.getElem?_cons_zero, List.getElem?_cons_succ] at x0 x1 x2; have hb01 := hb0.trans (hb1.mono hb0.size))
    refine (hT.out w1 hb01).mono ?_
    rintro e w2 ⟨rfl, hb2⟩
    have hbw := hb01.trans (hb2.mono hb01.size)
    rw [← hX.out]
    clear hck hB0 hb0 hb1 hbx x0 x1 x2 hb2
    go_wp2_with (fail)
    go_ret2
    exact ⟨by rw [HE.out]; rfl, hbw⟩
  · have hE1 : (E != 0) = true := by simp [hE]
    have hX : Hid (X = []) := Lib.hid (by rw [htx.out, if_neg hE])
    clear hE htx hokE
    obtain ⟨kk, set⟩ := hh
    dsimp only [itemV] at *
    go_enter Try.func24, Try.ntmps24
    go_wp2_with (go_at_call 15; (with_reducible refine hck.mono ?_); rintro e w1 ⟨rfl, hb1⟩; have hb01 := hb0.trans (hb1.mono hb0.size))
    go_ret2
    exact ⟨by rw [hX.out]; rfl, hb01⟩
end Go.Proofs.Ytkdfobnkebkpfaa

/- The law RegexTexts. -/
namespace Go.Proofs.Ytkdfobnkebkpfaa
open Go.RowKit Go.Shelf

attribute [local go_sem] Oper.semAt_some

theorem wtT_wt2 (f : Fo) : wtT f ≤ 12 * f.wt := by
  induction f with
  | nil => simp [wtT]
  | cons h k r ihk ihr => simp only [wtT, Fo.wt]; omega

set_option maxRecDepth 100000 in
set_option maxHeartbeats 4000000 in
theorem regexTexts_any (h : Hd) (kids : Fo) (sa : Option Addr) (sc : Nat) (a : Option Addr) (cap : Nat) (w : World) (hss : Sps w sa sc h.set) (hI : Items w a cap kids) :
    Calls Try.prog 5 #[itemV h sa sc a kids.len cap] w fun e w' => e = .returned (.bool true) ∧ Below w.heap.size w w' := by
  obtain ⟨hk, hs⟩ := h
  dsimp only [itemV] at *
  obtain ⟨L, HL⟩ : ∃ L, Hid (kids.len = L) := ⟨_, Lib.hid rfl⟩
  obtain ⟨S, HS⟩ : ∃ L, Hid (hs.length = L) := ⟨_, Lib.hid rfl⟩
  rw [HL.out, HS.out]
  have hA0 := Blk.new w 25 #[.int .i64 hk, .slice sa S sc, .slice a L cap]
  have hb0 : Below w.heap.size w (w.alloc (.cells #[.int .i64 hk, .slice sa S sc, .slice a L cap] 25)) := (Below.refl w.heap.size w).alloc (Nat.le_refl _) _
  go_enter Try.func5, Try.ntmps5
  go_wp2_with (fail)
  refine (live_any _).mono ?_
  rintro e w1 ⟨rfl, hb1⟩
  have hA1 := hA0.below hb1 hA0.lt
  have hbw1 : Below w.heap.size w w1 := hb0.trans (hb1.mono hb0.size)
  clear hA0 hb0 hb1
  have hl1 := hA1.lt
  have x0 := hA1.cell 0
  have x1 := hA1.cell 1
  have x2 := hA1.cell 2
  simp only [List.getElem?_cons_zero, List.getElem?_cons_succ] at x0 x1 x2
  have hR := Blk.new w1 25 #[.int .i64 hk, .slice sa S sc, .slice a L cap]
  have hbR : Below w1.heap.size w1 (w1.alloc (.cells #[.int .i64 hk, .slice sa S sc, .slice a L cap] 25)) := (Below.refl _ w1).alloc (Nat.le_refl _) _
  have hIr := (hI.grown hbw1).grown hbR
  have hsr := (hss.grown hbw1).grown hbR
  have hIt : Items (w1.alloc (.cells #[.int .i64 hk, .slice sa S sc, .slice a L cap] 25)) (some ⟨w1.heap.size, 0, none⟩) 1 (.cons ⟨hk, hs⟩ kids .nil) :=
    ⟨by simp [Fo.len], by omega, fun e => (by cases e), fun _ => ⟨_, _, rfl, hR.cell 0, ⟨sa, sc, by rw [HS.out]; exact hR.cell 1, hsr⟩, ⟨a, cap, by rw [HL.out]; exact hR.cell 2, hIr.le, hIr.max, hIr.nil_, hIr.at_⟩, trivial⟩⟩
  have hbig := big_any _ _ _ _ hIt
  obtain ⟨B, HB⟩ : ∃ B, Hid (bigB (.cons ⟨hk, hs⟩ kids .nil) = B) := ⟨_, Lib.hid rfl⟩
  rw [HB.out] at hbig
  simp only [Fo.len, Nat.zero_add, Nat.reduceAdd] at hbig
  go_wp2_with (fail)
  refine hbig.mono ?_
  rintro e w3 ⟨rfl, hb3⟩
  have hb13 : Below w1.heap.size w1 w3 := hbR.trans (hb3.mono hbR.size)
  have hA3 := hA1.below hb13 hA1.lt
  have hbw3 : Below w.heap.size w w3 := hbw1.trans (hb13.mono hbw1.size)
  have hI3 := hI.grown hbw3
  have hs3 := hss.grown hbw3
  clear hA1 hR hbR hIr hsr hIt hbig hb3 hb13 hbw1 x0 x1 x2 hl1
  cases B
  case true =>
    go_wp2_with (fail)
    exact bodyPost_ret (v := .bool true) (by simp [results, Try.results5, go_sem]; try rfl) rfl ⟨rfl, hbw3⟩
  have hsz : kids.wt + hs.length + 1 ≤ 1000 := by
    have h1 := few_wt (bigB_one HB.out)
    simp only at h1
    omega
  have hkz : kids.size ≤ 1000 := by have := Fo.size_wt kids; omega
  have hwt := wtT_wt2 kids
  have htx := rtext_any ⟨hk, hs⟩ kids sa sc a cap w3 hs3 hI3 (by omega) (by simp only; omega)
  dsimp only [itemV] at htx
  rw [HL.out, HS.out] at htx
  obtain ⟨E, HE⟩ : ∃ E : Int, Hid (ckE ⟨hk, hs⟩ kids = E) := ⟨_, Lib.hid rfl⟩
  obtain ⟨X, HX⟩ : ∃ X, Hid (txE ⟨hk, hs⟩ kids = X) := ⟨_, Lib.hid rfl⟩
  rw [HE.out, HX.out] at htx
  have x0 := hA3.cell 0
  have x1 := hA3.cell 1
  have x2 := hA3.cell 2
  have xl := hA3.lt
  simp only [List.getElem?_cons_zero, List.getElem?_cons_succ] at x0 x1 x2
  go_wp2_with (fail)
  refine htx.mono ?_
  rintro e w4 ⟨rfl, hb4⟩
  have hA4 := hA3.below hb4 hA3.lt
  have hbw4 : Below w.heap.size w w4 := hbw3.trans (hb4.mono hbw3.size)
  have hrt := refText_any ⟨hk, hs⟩ kids sa sc a cap w4 (hss.grown hbw4) (hI.grown hbw4) (by omega) (by simp only; omega)
  dsimp only [itemV] at hrt
  rw [HL.out, HS.out, HE.out, HX.out] at hrt
  have Hrt := Lib.hid hrt
  clear htx hA3 hb4 hbw3 hI3 hs3 x0 x1 x2 xl hrt
  have x0 := hA4.cell 0
  have x1 := hA4.cell 1
  have x2 := hA4.cell 2
  have xl := hA4.lt
  simp only [List.getElem?_cons_zero, List.getElem?_cons_succ] at x0 x1 x2
  obtain ⟨BX, hBX⟩ : ∃ S : ByteArray, Hid ((⟨X.toArray⟩ : ByteArray) = S) := ⟨_, Lib.hid rfl⟩
  rw [hBX.out] at Hrt ⊢
  go_wp2_with (fail)
  refine Hrt.out.mono ?_
  rintro e w5 ⟨rfl, hb5⟩
  have hbw5 := hbw4.trans (hb5.mono hbw4.size)
  clear hA4 x0 x1 x2 xl hb5 hI hss
  go_wp2_with (fail)
  exact bodyPost_ret (v := .bool true) (by simp [results, Try.results5, go_sem]; try rfl) rfl ⟨rfl, hbw5⟩
end Go.Proofs.Ytkdfobnkebkpfaa

/- The row RegexTexts: for every input: any expression: the law answers true and changes nothing that was there; no premise beyond the row's own. -/
namespace Go.Proofs.Ytkdfobnkebkpfaa
open Go.ChangeShapes Go.WideShapes Go.ChangeAt Go.RowKit

set_option maxRecDepth 100000 in
theorem regexTexts_lifted (os : Os) (started : os.Started) (H : Type) (enc : TypeId × Value → H) :
    ReturnsInHanded {} Try.checked os 5 .any (Rows.regexTextsSpec.pre6 enc Try.prog Try.f5 Rows.regexTextsRow.domain false) (Rows.regexTextsSpec.post enc Try.prog Try.f5 false true false false) := by
  refine returnsInHanded_of_change (C := Try.checked) Try.own started (by kernel_rfl) Try.func5
    (ChangeSpec.witness6 (enc := enc) (C := Try.checked) false ⟨#[], #[.agg #[.int .i64 0, .slice none 0 0, .slice none 0 0]], []⟩ 8 (by kernel_rfl) (by kernel_rfl) (by kernel_rfl) (by kernel_rfl)) ?_
  intro W base args ds gs before hval0 hW _ _
  have hval : ∀ (j : Nat) t v, Try.f5.params[j]? = some t → args[j]? = some v → Value.okWide Try.prog W .any base t v := hval0
  have hW' := hW
  obtain ⟨p, q, hA0, hV, rfl, hfz, hnd⟩ := hW
  have hA : DataW.TrodAll enc Try.prog W 0 (fun _ => true) true Try.f5.params.toList args.toList ds p := hA0
  rw [Try.params5] at hA hval
  obtain ⟨v0, d0, rfl, rfl, h0⟩ := trodAll_one hA
  obtain ⟨h, sa, sc, a, cap, kids, rfl, hs, hI⟩ := open_re (hval 0 25 v0 rfl rfl) h0
  refine (regexTexts_any h kids sa sc a cap W hs hI).mono fun e W' ⟨he, hw⟩ => ?_
  subst he
  exact ⟨_, rfl, law_post hW' rfl rfl (by kernel_rfl) (by rw [Try.params5]; intro t ht; simp at ht; subst ht; exact ⟨by kernel_rfl, of_decide_eq_true (by kernel_rfl)⟩) hw⟩

theorem regexTexts_holds : Rows.RegexTextsSaid :=
  OpenClaim.holds_of_wide 5 Try.f5 rfl rfl rfl rfl rfl rfl rfl ⟨rfl, rfl, rfl, rfl, rfl⟩ rfl rfl rfl rfl rfl (by kernel_rfl) Try.func5 (by kernel_rfl)
    (of_decide_eq_true (by kernel_rfl)) (by unfold Func.isWrapper; first | (rw [if_pos (by decide +kernel)]; kernel_rfl) | (rw [if_neg (by decide +kernel)]; exact ⟨rfl, rfl⟩))
    (fun os started H enc _ => regexTexts_lifted os started H enc)
end Go.Proofs.Ytkdfobnkebkpfaa
