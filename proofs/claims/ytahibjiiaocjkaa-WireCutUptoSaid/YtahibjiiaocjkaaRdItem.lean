/- wire.readItem, wire.Read: what they answer is what the plain reading says. -/
import Derived.Test.YtahibjiiaocjkaaRdList
namespace Go.Proofs.Ytahibjiiaocjkaa
open Go.RowKit

/-- What stands behind the first byte was read: the item, how many bytes, the error. -/
def Mid (d : Nat) (xs : List UInt8) (w w' : World) (e : Ending) : Prop := ∃ (hh : Hd) (aa : Option Addr) (ll cc : Nat) (N E : Int), e = .returned (.tuple #[itemV hh aa ll cc, .int .i64 N, .int .i64 E]) ∧ 0 ≤ N ∧ N ≤ 9223372036854775806 ∧
  (E ≠ 0 → rdItem d xs = .inl E) ∧ (E = 0 → ∃ k n, rdItem d xs = .inr (hh, k, n) ∧ N + 1 = ((n : Nat) : Int) ∧ ll = k.len ∧ ItemsP (fun b => w.heap.size ≤ b ∧ b < w'.heap.size) w' aa cc k) ∧ Below w.heap.size w w'

theorem blk_other4 {w : World} {b b' : Nat} {e : TypeId} {cs : List Value} (h : Blk w b e cs) (hne : b ≠ b') (v0 v1 v2 v3 : Value) :
    Blk ((((w.setCell ⟨b', 0, none⟩ v0).setCell ⟨b', 1, none⟩ v1).setCell ⟨b', 2, none⟩ v2).setCell ⟨b', 3, none⟩ v3) b e cs := (((h.setOther hne v0).setOther hne v1).setOther hne v2).setOther hne v3

theorem mid_err {d : Nat} {xs : List UInt8} {w w' : World} {E : Int} (hE : E ≠ 0) (h : rdItem d xs = .inl E) (hb : Below w.heap.size w w') : Mid d xs w w' (.returned (.tuple #[zeroV, .int .i64 0, .int .i64 E])) :=
  ⟨⟨0, 0, ⟨#[]⟩⟩, none, 0, 0, 0, E, rfl, by omega, by omega, fun _ => h, fun e => absurd e hE, hb⟩

theorem mid_num {d : Nat} {r : List UInt8} {A : Option Addr} {R C : Nat} {w : World} (hb : Bytes w A C r) (hR : R = r.length) :
    Calls Try.prog 52 #[.slice A R C] w fun e w' => Mid (d + 1) (1 :: r) w w' e := by
  by_cases h8 : R < 8
  · refine (readNum_short A R C w h8).mono ?_
    rintro e w' ⟨rfl, hbl⟩
    exact mid_err (by decide) (by unfold rdItem; rw [if_pos rfl, if_pos (by omega)]) hbl
  · refine (readNum_any A R C r w hb hR (by omega)).mono ?_
    rintro e w' ⟨rfl, hbl⟩
    refine ⟨_, none, 0, 0, 8, 0, rfl, by omega, by omega, fun e => absurd rfl e, fun _ => ⟨.nil, 9, ?_, by omega, rfl, ItemsP.nil _ _⟩, hbl⟩
    unfold rdItem
    rw [if_pos rfl, if_neg (by omega)]

theorem mid_text {d : Nat} {r : List UInt8} {A : Option Addr} {R C : Nat} {w : World} (hb : Bytes w A C r) (hR : R = r.length) (hC : C ≤ 9223372036854775806) :
    Calls Try.prog 53 #[.slice A R C] w fun e w' => Mid (d + 1) (2 :: r) w w' e := by
  refine (readText_any A R C r w hb hR).mono ?_
  rintro e w' ⟨rfl, hbl⟩
  have hle := hb.le
  cases hc : rdCnt 0 0 r with
  | inl er =>
    have her := rdCnt_err _ _ _ _ hc
    rw [show txtV r = .tuple #[zeroV, .int .i64 0, .int .i64 er] from by unfold txtV; rw [hc]]
    exact mid_err (by rcases her with rfl | rfl <;> decide) (by unfold rdItem; rw [if_neg (by decide), if_pos rfl, hc]) hbl
  | inr p =>
    obtain ⟨n, i⟩ := p
    by_cases hroom : r.length < i + n
    · rw [show txtV r = .tuple #[zeroV, .int .i64 0, .int .i64 10] from by unfold txtV; rw [hc]; simp only; rw [if_pos hroom]]
      exact mid_err (by decide) (by unfold rdItem; rw [if_neg (by decide), if_pos rfl, hc]; simp only; rw [if_pos hroom]) hbl
    · rw [show txtV r = .tuple #[itemV ⟨2, 0, ⟨((r.drop i).take n).toArray⟩⟩ none 0 0, .int .i64 ((i + n : Nat) : Int), .int .i64 0] from by unfold txtV; rw [hc]; simp only; rw [if_neg hroom]]
      have hrd : rdItem (d + 1) (2 :: r) = .inr (⟨2, 0, ⟨((r.drop i).take n).toArray⟩⟩, .nil, 1 + (i + n)) := by unfold rdItem; rw [if_neg (by decide), if_pos rfl, hc]; simp only; rw [if_neg hroom]
      have hl := (rd_sound _ _ _ _ _ hrd).le
      have hlen : (2 :: r : List UInt8).length = r.length + 1 := rfl
      exact ⟨_, none, 0, 0, _, 0, rfl, by omega, by omega, fun e => absurd rfl e, fun _ => ⟨.nil, 1 + (i + n), hrd, by omega, rfl, ItemsP.nil _ _⟩, hbl⟩

theorem mid_list {d : Nat} {ar : Int} (har : 0 ≤ ar ∧ ar ≤ 39)
    (ih : ∀ (a : Option Addr) (L cap : Nat) (xs : List UInt8) (w : World), Bytes w a cap xs → L = xs.length → Calls Try.prog 47 #[.slice a L cap, .int .i64 (ar + 1)] w fun e w' => ItemAns d xs w w' e ∧ Below w.heap.size w w')
    {r : List UInt8} {A : Option Addr} {R C : Nat} {w : World} (hb : Bytes w A C r) (hR : R = r.length) (hC : C ≤ 9223372036854775806) :
    Calls Try.prog 54 #[.slice A R C, .int .i64 ar] w fun e w' => Mid (d + 1) (3 :: r) w w' e := by
  refine (readList_any d ar har ih A R C r w hb hR).mono ?_
  rintro e w' ⟨hans, hbl⟩
  have hle := hb.le
  unfold ListAns at hans
  cases hc : rdCnt 0 0 r with
  | inl er =>
    have her := rdCnt_err _ _ _ _ hc
    rw [hc] at hans
    simp only at hans
    subst hans
    exact mid_err (by rcases her with rfl | rfl <;> decide) (by unfold rdItem; rw [if_neg (by decide), if_neg (by decide), if_pos rfl, hc]) hbl
  | inr p =>
    obtain ⟨n, i⟩ := p
    rw [hc] at hans
    simp only at hans
    cases hl : rdList (rdItem d) n (r.drop i) with
    | inl er =>
      rw [hl] at hans
      simp only at hans
      subst hans
      have hrd : rdItem (d + 1) (3 :: r) = .inl er := by unfold rdItem; rw [if_neg (by decide), if_neg (by decide), if_pos rfl, hc]; simp only; rw [hl]
      exact mid_err (by rcases rdErr _ _ _ hrd with rfl | rfl | rfl <;> decide) hrd hbl
    | inr q =>
      obtain ⟨f, m⟩ := q
      rw [hl] at hans
      simp only at hans
      obtain ⟨a', c', rfl, hI⟩ := hans
      have hrd : rdItem (d + 1) (3 :: r) = .inr (⟨3, 0, ByteArray.empty⟩, f, 1 + (i + m)) := by unfold rdItem; rw [if_neg (by decide), if_neg (by decide), if_pos rfl, hc]; simp only; rw [hl]
      have hl2 := (rd_sound _ _ _ _ _ hrd).le
      have hlen : (3 :: r : List UInt8).length = r.length + 1 := rfl
      exact ⟨_, a', f.len, c', _, 0, rfl, by omega, by omega, fun e => absurd rfl e, fun _ => ⟨f, 1 + (i + m), hrd, by omega, rfl, hI⟩, hbl⟩

set_option maxRecDepth 100000 in
set_option maxHeartbeats 1500000 in
theorem readItem_any : ∀ (d : Nat), d ≤ 40 → ∀ (a : Option Addr) (L cap : Nat) (xs : List UInt8) (w : World), Bytes w a cap xs → L = xs.length →
    Calls Try.prog 47 #[.slice a L cap, .int .i64 (40 - (d : Int))] w fun e w' => ItemAns d xs w w' e ∧ Below w.heap.size w w' := by
  intro d
  induction d with
  | zero =>
    intro _ a L cap xs w hb hL
    cases xs with
    | nil =>
      obtain rfl : L = 0 := hL
      go_enter Try.func47, Try.ntmps47
      go_wp2_with (fail)
      exact bodyPost_ret (v := .tuple #[zeroV, .int .i64 0, .int .i64 10]) (by simp [results, Try.results47, go_sem]; try rfl) rfl ⟨by unfold ItemAns; simp [rdItem], (Below.refl _ w).alloc (Nat.le_refl _) _⟩
    | cons c r =>
      obtain ⟨R, HR⟩ : ∃ R, R = r.length := ⟨_, rfl⟩
      obtain rfl : L = R + 1 := by rw [hL, HR]; rfl
      clear hL HR
      go_enter Try.func47, Try.ntmps47
      go_wp2_with (fail)
      exact bodyPost_ret (v := .tuple #[zeroV, .int .i64 0, .int .i64 3]) (by simp [results, Try.results47, go_sem]; try rfl) rfl ⟨by unfold ItemAns; simp [rdItem], (Below.refl _ w).alloc (Nat.le_refl _) _⟩
  | succ d ih =>
    intro hd a L cap xs w hb hL
    obtain ⟨ar, HAr⟩ : ∃ ar : Int, ar = 40 - ((d + 1 : Nat) : Int) := ⟨_, rfl⟩
    rw [← HAr]
    have har0 : 0 ≤ ar := by omega
    have har1 : ar ≤ 39 := by omega
    have HAr' := Lib.hid HAr
    cases xs with
    | nil =>
      obtain rfl : L = 0 := hL
      clear HAr
      go_enter Try.func47, Try.ntmps47
      go_wp2_with (fail)
      exact bodyPost_ret (v := .tuple #[zeroV, .int .i64 0, .int .i64 10]) (by simp [results, Try.results47, go_sem]; try rfl) rfl ⟨by unfold ItemAns; simp [rdItem], (Below.refl _ w).alloc (Nat.le_refl _) _⟩
    | cons c r =>
      obtain ⟨R, HR⟩ : ∃ R, R = r.length := ⟨_, rfl⟩
      obtain rfl : L = R + 1 := by rw [hL, HR]; rfl
      have hle := hb.le
      have hmx := hb.max
      simp only [List.length_cons] at hle
      rw [← HR] at hle
      obtain ⟨bb, off, rfl⟩ := hb.at_ 0 (by simp)
      have hq := hb.cell bb off rfl 0 (by simp)
      rw [Nat.add_zero] at hq
      simp only [List.getElem_cons_zero] at hq
      have hblt : bb < w.heap.size := World.block_lt_of_cell? w _ hq
      have hbl : Below w.heap.size w ((w.alloc (.cells #[.int .i64 0, .int .i64 0, .string ⟨#[]⟩, .slice none 0 0] 24)).alloc (.cells #[.int .i64 0, .int .i64 0, .string ⟨#[]⟩, .slice none 0 0] 24)) := ((Below.refl _ w).alloc (Nat.le_refl _) _).alloc (by simp) _
      have hBa := (Blk.new w 24 #[.int .i64 0, .int .i64 0, .string ⟨#[]⟩, .slice none 0 0]).alloc (.cells #[.int .i64 0, .int .i64 0, .string ⟨#[]⟩, .slice none 0 0] 24)
      have hBb := Blk.new (w.alloc (.cells #[.int .i64 0, .int .i64 0, .string ⟨#[]⟩, .slice none 0 0] 24)) 24 #[.int .i64 0, .int .i64 0, .string ⟨#[]⟩, .slice none 0 0]
      rw [World.size_alloc] at hBb
      have hbf := bytes_from (at_ := 1) (hb.grown hbl) hL (by omega)
      simp only [List.drop_succ_cons, List.drop_zero] at hbf
      have hbx1 : cap = 1 → Bytes ((w.alloc (.cells #[.int .i64 0, .int .i64 0, .string ⟨#[]⟩, .slice none 0 0] 24)).alloc (.cells #[.int .i64 0, .int .i64 0, .string ⟨#[]⟩, .slice none 0 0] 24)) (some ⟨bb, off, none⟩) 0 r := fun e => by
        subst e
        exact hbf
      have hbx2 : ¬ cap = 1 → Bytes ((w.alloc (.cells #[.int .i64 0, .int .i64 0, .string ⟨#[]⟩, .slice none 0 0] 24)).alloc (.cells #[.int .i64 0, .int .i64 0, .string ⟨#[]⟩, .slice none 0 0] 24)) (some ⟨bb, off + 1, none⟩) (cap - 1) r := fun e => by
        rw [show fromA (some ⟨bb, off, none⟩) cap 1 = some ⟨bb, off + 1, none⟩ from by unfold fromA; rw [if_neg e]; rfl] at hbf
        exact hbf
      have HRh := Lib.hid HR
      clear hbf hL HR HAr
      have har' : (ar == 40) = false := by simp; omega
      go_enter Try.func47, Try.ntmps47
      by_cases hk1 : c = 1
      · skip
        subst hk1
        have q0 : ((w.alloc (.cells #[.int .i64 0, .int .i64 0, .string ⟨#[]⟩, .slice none 0 0] 24)).alloc (.cells #[.int .i64 0, .int .i64 0, .string ⟨#[]⟩, .slice none 0 0] 24)).cell? ⟨bb, off, none⟩ = some (.int .u8 1) := (hbl.cell (p := ⟨bb, off, none⟩) hblt).trans hq
        by_cases hc1 : cap = 1
        · subst hc1
          obtain rfl : R = 0 := by omega
          have hmid := mid_num (d := d) (hbx1 rfl) HRh.out
          clear ih hb hq hbx1 hbx2
          go_wp2_with (fail)
          refine hmid.mono ?_
          rintro e wb ⟨hh, aa, ll, cc, N, E, rfl, hN0, hN1, hEe, hEo, hbb⟩
          clear hmid
          have hB0 := hBa.below hbb hBa.lt
          have hBV := hBb.below hbb hBb.lt
          have hbwb : Below w.heap.size w wb := hbl.trans (hbb.mono hbl.size)
          have z0 := hB0.cell 0
          have z1 := hB0.cell 1
          have z2 := hB0.cell 2
          have z3 := hB0.cell 3
          have y0 := hB0.frozen 0
          have y1 := hB0.frozen 1
          have y2 := hB0.frozen 2
          have y3 := hB0.frozen 3
          have v0 := hBV.cell 0
          have v1 := hBV.cell 1
          have v2 := hBV.cell 2
          have v3 := hBV.cell 3
          have u0 := hBV.frozen 0
          have u1 := hBV.frozen 1
          have u2 := hBV.frozen 2
          have u3 := hBV.frozen 3
          simp only [List.getElem?_cons_zero, List.getElem?_cons_succ] at z0 z1 z2 z3 v0 v1 v2 v3
          by_cases hE : E = 0
          · obtain ⟨k, n, hrd, hNn, rfl, hI⟩ := hEo hE
            subst hE
            have hA : ∀ w' e a c, e = .returned (.tuple #[itemV hh a k.len c, .int .i64 (1 + N), .int .i64 0]) → ItemsP (fun b => w.heap.size ≤ b ∧ b < w'.heap.size) w' a c k → ItemAns (d + 1) (1 :: r) w w' e := fun w' e a c he hi => by
              unfold ItemAns; rw [hrd]; exact ⟨a, c, by rw [he, show ((n : Nat) : Int) = 1 + N from by omega], hi⟩
            have hwr : wrap64 (1 + N) = 1 + N := by unfold wrap64; omega
            have hF := blk_put4 (blk_other4 hB0 (b' := w.heap.size + 1) (by omega) (.int .i64 hh.k) (.int .i64 hh.n) (.string hh.s) (.slice aa k.len cc)) (.int .i64 hh.k) (.int .i64 hh.n) (.string hh.s) (.slice aa k.len cc)
            have f0 := hF.cell 0
            have f1 := hF.cell 1
            have f2 := hF.cell 2
            have f3 := hF.cell 3
            simp only [List.getElem?_cons_zero, List.getElem?_cons_succ] at f0 f1 f2 f3
            have hI2 := hI.move (fun b hp _ => (⟨⟨by have := hp.1; simp at this; omega, by rw [put4_size, put4_size]; exact hp.2⟩, (put4_other (by have := hp.1; simp at this; omega) _ _ _ _).trans (put4_other (by have := hp.1; simp at this; omega) _ _ _ _)⟩ : (w.heap.size ≤ b ∧ b < ((((((((wb.setCell ⟨w.heap.size + 1, 0, none⟩ (.int .i64 hh.k)).setCell ⟨w.heap.size + 1, 1, none⟩ (.int .i64 hh.n)).setCell ⟨w.heap.size + 1, 2, none⟩ (.string hh.s)).setCell ⟨w.heap.size + 1, 3, none⟩ (.slice aa k.len cc)).setCell ⟨w.heap.size, 0, none⟩ (.int .i64 hh.k)).setCell ⟨w.heap.size, 1, none⟩ (.int .i64 hh.n)).setCell ⟨w.heap.size, 2, none⟩ (.string hh.s)).setCell ⟨w.heap.size, 3, none⟩ (.slice aa k.len cc)).heap.size) ∧ ((((((((wb.setCell ⟨w.heap.size + 1, 0, none⟩ (.int .i64 hh.k)).setCell ⟨w.heap.size + 1, 1, none⟩ (.int .i64 hh.n)).setCell ⟨w.heap.size + 1, 2, none⟩ (.string hh.s)).setCell ⟨w.heap.size + 1, 3, none⟩ (.slice aa k.len cc)).setCell ⟨w.heap.size, 0, none⟩ (.int .i64 hh.k)).setCell ⟨w.heap.size, 1, none⟩ (.int .i64 hh.n)).setCell ⟨w.heap.size, 2, none⟩ (.string hh.s)).setCell ⟨w.heap.size, 3, none⟩ (.slice aa k.len cc)).heap[b]? = wb.heap[b]?))
            have HF := Lib.hid (And.intro f0 (And.intro f1 (And.intro f2 f3)))
            have HA := Lib.hid hA
            have HI2 := Lib.hid hI2
            have Hbw := Lib.hid hbwb
            clear hF f0 f1 f2 f3 hA hI2 hI hrd hEe hEo hNn hB0 hBV hbwb hbb
            go_wp2_with (fail)
            obtain ⟨f0, f1, f2, f3⟩ := HF.out
            exact bodyPost_ret (v := .tuple #[itemV hh aa k.len cc, .int .i64 (1 + N), .int .i64 0]) (by simp [results, Try.results47, go_sem, f0, f1, f2, f3]; try rfl) rfl ⟨HA.out _ _ aa cc rfl HI2.out, below_put4 (below_put4 Hbw.out (by omega) _ _ _ _) (Nat.le_refl _) _ _ _ _⟩
          · have hrd := hEe hE
            have hne : (E != 0) = true := by simpa using hE
            have hA : ∀ w' e, e = .returned (.tuple #[zeroV, .int .i64 0, .int .i64 E]) → ItemAns (d + 1) (1 :: r) w w' e := fun w' e he => by unfold ItemAns; rw [hrd]; exact he
            have HA := Lib.hid hA
            have Hbw := Lib.hid hbwb
            have hF := blk_put4 (blk_other4 hB0 (b' := w.heap.size + 1) (by omega) (.int .i64 hh.k) (.int .i64 hh.n) (.string hh.s) (.slice aa ll cc)) (.int .i64 0) (.int .i64 0) (.string ⟨#[]⟩) (.slice none 0 0)
            have f0 := hF.cell 0
            have f1 := hF.cell 1
            have f2 := hF.cell 2
            have f3 := hF.cell 3
            simp only [List.getElem?_cons_zero, List.getElem?_cons_succ] at f0 f1 f2 f3
            have HF := Lib.hid (And.intro f0 (And.intro f1 (And.intro f2 f3)))
            clear hEe hEo hE hrd hA hF f0 f1 f2 f3 hB0 hBV hbwb hbb
            go_wp2_with (fail)
            obtain ⟨f0, f1, f2, f3⟩ := HF.out
            exact bodyPost_ret (v := .tuple #[zeroV, .int .i64 0, .int .i64 E]) (by simp [results, Try.results47, go_sem, f0, f1, f2, f3]; try rfl) rfl ⟨HA.out _ _ rfl, below_put4 (below_put4 Hbw.out (by omega) _ _ _ _) (Nat.le_refl _) _ _ _ _⟩
        · have hmid := mid_num (d := d) (hbx2 hc1) HRh.out
          clear ih hb hq hbx1 hbx2
          go_wp2_with (fail)
          refine hmid.mono ?_
          rintro e wb ⟨hh, aa, ll, cc, N, E, rfl, hN0, hN1, hEe, hEo, hbb⟩
          clear hmid
          have hB0 := hBa.below hbb hBa.lt
          have hBV := hBb.below hbb hBb.lt
          have hbwb : Below w.heap.size w wb := hbl.trans (hbb.mono hbl.size)
          have z0 := hB0.cell 0
          have z1 := hB0.cell 1
          have z2 := hB0.cell 2
          have z3 := hB0.cell 3
          have y0 := hB0.frozen 0
          have y1 := hB0.frozen 1
          have y2 := hB0.frozen 2
          have y3 := hB0.frozen 3
          have v0 := hBV.cell 0
          have v1 := hBV.cell 1
          have v2 := hBV.cell 2
          have v3 := hBV.cell 3
          have u0 := hBV.frozen 0
          have u1 := hBV.frozen 1
          have u2 := hBV.frozen 2
          have u3 := hBV.frozen 3
          simp only [List.getElem?_cons_zero, List.getElem?_cons_succ] at z0 z1 z2 z3 v0 v1 v2 v3
          by_cases hE : E = 0
          · obtain ⟨k, n, hrd, hNn, rfl, hI⟩ := hEo hE
            subst hE
            have hA : ∀ w' e a c, e = .returned (.tuple #[itemV hh a k.len c, .int .i64 (1 + N), .int .i64 0]) → ItemsP (fun b => w.heap.size ≤ b ∧ b < w'.heap.size) w' a c k → ItemAns (d + 1) (1 :: r) w w' e := fun w' e a c he hi => by
              unfold ItemAns; rw [hrd]; exact ⟨a, c, by rw [he, show ((n : Nat) : Int) = 1 + N from by omega], hi⟩
            have hwr : wrap64 (1 + N) = 1 + N := by unfold wrap64; omega
            have hF := blk_put4 (blk_other4 hB0 (b' := w.heap.size + 1) (by omega) (.int .i64 hh.k) (.int .i64 hh.n) (.string hh.s) (.slice aa k.len cc)) (.int .i64 hh.k) (.int .i64 hh.n) (.string hh.s) (.slice aa k.len cc)
            have f0 := hF.cell 0
            have f1 := hF.cell 1
            have f2 := hF.cell 2
            have f3 := hF.cell 3
            simp only [List.getElem?_cons_zero, List.getElem?_cons_succ] at f0 f1 f2 f3
            have hI2 := hI.move (fun b hp _ => (⟨⟨by have := hp.1; simp at this; omega, by rw [put4_size, put4_size]; exact hp.2⟩, (put4_other (by have := hp.1; simp at this; omega) _ _ _ _).trans (put4_other (by have := hp.1; simp at this; omega) _ _ _ _)⟩ : (w.heap.size ≤ b ∧ b < ((((((((wb.setCell ⟨w.heap.size + 1, 0, none⟩ (.int .i64 hh.k)).setCell ⟨w.heap.size + 1, 1, none⟩ (.int .i64 hh.n)).setCell ⟨w.heap.size + 1, 2, none⟩ (.string hh.s)).setCell ⟨w.heap.size + 1, 3, none⟩ (.slice aa k.len cc)).setCell ⟨w.heap.size, 0, none⟩ (.int .i64 hh.k)).setCell ⟨w.heap.size, 1, none⟩ (.int .i64 hh.n)).setCell ⟨w.heap.size, 2, none⟩ (.string hh.s)).setCell ⟨w.heap.size, 3, none⟩ (.slice aa k.len cc)).heap.size) ∧ ((((((((wb.setCell ⟨w.heap.size + 1, 0, none⟩ (.int .i64 hh.k)).setCell ⟨w.heap.size + 1, 1, none⟩ (.int .i64 hh.n)).setCell ⟨w.heap.size + 1, 2, none⟩ (.string hh.s)).setCell ⟨w.heap.size + 1, 3, none⟩ (.slice aa k.len cc)).setCell ⟨w.heap.size, 0, none⟩ (.int .i64 hh.k)).setCell ⟨w.heap.size, 1, none⟩ (.int .i64 hh.n)).setCell ⟨w.heap.size, 2, none⟩ (.string hh.s)).setCell ⟨w.heap.size, 3, none⟩ (.slice aa k.len cc)).heap[b]? = wb.heap[b]?))
            have HF := Lib.hid (And.intro f0 (And.intro f1 (And.intro f2 f3)))
            have HA := Lib.hid hA
            have HI2 := Lib.hid hI2
            have Hbw := Lib.hid hbwb
            clear hF f0 f1 f2 f3 hA hI2 hI hrd hEe hEo hNn hB0 hBV hbwb hbb
            go_wp2_with (fail)
            obtain ⟨f0, f1, f2, f3⟩ := HF.out
            exact bodyPost_ret (v := .tuple #[itemV hh aa k.len cc, .int .i64 (1 + N), .int .i64 0]) (by simp [results, Try.results47, go_sem, f0, f1, f2, f3]; try rfl) rfl ⟨HA.out _ _ aa cc rfl HI2.out, below_put4 (below_put4 Hbw.out (by omega) _ _ _ _) (Nat.le_refl _) _ _ _ _⟩
          · have hrd := hEe hE
            have hne : (E != 0) = true := by simpa using hE
            have hA : ∀ w' e, e = .returned (.tuple #[zeroV, .int .i64 0, .int .i64 E]) → ItemAns (d + 1) (1 :: r) w w' e := fun w' e he => by unfold ItemAns; rw [hrd]; exact he
            have HA := Lib.hid hA
            have Hbw := Lib.hid hbwb
            have hF := blk_put4 (blk_other4 hB0 (b' := w.heap.size + 1) (by omega) (.int .i64 hh.k) (.int .i64 hh.n) (.string hh.s) (.slice aa ll cc)) (.int .i64 0) (.int .i64 0) (.string ⟨#[]⟩) (.slice none 0 0)
            have f0 := hF.cell 0
            have f1 := hF.cell 1
            have f2 := hF.cell 2
            have f3 := hF.cell 3
            simp only [List.getElem?_cons_zero, List.getElem?_cons_succ] at f0 f1 f2 f3
            have HF := Lib.hid (And.intro f0 (And.intro f1 (And.intro f2 f3)))
            clear hEe hEo hE hrd hA hF f0 f1 f2 f3 hB0 hBV hbwb hbb
            go_wp2_with (fail)
            obtain ⟨f0, f1, f2, f3⟩ := HF.out
            exact bodyPost_ret (v := .tuple #[zeroV, .int .i64 0, .int .i64 E]) (by simp [results, Try.results47, go_sem, f0, f1, f2, f3]; try rfl) rfl ⟨HA.out _ _ rfl, below_put4 (below_put4 Hbw.out (by omega) _ _ _ _) (Nat.le_refl _) _ _ _ _⟩

      by_cases hk2 : c = 2
      · skip
        subst hk2
        have q0 : ((w.alloc (.cells #[.int .i64 0, .int .i64 0, .string ⟨#[]⟩, .slice none 0 0] 24)).alloc (.cells #[.int .i64 0, .int .i64 0, .string ⟨#[]⟩, .slice none 0 0] 24)).cell? ⟨bb, off, none⟩ = some (.int .u8 2) := (hbl.cell (p := ⟨bb, off, none⟩) hblt).trans hq
        by_cases hc1 : cap = 1
        · subst hc1
          obtain rfl : R = 0 := by omega
          have hmid := mid_text (d := d) (hbx1 rfl) HRh.out (by omega)
          clear ih hb hq hbx1 hbx2
          go_wp2_with (fail)
          refine hmid.mono ?_
          rintro e wb ⟨hh, aa, ll, cc, N, E, rfl, hN0, hN1, hEe, hEo, hbb⟩
          clear hmid
          have hB0 := hBa.below hbb hBa.lt
          have hBV := hBb.below hbb hBb.lt
          have hbwb : Below w.heap.size w wb := hbl.trans (hbb.mono hbl.size)
          have z0 := hB0.cell 0
          have z1 := hB0.cell 1
          have z2 := hB0.cell 2
          have z3 := hB0.cell 3
          have y0 := hB0.frozen 0
          have y1 := hB0.frozen 1
          have y2 := hB0.frozen 2
          have y3 := hB0.frozen 3
          have v0 := hBV.cell 0
          have v1 := hBV.cell 1
          have v2 := hBV.cell 2
          have v3 := hBV.cell 3
          have u0 := hBV.frozen 0
          have u1 := hBV.frozen 1
          have u2 := hBV.frozen 2
          have u3 := hBV.frozen 3
          simp only [List.getElem?_cons_zero, List.getElem?_cons_succ] at z0 z1 z2 z3 v0 v1 v2 v3
          by_cases hE : E = 0
          · obtain ⟨k, n, hrd, hNn, rfl, hI⟩ := hEo hE
            subst hE
            have hA : ∀ w' e a c, e = .returned (.tuple #[itemV hh a k.len c, .int .i64 (1 + N), .int .i64 0]) → ItemsP (fun b => w.heap.size ≤ b ∧ b < w'.heap.size) w' a c k → ItemAns (d + 1) (2 :: r) w w' e := fun w' e a c he hi => by
              unfold ItemAns; rw [hrd]; exact ⟨a, c, by rw [he, show ((n : Nat) : Int) = 1 + N from by omega], hi⟩
            have hwr : wrap64 (1 + N) = 1 + N := by unfold wrap64; omega
            have hF := blk_put4 (blk_other4 hB0 (b' := w.heap.size + 1) (by omega) (.int .i64 hh.k) (.int .i64 hh.n) (.string hh.s) (.slice aa k.len cc)) (.int .i64 hh.k) (.int .i64 hh.n) (.string hh.s) (.slice aa k.len cc)
            have f0 := hF.cell 0
            have f1 := hF.cell 1
            have f2 := hF.cell 2
            have f3 := hF.cell 3
            simp only [List.getElem?_cons_zero, List.getElem?_cons_succ] at f0 f1 f2 f3
            have hI2 := hI.move (fun b hp _ => (⟨⟨by have := hp.1; simp at this; omega, by rw [put4_size, put4_size]; exact hp.2⟩, (put4_other (by have := hp.1; simp at this; omega) _ _ _ _).trans (put4_other (by have := hp.1; simp at this; omega) _ _ _ _)⟩ : (w.heap.size ≤ b ∧ b < ((((((((wb.setCell ⟨w.heap.size + 1, 0, none⟩ (.int .i64 hh.k)).setCell ⟨w.heap.size + 1, 1, none⟩ (.int .i64 hh.n)).setCell ⟨w.heap.size + 1, 2, none⟩ (.string hh.s)).setCell ⟨w.heap.size + 1, 3, none⟩ (.slice aa k.len cc)).setCell ⟨w.heap.size, 0, none⟩ (.int .i64 hh.k)).setCell ⟨w.heap.size, 1, none⟩ (.int .i64 hh.n)).setCell ⟨w.heap.size, 2, none⟩ (.string hh.s)).setCell ⟨w.heap.size, 3, none⟩ (.slice aa k.len cc)).heap.size) ∧ ((((((((wb.setCell ⟨w.heap.size + 1, 0, none⟩ (.int .i64 hh.k)).setCell ⟨w.heap.size + 1, 1, none⟩ (.int .i64 hh.n)).setCell ⟨w.heap.size + 1, 2, none⟩ (.string hh.s)).setCell ⟨w.heap.size + 1, 3, none⟩ (.slice aa k.len cc)).setCell ⟨w.heap.size, 0, none⟩ (.int .i64 hh.k)).setCell ⟨w.heap.size, 1, none⟩ (.int .i64 hh.n)).setCell ⟨w.heap.size, 2, none⟩ (.string hh.s)).setCell ⟨w.heap.size, 3, none⟩ (.slice aa k.len cc)).heap[b]? = wb.heap[b]?))
            have HF := Lib.hid (And.intro f0 (And.intro f1 (And.intro f2 f3)))
            have HA := Lib.hid hA
            have HI2 := Lib.hid hI2
            have Hbw := Lib.hid hbwb
            clear hF f0 f1 f2 f3 hA hI2 hI hrd hEe hEo hNn hB0 hBV hbwb hbb
            go_wp2_with (fail)
            obtain ⟨f0, f1, f2, f3⟩ := HF.out
            exact bodyPost_ret (v := .tuple #[itemV hh aa k.len cc, .int .i64 (1 + N), .int .i64 0]) (by simp [results, Try.results47, go_sem, f0, f1, f2, f3]; try rfl) rfl ⟨HA.out _ _ aa cc rfl HI2.out, below_put4 (below_put4 Hbw.out (by omega) _ _ _ _) (Nat.le_refl _) _ _ _ _⟩
          · have hrd := hEe hE
            have hne : (E != 0) = true := by simpa using hE
            have hA : ∀ w' e, e = .returned (.tuple #[zeroV, .int .i64 0, .int .i64 E]) → ItemAns (d + 1) (2 :: r) w w' e := fun w' e he => by unfold ItemAns; rw [hrd]; exact he
            have HA := Lib.hid hA
            have Hbw := Lib.hid hbwb
            have hF := blk_put4 (blk_other4 hB0 (b' := w.heap.size + 1) (by omega) (.int .i64 hh.k) (.int .i64 hh.n) (.string hh.s) (.slice aa ll cc)) (.int .i64 0) (.int .i64 0) (.string ⟨#[]⟩) (.slice none 0 0)
            have f0 := hF.cell 0
            have f1 := hF.cell 1
            have f2 := hF.cell 2
            have f3 := hF.cell 3
            simp only [List.getElem?_cons_zero, List.getElem?_cons_succ] at f0 f1 f2 f3
            have HF := Lib.hid (And.intro f0 (And.intro f1 (And.intro f2 f3)))
            clear hEe hEo hE hrd hA hF f0 f1 f2 f3 hB0 hBV hbwb hbb
            go_wp2_with (fail)
            obtain ⟨f0, f1, f2, f3⟩ := HF.out
            exact bodyPost_ret (v := .tuple #[zeroV, .int .i64 0, .int .i64 E]) (by simp [results, Try.results47, go_sem, f0, f1, f2, f3]; try rfl) rfl ⟨HA.out _ _ rfl, below_put4 (below_put4 Hbw.out (by omega) _ _ _ _) (Nat.le_refl _) _ _ _ _⟩
        · have hmid := mid_text (d := d) (hbx2 hc1) HRh.out (by omega)
          clear ih hb hq hbx1 hbx2
          go_wp2_with (fail)
          refine hmid.mono ?_
          rintro e wb ⟨hh, aa, ll, cc, N, E, rfl, hN0, hN1, hEe, hEo, hbb⟩
          clear hmid
          have hB0 := hBa.below hbb hBa.lt
          have hBV := hBb.below hbb hBb.lt
          have hbwb : Below w.heap.size w wb := hbl.trans (hbb.mono hbl.size)
          have z0 := hB0.cell 0
          have z1 := hB0.cell 1
          have z2 := hB0.cell 2
          have z3 := hB0.cell 3
          have y0 := hB0.frozen 0
          have y1 := hB0.frozen 1
          have y2 := hB0.frozen 2
          have y3 := hB0.frozen 3
          have v0 := hBV.cell 0
          have v1 := hBV.cell 1
          have v2 := hBV.cell 2
          have v3 := hBV.cell 3
          have u0 := hBV.frozen 0
          have u1 := hBV.frozen 1
          have u2 := hBV.frozen 2
          have u3 := hBV.frozen 3
          simp only [List.getElem?_cons_zero, List.getElem?_cons_succ] at z0 z1 z2 z3 v0 v1 v2 v3
          by_cases hE : E = 0
          · obtain ⟨k, n, hrd, hNn, rfl, hI⟩ := hEo hE
            subst hE
            have hA : ∀ w' e a c, e = .returned (.tuple #[itemV hh a k.len c, .int .i64 (1 + N), .int .i64 0]) → ItemsP (fun b => w.heap.size ≤ b ∧ b < w'.heap.size) w' a c k → ItemAns (d + 1) (2 :: r) w w' e := fun w' e a c he hi => by
              unfold ItemAns; rw [hrd]; exact ⟨a, c, by rw [he, show ((n : Nat) : Int) = 1 + N from by omega], hi⟩
            have hwr : wrap64 (1 + N) = 1 + N := by unfold wrap64; omega
            have hF := blk_put4 (blk_other4 hB0 (b' := w.heap.size + 1) (by omega) (.int .i64 hh.k) (.int .i64 hh.n) (.string hh.s) (.slice aa k.len cc)) (.int .i64 hh.k) (.int .i64 hh.n) (.string hh.s) (.slice aa k.len cc)
            have f0 := hF.cell 0
            have f1 := hF.cell 1
            have f2 := hF.cell 2
            have f3 := hF.cell 3
            simp only [List.getElem?_cons_zero, List.getElem?_cons_succ] at f0 f1 f2 f3
            have hI2 := hI.move (fun b hp _ => (⟨⟨by have := hp.1; simp at this; omega, by rw [put4_size, put4_size]; exact hp.2⟩, (put4_other (by have := hp.1; simp at this; omega) _ _ _ _).trans (put4_other (by have := hp.1; simp at this; omega) _ _ _ _)⟩ : (w.heap.size ≤ b ∧ b < ((((((((wb.setCell ⟨w.heap.size + 1, 0, none⟩ (.int .i64 hh.k)).setCell ⟨w.heap.size + 1, 1, none⟩ (.int .i64 hh.n)).setCell ⟨w.heap.size + 1, 2, none⟩ (.string hh.s)).setCell ⟨w.heap.size + 1, 3, none⟩ (.slice aa k.len cc)).setCell ⟨w.heap.size, 0, none⟩ (.int .i64 hh.k)).setCell ⟨w.heap.size, 1, none⟩ (.int .i64 hh.n)).setCell ⟨w.heap.size, 2, none⟩ (.string hh.s)).setCell ⟨w.heap.size, 3, none⟩ (.slice aa k.len cc)).heap.size) ∧ ((((((((wb.setCell ⟨w.heap.size + 1, 0, none⟩ (.int .i64 hh.k)).setCell ⟨w.heap.size + 1, 1, none⟩ (.int .i64 hh.n)).setCell ⟨w.heap.size + 1, 2, none⟩ (.string hh.s)).setCell ⟨w.heap.size + 1, 3, none⟩ (.slice aa k.len cc)).setCell ⟨w.heap.size, 0, none⟩ (.int .i64 hh.k)).setCell ⟨w.heap.size, 1, none⟩ (.int .i64 hh.n)).setCell ⟨w.heap.size, 2, none⟩ (.string hh.s)).setCell ⟨w.heap.size, 3, none⟩ (.slice aa k.len cc)).heap[b]? = wb.heap[b]?))
            have HF := Lib.hid (And.intro f0 (And.intro f1 (And.intro f2 f3)))
            have HA := Lib.hid hA
            have HI2 := Lib.hid hI2
            have Hbw := Lib.hid hbwb
            clear hF f0 f1 f2 f3 hA hI2 hI hrd hEe hEo hNn hB0 hBV hbwb hbb
            go_wp2_with (fail)
            obtain ⟨f0, f1, f2, f3⟩ := HF.out
            exact bodyPost_ret (v := .tuple #[itemV hh aa k.len cc, .int .i64 (1 + N), .int .i64 0]) (by simp [results, Try.results47, go_sem, f0, f1, f2, f3]; try rfl) rfl ⟨HA.out _ _ aa cc rfl HI2.out, below_put4 (below_put4 Hbw.out (by omega) _ _ _ _) (Nat.le_refl _) _ _ _ _⟩
          · have hrd := hEe hE
            have hne : (E != 0) = true := by simpa using hE
            have hA : ∀ w' e, e = .returned (.tuple #[zeroV, .int .i64 0, .int .i64 E]) → ItemAns (d + 1) (2 :: r) w w' e := fun w' e he => by unfold ItemAns; rw [hrd]; exact he
            have HA := Lib.hid hA
            have Hbw := Lib.hid hbwb
            have hF := blk_put4 (blk_other4 hB0 (b' := w.heap.size + 1) (by omega) (.int .i64 hh.k) (.int .i64 hh.n) (.string hh.s) (.slice aa ll cc)) (.int .i64 0) (.int .i64 0) (.string ⟨#[]⟩) (.slice none 0 0)
            have f0 := hF.cell 0
            have f1 := hF.cell 1
            have f2 := hF.cell 2
            have f3 := hF.cell 3
            simp only [List.getElem?_cons_zero, List.getElem?_cons_succ] at f0 f1 f2 f3
            have HF := Lib.hid (And.intro f0 (And.intro f1 (And.intro f2 f3)))
            clear hEe hEo hE hrd hA hF f0 f1 f2 f3 hB0 hBV hbwb hbb
            go_wp2_with (fail)
            obtain ⟨f0, f1, f2, f3⟩ := HF.out
            exact bodyPost_ret (v := .tuple #[zeroV, .int .i64 0, .int .i64 E]) (by simp [results, Try.results47, go_sem, f0, f1, f2, f3]; try rfl) rfl ⟨HA.out _ _ rfl, below_put4 (below_put4 Hbw.out (by omega) _ _ _ _) (Nat.le_refl _) _ _ _ _⟩

      by_cases hk3 : c = 3
      · skip
        subst hk3
        have q0 : ((w.alloc (.cells #[.int .i64 0, .int .i64 0, .string ⟨#[]⟩, .slice none 0 0] 24)).alloc (.cells #[.int .i64 0, .int .i64 0, .string ⟨#[]⟩, .slice none 0 0] 24)).cell? ⟨bb, off, none⟩ = some (.int .u8 3) := (hbl.cell (p := ⟨bb, off, none⟩) hblt).trans hq
        by_cases hc1 : cap = 1
        · subst hc1
          obtain rfl : R = 0 := by omega
          have hmid := mid_list (d := d) ⟨har0, har1⟩ (fun a L cap xs w h1 h2 => by rw [show ar + 1 = 40 - (d : Int) from by have := HAr'.out; omega]; exact ih (by omega) a L cap xs w h1 h2) (hbx1 rfl) HRh.out (by omega)
          clear ih hb hq hbx1 hbx2
          go_wp2_with (fail)
          refine hmid.mono ?_
          rintro e wb ⟨hh, aa, ll, cc, N, E, rfl, hN0, hN1, hEe, hEo, hbb⟩
          clear hmid
          have hB0 := hBa.below hbb hBa.lt
          have hBV := hBb.below hbb hBb.lt
          have hbwb : Below w.heap.size w wb := hbl.trans (hbb.mono hbl.size)
          have z0 := hB0.cell 0
          have z1 := hB0.cell 1
          have z2 := hB0.cell 2
          have z3 := hB0.cell 3
          have y0 := hB0.frozen 0
          have y1 := hB0.frozen 1
          have y2 := hB0.frozen 2
          have y3 := hB0.frozen 3
          have v0 := hBV.cell 0
          have v1 := hBV.cell 1
          have v2 := hBV.cell 2
          have v3 := hBV.cell 3
          have u0 := hBV.frozen 0
          have u1 := hBV.frozen 1
          have u2 := hBV.frozen 2
          have u3 := hBV.frozen 3
          simp only [List.getElem?_cons_zero, List.getElem?_cons_succ] at z0 z1 z2 z3 v0 v1 v2 v3
          by_cases hE : E = 0
          · obtain ⟨k, n, hrd, hNn, rfl, hI⟩ := hEo hE
            subst hE
            have hA : ∀ w' e a c, e = .returned (.tuple #[itemV hh a k.len c, .int .i64 (1 + N), .int .i64 0]) → ItemsP (fun b => w.heap.size ≤ b ∧ b < w'.heap.size) w' a c k → ItemAns (d + 1) (3 :: r) w w' e := fun w' e a c he hi => by
              unfold ItemAns; rw [hrd]; exact ⟨a, c, by rw [he, show ((n : Nat) : Int) = 1 + N from by omega], hi⟩
            have hwr : wrap64 (1 + N) = 1 + N := by unfold wrap64; omega
            have hF := blk_put4 (blk_other4 hB0 (b' := w.heap.size + 1) (by omega) (.int .i64 hh.k) (.int .i64 hh.n) (.string hh.s) (.slice aa k.len cc)) (.int .i64 hh.k) (.int .i64 hh.n) (.string hh.s) (.slice aa k.len cc)
            have f0 := hF.cell 0
            have f1 := hF.cell 1
            have f2 := hF.cell 2
            have f3 := hF.cell 3
            simp only [List.getElem?_cons_zero, List.getElem?_cons_succ] at f0 f1 f2 f3
            have hI2 := hI.move (fun b hp _ => (⟨⟨by have := hp.1; simp at this; omega, by rw [put4_size, put4_size]; exact hp.2⟩, (put4_other (by have := hp.1; simp at this; omega) _ _ _ _).trans (put4_other (by have := hp.1; simp at this; omega) _ _ _ _)⟩ : (w.heap.size ≤ b ∧ b < ((((((((wb.setCell ⟨w.heap.size + 1, 0, none⟩ (.int .i64 hh.k)).setCell ⟨w.heap.size + 1, 1, none⟩ (.int .i64 hh.n)).setCell ⟨w.heap.size + 1, 2, none⟩ (.string hh.s)).setCell ⟨w.heap.size + 1, 3, none⟩ (.slice aa k.len cc)).setCell ⟨w.heap.size, 0, none⟩ (.int .i64 hh.k)).setCell ⟨w.heap.size, 1, none⟩ (.int .i64 hh.n)).setCell ⟨w.heap.size, 2, none⟩ (.string hh.s)).setCell ⟨w.heap.size, 3, none⟩ (.slice aa k.len cc)).heap.size) ∧ ((((((((wb.setCell ⟨w.heap.size + 1, 0, none⟩ (.int .i64 hh.k)).setCell ⟨w.heap.size + 1, 1, none⟩ (.int .i64 hh.n)).setCell ⟨w.heap.size + 1, 2, none⟩ (.string hh.s)).setCell ⟨w.heap.size + 1, 3, none⟩ (.slice aa k.len cc)).setCell ⟨w.heap.size, 0, none⟩ (.int .i64 hh.k)).setCell ⟨w.heap.size, 1, none⟩ (.int .i64 hh.n)).setCell ⟨w.heap.size, 2, none⟩ (.string hh.s)).setCell ⟨w.heap.size, 3, none⟩ (.slice aa k.len cc)).heap[b]? = wb.heap[b]?))
            have HF := Lib.hid (And.intro f0 (And.intro f1 (And.intro f2 f3)))
            have HA := Lib.hid hA
            have HI2 := Lib.hid hI2
            have Hbw := Lib.hid hbwb
            clear hF f0 f1 f2 f3 hA hI2 hI hrd hEe hEo hNn hB0 hBV hbwb hbb
            go_wp2_with (fail)
            obtain ⟨f0, f1, f2, f3⟩ := HF.out
            exact bodyPost_ret (v := .tuple #[itemV hh aa k.len cc, .int .i64 (1 + N), .int .i64 0]) (by simp [results, Try.results47, go_sem, f0, f1, f2, f3]; try rfl) rfl ⟨HA.out _ _ aa cc rfl HI2.out, below_put4 (below_put4 Hbw.out (by omega) _ _ _ _) (Nat.le_refl _) _ _ _ _⟩
          · have hrd := hEe hE
            have hne : (E != 0) = true := by simpa using hE
            have hA : ∀ w' e, e = .returned (.tuple #[zeroV, .int .i64 0, .int .i64 E]) → ItemAns (d + 1) (3 :: r) w w' e := fun w' e he => by unfold ItemAns; rw [hrd]; exact he
            have HA := Lib.hid hA
            have Hbw := Lib.hid hbwb
            have hF := blk_put4 (blk_other4 hB0 (b' := w.heap.size + 1) (by omega) (.int .i64 hh.k) (.int .i64 hh.n) (.string hh.s) (.slice aa ll cc)) (.int .i64 0) (.int .i64 0) (.string ⟨#[]⟩) (.slice none 0 0)
            have f0 := hF.cell 0
            have f1 := hF.cell 1
            have f2 := hF.cell 2
            have f3 := hF.cell 3
            simp only [List.getElem?_cons_zero, List.getElem?_cons_succ] at f0 f1 f2 f3
            have HF := Lib.hid (And.intro f0 (And.intro f1 (And.intro f2 f3)))
            clear hEe hEo hE hrd hA hF f0 f1 f2 f3 hB0 hBV hbwb hbb
            go_wp2_with (fail)
            obtain ⟨f0, f1, f2, f3⟩ := HF.out
            exact bodyPost_ret (v := .tuple #[zeroV, .int .i64 0, .int .i64 E]) (by simp [results, Try.results47, go_sem, f0, f1, f2, f3]; try rfl) rfl ⟨HA.out _ _ rfl, below_put4 (below_put4 Hbw.out (by omega) _ _ _ _) (Nat.le_refl _) _ _ _ _⟩
        · have hmid := mid_list (d := d) ⟨har0, har1⟩ (fun a L cap xs w h1 h2 => by rw [show ar + 1 = 40 - (d : Int) from by have := HAr'.out; omega]; exact ih (by omega) a L cap xs w h1 h2) (hbx2 hc1) HRh.out (by omega)
          clear ih hb hq hbx1 hbx2
          go_wp2_with (fail)
          refine hmid.mono ?_
          rintro e wb ⟨hh, aa, ll, cc, N, E, rfl, hN0, hN1, hEe, hEo, hbb⟩
          clear hmid
          have hB0 := hBa.below hbb hBa.lt
          have hBV := hBb.below hbb hBb.lt
          have hbwb : Below w.heap.size w wb := hbl.trans (hbb.mono hbl.size)
          have z0 := hB0.cell 0
          have z1 := hB0.cell 1
          have z2 := hB0.cell 2
          have z3 := hB0.cell 3
          have y0 := hB0.frozen 0
          have y1 := hB0.frozen 1
          have y2 := hB0.frozen 2
          have y3 := hB0.frozen 3
          have v0 := hBV.cell 0
          have v1 := hBV.cell 1
          have v2 := hBV.cell 2
          have v3 := hBV.cell 3
          have u0 := hBV.frozen 0
          have u1 := hBV.frozen 1
          have u2 := hBV.frozen 2
          have u3 := hBV.frozen 3
          simp only [List.getElem?_cons_zero, List.getElem?_cons_succ] at z0 z1 z2 z3 v0 v1 v2 v3
          by_cases hE : E = 0
          · obtain ⟨k, n, hrd, hNn, rfl, hI⟩ := hEo hE
            subst hE
            have hA : ∀ w' e a c, e = .returned (.tuple #[itemV hh a k.len c, .int .i64 (1 + N), .int .i64 0]) → ItemsP (fun b => w.heap.size ≤ b ∧ b < w'.heap.size) w' a c k → ItemAns (d + 1) (3 :: r) w w' e := fun w' e a c he hi => by
              unfold ItemAns; rw [hrd]; exact ⟨a, c, by rw [he, show ((n : Nat) : Int) = 1 + N from by omega], hi⟩
            have hwr : wrap64 (1 + N) = 1 + N := by unfold wrap64; omega
            have hF := blk_put4 (blk_other4 hB0 (b' := w.heap.size + 1) (by omega) (.int .i64 hh.k) (.int .i64 hh.n) (.string hh.s) (.slice aa k.len cc)) (.int .i64 hh.k) (.int .i64 hh.n) (.string hh.s) (.slice aa k.len cc)
            have f0 := hF.cell 0
            have f1 := hF.cell 1
            have f2 := hF.cell 2
            have f3 := hF.cell 3
            simp only [List.getElem?_cons_zero, List.getElem?_cons_succ] at f0 f1 f2 f3
            have hI2 := hI.move (fun b hp _ => (⟨⟨by have := hp.1; simp at this; omega, by rw [put4_size, put4_size]; exact hp.2⟩, (put4_other (by have := hp.1; simp at this; omega) _ _ _ _).trans (put4_other (by have := hp.1; simp at this; omega) _ _ _ _)⟩ : (w.heap.size ≤ b ∧ b < ((((((((wb.setCell ⟨w.heap.size + 1, 0, none⟩ (.int .i64 hh.k)).setCell ⟨w.heap.size + 1, 1, none⟩ (.int .i64 hh.n)).setCell ⟨w.heap.size + 1, 2, none⟩ (.string hh.s)).setCell ⟨w.heap.size + 1, 3, none⟩ (.slice aa k.len cc)).setCell ⟨w.heap.size, 0, none⟩ (.int .i64 hh.k)).setCell ⟨w.heap.size, 1, none⟩ (.int .i64 hh.n)).setCell ⟨w.heap.size, 2, none⟩ (.string hh.s)).setCell ⟨w.heap.size, 3, none⟩ (.slice aa k.len cc)).heap.size) ∧ ((((((((wb.setCell ⟨w.heap.size + 1, 0, none⟩ (.int .i64 hh.k)).setCell ⟨w.heap.size + 1, 1, none⟩ (.int .i64 hh.n)).setCell ⟨w.heap.size + 1, 2, none⟩ (.string hh.s)).setCell ⟨w.heap.size + 1, 3, none⟩ (.slice aa k.len cc)).setCell ⟨w.heap.size, 0, none⟩ (.int .i64 hh.k)).setCell ⟨w.heap.size, 1, none⟩ (.int .i64 hh.n)).setCell ⟨w.heap.size, 2, none⟩ (.string hh.s)).setCell ⟨w.heap.size, 3, none⟩ (.slice aa k.len cc)).heap[b]? = wb.heap[b]?))
            have HF := Lib.hid (And.intro f0 (And.intro f1 (And.intro f2 f3)))
            have HA := Lib.hid hA
            have HI2 := Lib.hid hI2
            have Hbw := Lib.hid hbwb
            clear hF f0 f1 f2 f3 hA hI2 hI hrd hEe hEo hNn hB0 hBV hbwb hbb
            go_wp2_with (fail)
            obtain ⟨f0, f1, f2, f3⟩ := HF.out
            exact bodyPost_ret (v := .tuple #[itemV hh aa k.len cc, .int .i64 (1 + N), .int .i64 0]) (by simp [results, Try.results47, go_sem, f0, f1, f2, f3]; try rfl) rfl ⟨HA.out _ _ aa cc rfl HI2.out, below_put4 (below_put4 Hbw.out (by omega) _ _ _ _) (Nat.le_refl _) _ _ _ _⟩
          · have hrd := hEe hE
            have hne : (E != 0) = true := by simpa using hE
            have hA : ∀ w' e, e = .returned (.tuple #[zeroV, .int .i64 0, .int .i64 E]) → ItemAns (d + 1) (3 :: r) w w' e := fun w' e he => by unfold ItemAns; rw [hrd]; exact he
            have HA := Lib.hid hA
            have Hbw := Lib.hid hbwb
            have hF := blk_put4 (blk_other4 hB0 (b' := w.heap.size + 1) (by omega) (.int .i64 hh.k) (.int .i64 hh.n) (.string hh.s) (.slice aa ll cc)) (.int .i64 0) (.int .i64 0) (.string ⟨#[]⟩) (.slice none 0 0)
            have f0 := hF.cell 0
            have f1 := hF.cell 1
            have f2 := hF.cell 2
            have f3 := hF.cell 3
            simp only [List.getElem?_cons_zero, List.getElem?_cons_succ] at f0 f1 f2 f3
            have HF := Lib.hid (And.intro f0 (And.intro f1 (And.intro f2 f3)))
            clear hEe hEo hE hrd hA hF f0 f1 f2 f3 hB0 hBV hbwb hbb
            go_wp2_with (fail)
            obtain ⟨f0, f1, f2, f3⟩ := HF.out
            exact bodyPost_ret (v := .tuple #[zeroV, .int .i64 0, .int .i64 E]) (by simp [results, Try.results47, go_sem, f0, f1, f2, f3]; try rfl) rfl ⟨HA.out _ _ rfl, below_put4 (below_put4 Hbw.out (by omega) _ _ _ _) (Nat.le_refl _) _ _ _ _⟩

      have n1 : ((c.toNat : Int) == 1) = false := by simp; intro e; exact hk1 (UInt8.toNat_inj.1 (by show c.toNat = 1; omega))
      have n2 : ((c.toNat : Int) == 2) = false := by simp; intro e; exact hk2 (UInt8.toNat_inj.1 (by show c.toNat = 2; omega))
      have n3 : ((c.toNat : Int) == 3) = false := by simp; intro e; exact hk3 (UInt8.toNat_inj.1 (by show c.toNat = 3; omega))
      have hrd : rdItem (d + 1) (c :: r) = .inl 11 := by unfold rdItem; rw [if_neg hk1, if_neg hk2, if_neg hk3]
      have q0 : ((w.alloc (.cells #[.int .i64 0, .int .i64 0, .string ⟨#[]⟩, .slice none 0 0] 24)).alloc (.cells #[.int .i64 0, .int .i64 0, .string ⟨#[]⟩, .slice none 0 0] 24)).cell? ⟨bb, off, none⟩ = some (bv c) := (hbl.cell (p := ⟨bb, off, none⟩) hblt).trans hq
      have HRd := Lib.hid hrd
      clear hrd hk1 hk2 hk3 hbx1 hbx2 ih hb hq
      go_wp2_with (fail)
      exact bodyPost_ret (v := .tuple #[zeroV, .int .i64 0, .int .i64 11]) (by simp [results, Try.results47, go_sem]; try rfl) rfl ⟨by unfold ItemAns; rw [HRd.out], ((Below.refl _ w).alloc (Nat.le_refl _) _).alloc (by simp) _⟩

set_option maxRecDepth 100000 in
set_option maxHeartbeats 1000000 in
theorem wread_any (a : Option Addr) (L cap : Nat) (xs : List UInt8) (w : World) (hb : Bytes w a cap xs) (hL : L = xs.length) :
    Calls Try.prog 29 #[.slice a L cap] w fun e w' => ItemAns 40 xs w w' e ∧ Below w.heap.size w w' := by
  have hbl : Below w.heap.size w (w.alloc (.cells #[.int .i64 0, .int .i64 0, .string ⟨#[]⟩, .slice none 0 0] 24)) := (Below.refl _ w).alloc (Nat.le_refl _) _
  have hBa := Blk.new w 24 #[.int .i64 0, .int .i64 0, .string ⟨#[]⟩, .slice none 0 0]
  have hc := readItem_any 40 (by omega) a L cap xs _ (hb.grown hbl) hL
  rw [show (40 : Int) - ((40 : Nat) : Int) = 0 from by omega] at hc
  clear hb hL
  go_enter Try.func29, Try.ntmps29
  go_wp2_with (fail)
  refine hc.mono ?_
  rintro e wb ⟨hans, hbb⟩
  clear hc
  have hB0 := hBa.below hbb hBa.lt
  have hbwb : Below w.heap.size w wb := hbl.trans (hbb.mono hbl.size)
  have z0 := hB0.cell 0
  have z1 := hB0.cell 1
  have z2 := hB0.cell 2
  have z3 := hB0.cell 3
  have y0 := hB0.frozen 0
  have y1 := hB0.frozen 1
  have y2 := hB0.frozen 2
  have y3 := hB0.frozen 3
  simp only [List.getElem?_cons_zero, List.getElem?_cons_succ] at z0 z1 z2 z3
  unfold ItemAns at hans
  cases hrd : rdItem 40 xs with
  | inl E =>
    rw [hrd] at hans
    simp only at hans
    subst hans
    have hA : ∀ w' e, e = .returned (.tuple #[zeroV, .int .i64 0, .int .i64 E]) → ItemAns 40 xs w w' e := fun w' e he => by unfold ItemAns; rw [hrd]; exact he
    have hF := blk_put4 hB0 (.int .i64 0) (.int .i64 0) (.string ⟨#[]⟩) (.slice none 0 0)
    have f0 := hF.cell 0
    have f1 := hF.cell 1
    have f2 := hF.cell 2
    have f3 := hF.cell 3
    simp only [List.getElem?_cons_zero, List.getElem?_cons_succ] at f0 f1 f2 f3
    have HF := Lib.hid (And.intro f0 (And.intro f1 (And.intro f2 f3)))
    have HA := Lib.hid hA
    have Hbw := Lib.hid hbwb
    clear hF f0 f1 f2 f3 hA hrd hB0 hBa hbwb hbb
    go_wp2_with (fail)
    obtain ⟨f0, f1, f2, f3⟩ := HF.out
    exact bodyPost_ret (v := .tuple #[zeroV, .int .i64 0, .int .i64 E]) (by simp [results, Try.results29, go_sem, f0, f1, f2, f3]; try rfl) rfl ⟨HA.out _ _ rfl, below_put4 Hbw.out (Nat.le_refl _) _ _ _ _⟩
  | inr q =>
    obtain ⟨hh, k, n⟩ := q
    rw [hrd] at hans
    simp only at hans
    obtain ⟨aa, cc, rfl, hI⟩ := hans
    have hA : ∀ w' e a c, e = .returned (.tuple #[itemV hh a k.len c, .int .i64 (n : Int), .int .i64 0]) → ItemsP (fun b => w.heap.size ≤ b ∧ b < w'.heap.size) w' a c k → ItemAns 40 xs w w' e := fun w' e a c he hi => by
      unfold ItemAns; rw [hrd]; exact ⟨a, c, he, hi⟩
    have hF := blk_put4 hB0 (.int .i64 hh.k) (.int .i64 hh.n) (.string hh.s) (.slice aa k.len cc)
    have f0 := hF.cell 0
    have f1 := hF.cell 1
    have f2 := hF.cell 2
    have f3 := hF.cell 3
    simp only [List.getElem?_cons_zero, List.getElem?_cons_succ] at f0 f1 f2 f3
    have hI2 := hI.move (fun b hp _ => (⟨⟨by have := hp.1; simp at this; omega, by rw [put4_size]; exact hp.2⟩, put4_other (by have := hp.1; simp at this; omega) _ _ _ _⟩ : (w.heap.size ≤ b ∧ b < ((((wb.setCell ⟨w.heap.size, 0, none⟩ (.int .i64 hh.k)).setCell ⟨w.heap.size, 1, none⟩ (.int .i64 hh.n)).setCell ⟨w.heap.size, 2, none⟩ (.string hh.s)).setCell ⟨w.heap.size, 3, none⟩ (.slice aa k.len cc)).heap.size) ∧ ((((wb.setCell ⟨w.heap.size, 0, none⟩ (.int .i64 hh.k)).setCell ⟨w.heap.size, 1, none⟩ (.int .i64 hh.n)).setCell ⟨w.heap.size, 2, none⟩ (.string hh.s)).setCell ⟨w.heap.size, 3, none⟩ (.slice aa k.len cc)).heap[b]? = wb.heap[b]?))
    have HF := Lib.hid (And.intro f0 (And.intro f1 (And.intro f2 f3)))
    have HA := Lib.hid hA
    have HI2 := Lib.hid hI2
    have Hbw := Lib.hid hbwb
    clear hF f0 f1 f2 f3 hA hI2 hI hrd hB0 hBa hbwb hbb
    go_wp2_with (fail)
    obtain ⟨f0, f1, f2, f3⟩ := HF.out
    exact bodyPost_ret (v := .tuple #[itemV hh aa k.len cc, .int .i64 (n : Int), .int .i64 0]) (by simp [results, Try.results29, go_sem, f0, f1, f2, f3]; try rfl) rfl ⟨HA.out _ _ aa cc rfl HI2.out, below_put4 Hbw.out (Nat.le_refl _) _ _ _ _⟩
end Go.Proofs.Ytahibjiiaocjkaa
