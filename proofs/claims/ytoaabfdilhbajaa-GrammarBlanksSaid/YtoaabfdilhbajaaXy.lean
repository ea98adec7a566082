/- Layer 7: the law GrammarLines. -/
import Derived.Test.YtoaabfdilhbajaaXv
import Derived.Test.YtoaabfdilhbajaaXw
namespace Go.Proofs.Ytoaabfdilhbajaa
open Go.RowKit Go.Shelf

attribute [local go_sem] Oper.semAt_some

/-- Each newline stands behind a blank and a semicolon. -/
def okL (l : List UInt8) : Prop := ∀ i : Nat, l[i]? = some 10 → ∃ k, i = k + 2 ∧ l[k]? = some 32 ∧ l[k + 1]? = some 59
theorem okL_app {a b : List UInt8} (ha : okL a) (hb : okL b) : okL (a ++ b) := by
  intro i hi
  by_cases h : i < a.length
  · rw [List.getElem?_append_left h] at hi
    obtain ⟨k, h1, h2, h3⟩ := ha i hi
    exact ⟨k, h1, by rw [List.getElem?_append_left (by omega)]; exact h2, by rw [List.getElem?_append_left (by omega)]; exact h3⟩
  · rw [List.getElem?_append_right (by omega)] at hi
    obtain ⟨k, h1, h2, h3⟩ := hb _ hi
    refine ⟨k + a.length, by omega, ?_, ?_⟩
    · rw [List.getElem?_append_right (by omega), Nat.add_sub_cancel]; exact h2
    · rw [List.getElem?_append_right (by omega), show k + a.length + 1 - a.length = k + 1 by omega]; exact h3
theorem okL_none {a : List UInt8} (h : ∀ c ∈ a, c ≠ 10) : okL a := fun i hi => absurd rfl (h 10 (List.mem_of_getElem? hi))
theorem okL_end : okL [32, 59, 10] := by
  intro i hi
  match i, hi with
  | 0, hi => exact absurd hi (by decide)
  | 1, hi => exact absurd hi (by decide)
  | 2, _ => exact ⟨0, rfl, rfl, rfl⟩
  | n + 3, hi => simp at hi
theorem name_no {s : ByteArray} (h : nameB s = true) : ∀ c ∈ s.data.toList, c ≠ 10 := by
  unfold nameB at h
  intro c hc e
  subst e
  cases hl : s.data.toList with
  | nil => rw [hl] at hc; cases hc
  | cons d r =>
    rw [hl] at h hc
    rw [nameL, Bool.and_eq_true] at h
    have := List.all_eq_true.1 h.2 10 hc
    exact absurd this (by decide)
theorem nmT_no : ∀ (l : List ByteArray), (∀ s ∈ l, nameB s = true) → ∀ c ∈ nmT l, c ≠ 10
  | [], _, c, hc => by simp [nmT] at hc
  | x :: l, h, c, hc => by
    unfold nmT at hc
    rw [List.flatMap_cons, List.mem_append] at hc
    rcases hc with hc | hc
    · rcases List.mem_cons.1 hc with rfl | hc
      · decide
      · exact name_no (h x List.mem_cons_self) c hc
    · exact nmT_no l (fun s hs => h s (List.mem_cons_of_mem _ hs)) c hc
theorem alT_no : ∀ (bf : List UInt8) (l : List (List ByteArray)), (∀ c ∈ bf, c ≠ 10) → (∀ x ∈ l, ∀ s ∈ x, nameB s = true) → ∀ c ∈ alT bf l, c ≠ 10
  | _, [], _, _, c, hc => by simp [alT] at hc
  | bf, x :: l, hb, h, c, hc => by
    rw [alT, List.mem_append, List.mem_append] at hc
    rcases hc with hc | hc | hc
    · exact hb c hc
    · exact nmT_no x (h x List.mem_cons_self) c hc
    · exact alT_no [32, 124] l (by decide) (fun y hy => h y (List.mem_cons_of_mem _ hy)) c hc
def okR (r : Rl) : Prop := nameB r.1 = true ∧ ∀ x ∈ r.2, ∀ s ∈ x, nameB s = true
theorem rlT_split (r : Rl) (h : okR r) : ∃ b, rlT r = b ++ [32, 59, 10] ∧ ∀ c ∈ b, c ≠ 10 := by
  refine ⟨r.1.data.toList ++ alT [32, 61] r.2, by unfold rlT; rw [List.append_assoc], fun c hc => ?_⟩
  rcases List.mem_append.1 hc with hc | hc
  · exact name_no h.1 c hc
  · exact alT_no [32, 61] r.2 (by decide) h.2 c hc
theorem cnt_none {a : List UInt8} (h : ∀ c ∈ a, c ≠ 10) : a.count 10 = 0 := List.count_eq_zero.2 (fun hm => h 10 hm rfl)
theorem grT_lines : ∀ (g : List Rl), (∀ r ∈ g, okR r) → okL (grT g) ∧ (grT g).count 10 = g.length ∧ (g ≠ [] → ∃ x, grT g = x ++ [10])
  | [], _ => ⟨okL_none (by simp [grT]), by simp [grT], fun h => absurd rfl h⟩
  | r :: g, h => by
    obtain ⟨h1, h2, h3⟩ := grT_lines g (fun s hs => h s (List.mem_cons_of_mem _ hs))
    obtain ⟨b, hb, hn⟩ := rlT_split r (h r List.mem_cons_self)
    have e : grT (r :: g) = rlT r ++ grT g := by unfold grT; rw [List.flatMap_cons]
    refine ⟨?_, ?_, fun _ => ?_⟩
    · rw [e, hb]
      exact okL_app (okL_app (okL_none hn) okL_end) h1
    · rw [e, hb, List.count_append, List.count_append, cnt_none hn, h2]
      simp only [List.length_cons]
      have : List.count (10 : UInt8) [32, 59, 10] = 1 := by decide
      rw [this]; omega
    · by_cases hg : g = []
      · subst hg
        refine ⟨b ++ [32, 59], ?_⟩
        rw [e, hb]
        simp [grT]
      · obtain ⟨x, hx⟩ := h3 hg
        exact ⟨rlT r ++ x, by rw [e, hx, List.append_assoc]⟩
theorem tx_lines {rs : List RlD} (h : chkG rs = 0) : okL (txG rs).data.toList ∧ (txG rs).data.toList.count 10 = rs.length ∧ ∃ x, (txG rs).data.toList = x ++ [10] := by
  obtain ⟨h1, _, h2⟩ := chk_parts h
  have e : (txG rs).data.toList = grT (grP rs) := by unfold txG; rw [if_pos h]
  obtain ⟨k1, k2, k3⟩ := grT_lines (grP rs) (fun r hr => ⟨(h2 r hr).1, fun x hx => ((h2 r hr).2.2.2 x hx).1⟩)
  have hl : (grP rs).length = rs.length := List.length_map ..
  rw [e]
  exact ⟨k1, by rw [k2, hl], k3 (fun e => by rw [e] at hl; simp at hl; omega)⟩
theorem tx_size {rs : List RlD} : (txG rs).size ≤ 1787700 := by
  unfold txG
  split
  · rename_i h
    have := grT_small h
    show (grT (grP rs)).toArray.size ≤ _
    simpa using this
  · decide

set_option maxRecDepth 100000 in
set_option maxHeartbeats 4000000 in
theorem lines_any (rs : List RlD) (a : Option Addr) (cap : Nat) (w : World) (hl : Rls w a cap rs) :
    Calls Try.prog 7 #[.agg #[.slice a rs.length cap]] w fun r w' => r = .returned (.bool true) ∧ Below w.heap.size w w' := by
  have hlm : rs.length ≤ cap ∧ cap ≤ 9223372036854775807 := ⟨hl.le, hl.max⟩
  have hA0 := Blk.new w 24 #[.slice a rs.length cap]
  have hb0 : Below w.heap.size w (w.alloc (.cells #[.slice a rs.length cap] 24)) := (Below.refl _ w).alloc (Nat.le_refl _) _
  have HB : Hid (∀ V, Below w.heap.size w V → _) := Lib.hid (fun V h => big_any rs a cap V (hl.grown h))
  have HT : Hid (∀ V, Below w.heap.size w V → _) := Lib.hid (fun V h => gtext_any rs a cap V (hl.grown h))
  have HX := Lib.hid (fun h => tx_lines (rs := rs) h)
  have hX0 : Hid (¬ chkG rs = 0 → txG rs = ⟨#[]⟩) := Lib.hid (fun h => by unfold txG; rw [if_neg h])
  have hXs := tx_size (rs := rs)
  obtain ⟨X, hX⟩ : ∃ X, Hid (txG rs = X) := ⟨_, Lib.hid rfl⟩
  obtain ⟨C, hC⟩ : ∃ C, Hid (chkG rs = C) := ⟨_, Lib.hid rfl⟩
  obtain ⟨L, HL⟩ : ∃ L, Hid (rs.length = L) := ⟨_, Lib.hid rfl⟩
  rw [HL.out] at hlm hA0 hb0 HB HT HX ⊢
  rw [hX.out] at HT HX hX0 hXs
  rw [hC.out] at HT HX hX0
  have x0 := hA0.cell 0
  have xl := hA0.lt
  simp only [List.getElem?_cons_zero] at x0
  clear hA0
  go_enter Try.func7, Try.ntmps7
  go_wp2_with (fail)
  refine (live7_any _).mono ?_
  rintro e w1 ⟨rfl, hb1⟩
  have x1 := cell_up hb1 x0
  have xl1 := World.block_lt_of_cell? _ _ x1
  have hb2 := hb0.trans (hb1.mono hb0.size)
  go_wp2_with (fail)
  refine (HB.out _ hb2).mono ?_
  rintro e w2 ⟨⟨q, rfl⟩, hb3⟩
  have x2 := cell_up hb3 x1
  have xl2 := World.block_lt_of_cell? _ _ x2
  have hb4 := hb2.trans (hb3.mono hb2.size)
  cases q
  case true =>
    go_wp2_with (fail)
    exact bodyPost_ret (v := .bool true) (by simp [results, Try.results7, go_sem]; try first | rfl | assumption | omega) rfl ⟨rfl, hb4⟩
  case false =>
  go_wp2_with (fail)
  refine (HT.out _ hb4).mono ?_
  rintro e w3 ⟨rfl, hb5⟩
  have x3 := cell_up hb5 x2
  have xl3 := World.block_lt_of_cell? _ _ x3
  have hb6 := hb4.trans (hb5.mono hb4.size)
  by_cases h0 : C = 0
  case neg =>
    have hXe := hX0.out h0
    subst hXe
    go_wp2_with (fail)
    exact bodyPost_ret (v := .bool true) (by simp [results, Try.results7, go_sem]; try first | rfl | assumption | omega) rfl ⟨rfl, hb6⟩
  case pos =>
  subst h0
  obtain ⟨k1, k2, k3⟩ := HX.out rfl
  have K1 := Lib.hid k1
  have K2 := Lib.hid k2
  have K3 := Lib.hid k3
  clear k1 k2 k3 HX hX0
  go_wp2_with (fail)
  go_loopw [6, 7] (fun nv iv wr => ∃ (i : Nat), i ≤ X.size ∧ iv = .int .i64 (i : Int) ∧ nv = .int .i64 (((X.data.toList.take i).count 10 : Nat) : Int) ∧ wr = w3) (fun _ iv _ => X.size - (intOf iv).toNat)
  case atStart => exact ⟨0, Nat.zero_le _, rfl, rfl, rfl⟩
  case round =>
    obtain ⟨i, hi, rfl, rfl, hwr⟩ := hrel
    subst hwr
    have hcl : (X.data.toList.take i).count 10 ≤ i := by
      have h1 := List.count_le_length (a := (10 : UInt8)) (l := X.data.toList.take i)
      have h2 := List.length_take_le i X.data.toList
      omega
    obtain ⟨cn, hcn⟩ : ∃ n, Hid ((X.data.toList.take i).count 10 = n) := ⟨_, Lib.hid rfl⟩
    rw [hcn.out] at hcl ⊢
    by_cases hit : i < X.size
    · have hiI : (i : Int) < (X.size : Int) := by omega
      have hiI0 : (0 : Int) ≤ (i : Int) := by omega
      have hil : i < X.data.toList.length := hit
      have htk : Hid (X.data.toList.take (i + 1) = X.data.toList.take i ++ [X.data.toList[i]]) := Lib.hid (by rw [List.take_add_one, List.getElem?_eq_getElem hil]; rfl)
      have hgi : X.data.toList[i]? = some X.data.toList[i] := List.getElem?_eq_getElem hil
      obtain ⟨d, hd⟩ : ∃ d, Hid (X[i] = d) := ⟨_, Lib.hid rfl⟩
      have hd2 : X.data.toList[i] = d := hd.out
      rw [hd2] at hgi htk
      have HD := hd.out
      by_cases h10 : d = 10
      · subst h10
        obtain ⟨k, hk, g1, g2⟩ := K1.out i hgi
        subst hk
        have hcn2 : Hid ((X.data.toList.take (k + 2 + 1)).count 10 = cn + 1) := Lib.hid (by rw [htk.out, List.count_append, hcn.out]; rfl)
        clear htk hgi hd2
        have hkI : (k : Int) + 2 < (X.size : Int) := by omega
        have e0 : ((k + 2 : Nat) : Int) = (k : Int) + 2 := by omega
        have e9 : ¬ (k : Int) + 2 < 2 := by omega
        have hk1 : k + 1 < X.size := by omega
        have hk0 : k < X.size := by omega
        have G1 : X[k] = 32 := by
          have : X.data.toList[k]? = some (X[k]) := List.getElem?_eq_getElem (by exact hk0)
          rw [this] at g1; exact Option.some.inj g1
        have G2 : X[k + 1] = 59 := by
          have : X.data.toList[k + 1]? = some (X[k + 1]) := List.getElem?_eq_getElem (by exact hk1)
          rw [this] at g2; exact Option.some.inj g2
        clear g1 g2
        go_wp2_with (fail)
        exact ⟨⟨k + 2 + 1, by omega, by simp, by rw [hcn2.out]; simp, by first | rfl | trivial⟩, by simp [intOf]; omega⟩
      · have hcn2 : Hid ((X.data.toList.take (i + 1)).count 10 = cn) := Lib.hid (by
          rw [htk.out, List.count_append, hcn.out]
          have : List.count (10 : UInt8) [d] = 0 := List.count_eq_zero.2 (fun hm => h10 (List.mem_singleton.1 hm).symm)
          omega)
        have hdn : ¬ d.toNat = 10 := fun e => h10 (UInt8.toNat_inj.1 e)
        have hdI : ¬ (d.toNat : Int) = 10 := by omega
        clear htk hgi hd2
        go_wp2_with (fail)
        exact ⟨⟨i + 1, by omega, by simp, by rw [hcn2.out], by first | rfl | trivial⟩, by simp [intOf]; omega⟩
    · obtain rfl : i = X.size := by omega
      have hiI : ¬ (X.size : Int) < (X.size : Int) := by omega
      have hcL : cn = L := by rw [← hcn.out, ← K2.out, List.take_of_length_le (by exact Nat.le_refl _)]
      subst hcL
      obtain ⟨x, hx⟩ := K3.out
      have hsz : X.size = x.length + 1 := by
        have : X.data.toList.length = X.size := rfl
        rw [← this, hx]; simp
      have hg : X[x.length]'(by omega) = 10 := by
        have h1 : X.data.toList[x.length]? = some (X[x.length]'(by omega)) := List.getElem?_eq_getElem (by rw [hx]; simp)
        rw [hx] at h1
        simp at h1
        exact h1.symm
      go_wp2_with (fail)
      exact bodyPost_ret (v := .bool true) (by simp [results, Try.results7, go_sem]; try first | rfl | assumption | omega) rfl ⟨rfl, hb6⟩
end Go.Proofs.Ytoaabfdilhbajaa
