/- Layer 7: the reference's Text. -/
import Derived.Test.YtoaabfdilhbajaaYf
import Derived.Test.YtoaabfdilhbajaaXq
namespace Go.Proofs.Ytoaabfdilhbajaa
open Go.RowKit Go.Shelf

attribute [local go_sem] Oper.semAt_some

theorem cat_list (s t : ByteArray) : (s ++ t).data.toList = s.data.toList ++ t.data.toList := by simp
/-- What is still to come of a rule's alternatives, from the j-th on. -/
def altR (j : Nat) (l : List (List ByteArray)) : List UInt8 := alT (if j = 0 then [] else [32, 124]) (l.drop j)
theorem altR_0 {l : List (List ByteArray)} (h : l ≠ []) : alT [32, 61] l = [32, 61] ++ altR 0 l := by
  cases l with
  | nil => exact absurd rfl h
  | cons x r => rfl
theorem altR_step {j : Nat} {l : List (List ByteArray)} (h : j < l.length) : altR j l = (if j = 0 then [] else [32, 124]) ++ (nmT l[j] ++ altR (j + 1) l) := by
  unfold altR
  rw [List.drop_eq_getElem_cons h, alT, if_neg (Nat.succ_ne_zero j)]
theorem altR_end {j : Nat} {l : List (List ByteArray)} (h : l.length ≤ j) : altR j l = [] := by
  unfold altR
  rw [List.drop_eq_nil_of_le h]; rfl

set_option maxRecDepth 100000 in
set_option maxHeartbeats 4000000 in
theorem refGText_any (rs : List RlD) (a : Option Addr) (cap : Nat) (w : World) (hl : Rls w a cap rs) :
    Calls Try.prog 11 #[.agg #[.slice a rs.length cap]] w fun r w' => r = .returned (.tuple #[.string (txG rs), .int .i64 (chkG rs)]) ∧ Below w.heap.size w w' := by
  have hlm : rs.length ≤ cap ∧ cap ≤ 9223372036854775807 := ⟨hl.le, hl.max⟩
  have hA0 := Blk.new w 24 #[.slice a rs.length cap]
  have hb0 : Below w.heap.size w (w.alloc (.cells #[.slice a rs.length cap] 24)) := (Below.refl _ w).alloc (Nat.le_refl _) _
  have Hc := Lib.hid (refGCheck_any rs a cap _ (hl.grown hb0))
  obtain ⟨X, hX⟩ : ∃ X, Hid (txG rs = X) := ⟨_, Lib.hid rfl⟩
  rw [hX.out]
  have HG0 := Lib.hid (fun h => grT_small (rs := rs) h)
  have HP0 := Lib.hid (fun h => chk_parts (rs := rs) h)
  have HX0 : Hid (chkG rs = 0 → (grT (grP rs)) = X.data.toList) := Lib.hid (fun h => by rw [← hX.out]; unfold txG; rw [if_pos h])
  have HX1 : Hid (¬ chkG rs = 0 → X = ⟨#[]⟩) := Lib.hid (fun h => by rw [← hX.out]; unfold txG; rw [if_neg h])
  obtain ⟨C, hC⟩ : ∃ C, Hid (chkG rs = C) := ⟨_, Lib.hid rfl⟩
  rw [hC.out] at Hc HG0 HX0 HX1 HP0 ⊢
  obtain ⟨L, HL⟩ : ∃ L, Hid (rs.length = L) := ⟨_, Lib.hid rfl⟩
  rw [HL.out] at hlm hA0 hb0 Hc ⊢
  have x0 := hA0.cell 0
  have xl := hA0.lt
  simp only [List.getElem?_cons_zero] at x0
  by_cases h0 : C = 0
  case neg =>
    have HX2 := Lib.hid (HX1.out h0)
    rw [HX2.out]
    have hCb : (C != 0) = true := by rw [bne_iff_ne]; exact h0
    go_enter Try.func11, Try.ntmps11
    go_wp2_with (fail)
    refine Hc.out.mono ?_
    rintro r w1 ⟨rfl, hb1⟩
    go_wp2_with (fail)
    exact bodyPost_ret (v := .tuple #[.string ⟨#[]⟩, .int .i64 C]) (by simp [results, Try.results11, go_sem]; try first | rfl | assumption | omega) rfl ⟨rfl, hb0.trans (hb1.mono hb0.size)⟩
  case pos =>
  subst h0
  have HG := Lib.hid (HG0.out rfl)
  have HX := Lib.hid (HX0.out rfl)
  have HP := Lib.hid (HP0.out rfl).2.2
  clear HG0 HX0 HX1 HP0
  obtain ⟨G, hG⟩ : ∃ G, Hid (grT (grP rs) = G) := ⟨_, Lib.hid rfl⟩
  rw [hG.out] at HG HX
  go_enter Try.func11, Try.ntmps11
  go_wp2_with (fail)
  refine Hc.out.mono ?_
  rintro r w1 ⟨rfl, hb1⟩
  have hbW := hb0.trans (hb1.mono hb0.size)
  have x1 := cell_up hb1 x0
  have xl1 : w.heap.size < w1.heap.size := Nat.lt_of_lt_of_le xl hb1.size
  clear Hc hA0
  go_wp2_with (fail)
  clear x0 x1 hb0 hb1 xl xl1
  go_loopw [5, 20] (fun sv iv wr => ∃ (k : Nat) (c : ByteArray), k ≤ L ∧ iv = .int .i64 (k : Int) ∧ sv = .string c ∧ Hid (c.data.toList ++ grT ((grP rs).drop k) = G) ∧ Below w.heap.size w wr) (fun _ iv _ => L - (intOf iv).toNat)
  case atStart => exact ⟨0, ⟨#[]⟩, Nat.zero_le _, rfl, rfl, Lib.hid (by rw [List.drop_zero]; exact hG.out), hbW⟩
  case round =>
    obtain ⟨k, c, hk, rfl, rfl, HE, hbw⟩ := hrel
    by_cases hlt : k < L
    · have hkI : (k : Int) < (L : Int) := by omega
      have hkI0 : (0 : Int) ≤ (k : Int) := by omega
      have hkl : k < rs.length := by rw [HL.out]; exact hlt
      obtain ⟨b, off, rfl⟩ := hl.at_ k hkl
      obtain ⟨c0, c1⟩ := (hl.grown hbw).cell b off rfl k hkl
      have hkg : k < (grP rs).length := by unfold grP; rw [List.length_map]; exact hkl
      have hgk : (grP rs)[k] = (rs[k]).p := List.getElem_map ..
      have hdr : Hid (grT ((grP rs).drop k) = rlT (rs[k]).p ++ grT ((grP rs).drop (k + 1))) := Lib.hid (by
        rw [List.drop_eq_getElem_cons hkg, hgk]
        rfl)
      have hne0 : Hid ((rs[k]).ds.map AltD.l ≠ []) := Lib.hid (fun e => by
        have h1 := (HP.out _ (List.getElem_mem hkg)).2.1
        rw [hgk] at h1
        rw [show ((rs[k]).p).2 = (rs[k]).ds.map AltD.l from rfl, e] at h1
        exact absurd h1 (by decide))
      clear hgk
      have hm : rs[k] ∈ rs := List.getElem_mem hkl
      obtain ⟨e, he⟩ : ∃ v, Hid (rs[k] = v) := ⟨_, Lib.hid rfl⟩
      rw [he.out] at c0 c1 hm hdr hne0
      have hbl := World.block_lt_of_cell? wr _ c0
      have hal := Lib.hid (hl.alts e hm)
      have hem : e.ds.length ≤ e.c ∧ e.c ≤ 9223372036854775807 := ⟨by have := hal.out.row.le; rw [List.length_map] at this; exact this, hal.out.row.max⟩
      obtain ⟨T, hT⟩ : ∃ T, Hid ([32, 59, 10] ++ grT ((grP rs).drop (k + 1)) = T) := ⟨_, Lib.hid rfl⟩
      have HE1 : Hid ((c ++ (e.n ++ (⟨#[32, 61]⟩ : ByteArray))).data.toList ++ (altR 0 (e.ds.map AltD.l) ++ T) = G) := Lib.hid (by
        rw [← HE.out, hdr.out, ← hT.out, cat_list, cat_list]
        simp only [rlT, RlD.p, List.append_assoc]
        rw [altR_0 hne0.out]
        simp only [List.append_assoc])
      have hcs : c.size + e.n.size + 2 ≤ 1787700 := by
        have h1 := congrArg List.length HE1.out
        have h2 := HG.out
        rw [cat_list, cat_list] at h1
        simp only [List.length_append] at h1
        rw [bs_size c, bs_size e.n]
        have h3 : (⟨#[32, 61]⟩ : ByteArray).data.toList.length = 2 := rfl
        rw [h3] at h1
        omega
      obtain ⟨M, HM⟩ : ∃ M, Hid (e.ds.length = M) := ⟨_, Lib.hid rfl⟩
      rw [HM.out] at c1 hem
      have hB0 := Blk.new wr 40 #[.string e.n, .slice e.a M e.c]
      have hb4 : Below wr.heap.size wr (wr.alloc (.cells #[.string e.n, .slice e.a M e.c] 40)) := (Below.refl _ wr).alloc (Nat.le_refl _) _
      have y0 := hB0.cell 0
      have y1 := hB0.cell 1
      have yl := hB0.lt
      simp only [List.getElem?_cons_zero, List.getElem?_cons_succ] at y0 y1
      clear hB0 hm
      have hbV := Lib.hid (hbw.trans (hb4.mono hbw.size))
      have hcs1 : c.size ≤ 1787700 := by omega
      have hcs2 : e.n.size ≤ 1787700 := by omega
      have hcs3 : (e.n ++ (⟨#[32, 61]⟩ : ByteArray)).size = e.n.size + 2 := by simp; rfl
      have HCS := Lib.hid hcs3
      clear hcs3 hkg
      go_wp2_with (fail)
      generalize hV : World.alloc wr _ = V at y0 y1 yl hb4 hbV ⊢
      clear hV
      go_loopw [5, 32] (fun sv iv wr => ∃ (j : Nat) (c : ByteArray), j ≤ M ∧ iv = .int .i64 (j : Int) ∧ sv = .string c ∧ Hid (c.data.toList ++ (altR j (e.ds.map AltD.l) ++ T) = G) ∧ wr = V) (fun _ iv _ => M - (intOf iv).toNat)
      case atStart => exact ⟨0, _, Nat.zero_le _, rfl, rfl, HE1, rfl⟩
      case round =>
        obtain ⟨j, c2, hj, rfl, rfl, HE4, hwx⟩ := hrel
        have HWX := Lib.hid hwx
        clear hwx
        have hbX : Below w.heap.size w wr := by rw [HWX.out]; exact hbV.out
        by_cases hjt : j < M
        · have hjI : (j : Int) < (M : Int) := by omega
          have hjI0 : (0 : Int) ≤ (j : Int) := by omega
          have hjl : j < e.ds.length := by rw [HM.out]; exact hjt
          obtain ⟨eb, eo, hea⟩ := hal.out.row.at_ j (by rw [List.length_map]; exact hjl)
          have c2' := (hal.out.grown hbX).row.cell eb eo hea j (by rw [List.length_map]; exact hjl)
          rw [List.getElem_map] at c2'
          have hd2 : Hid (altR j (e.ds.map AltD.l) = (if j = 0 then [] else [32, 124]) ++ (nmT (e.ds[j]).l ++ altR (j + 1) (e.ds.map AltD.l))) := Lib.hid (by
            rw [altR_step (by rw [List.length_map]; exact hjl), List.getElem_map])
          have hm2 : e.ds[j] ∈ e.ds := List.getElem_mem hjl
          obtain ⟨d, hd⟩ : ∃ v, Hid (e.ds[j] = v) := ⟨_, Lib.hid rfl⟩
          rw [hd.out] at c2' hm2 hd2
          have hbl2 := World.block_lt_of_cell? _ _ c2'
          have hnm := Lib.hid (hal.out.nms d hm2)
          have hnl : d.l.length ≤ d.c ∧ d.c ≤ 9223372036854775807 := ⟨by have := hnm.out.le; rw [List.length_map] at this; exact this, hnm.out.max⟩
          obtain ⟨T2, hT2⟩ : ∃ T2, Hid (altR (j + 1) (e.ds.map AltD.l) ++ T = T2) := ⟨_, Lib.hid rfl⟩
          have HE5 : Hid (c2.data.toList ++ ((if j = 0 then [] else [32, 124]) ++ (nmT d.l ++ T2)) = G) := Lib.hid (by
            rw [← HE4.out, hd2.out, ← hT2.out]
            simp only [List.append_assoc])
          have hc2s : c2.size ≤ 1787700 := by
            have h1 := congrArg List.length HE5.out
            have h2 := HG.out
            simp only [List.length_append] at h1
            rw [bs_size c2]
            omega
          obtain ⟨N, HN⟩ : ∃ N, Hid (d.l.length = N) := ⟨_, Lib.hid rfl⟩
          have hdv : d.v = .slice d.a N d.c := by rw [← HN.out]
          rw [hdv] at c2'
          rw [HN.out] at hnl
          clear hdv hm2
          rw [hea]
          by_cases hj0 : j = 0
          · have hj0I : ¬ (0 : Int) < (j : Int) := by omega
            have HE6 : Hid (c2.data.toList ++ (nmT d.l ++ T2) = G) := Lib.hid (by rw [← HE5.out, if_pos hj0]; rfl)
            clear hj0
            clear HE5
            go_wp2_with (fail)
            go_loopw [5, 43] (fun sv iv wr => ∃ (i : Nat) (c : ByteArray), i ≤ N ∧ iv = .int .i64 (i : Int) ∧ sv = .string c ∧ Hid (c.data.toList ++ (nmT (d.l.drop i) ++ T2) = G) ∧ wr = V) (fun _ iv _ => N - (intOf iv).toNat)
            case atStart => exact ⟨0, _, Nat.zero_le _, rfl, rfl, by rw [List.drop_zero]; exact HE6, HWX.out⟩
            case round =>
              obtain ⟨i, c3, hi, rfl, rfl, HE7, hwz⟩ := hrel
              have HWZ := Lib.hid hwz
              clear hwz
              have hbZ : Below w.heap.size w wr := by rw [HWZ.out]; exact hbV.out
              by_cases hit : i < N
              · have hiI : (i : Int) < (N : Int) := by omega
                have hiI0 : (0 : Int) ≤ (i : Int) := by omega
                have hil : i < d.l.length := by rw [HN.out]; exact hit
                obtain ⟨nb, no, hna⟩ := hnm.out.at_ i (by rw [List.length_map]; exact hil)
                have c3' := (hnm.out.grown hbZ).cell nb no hna i (by rw [List.length_map]; exact hil)
                rw [List.getElem_map] at c3'
                have hd3 : Hid (nmT (d.l.drop i) = (32 :: (d.l[i]).data.toList) ++ nmT (d.l.drop (i + 1))) := Lib.hid (by
                  rw [List.drop_eq_getElem_cons hil]
                  rfl)
                obtain ⟨s, hs⟩ : ∃ v, Hid (d.l[i] = v) := ⟨_, Lib.hid rfl⟩
                rw [hs.out] at c3' hd3
                have hbl3 := World.block_lt_of_cell? _ _ c3'
                have HE8 : Hid ((c3 ++ ((⟨#[32]⟩ : ByteArray) ++ s)).data.toList ++ (nmT (d.l.drop (i + 1)) ++ T2) = G) := Lib.hid (by
                  rw [← HE7.out, hd3.out, cat_list, sp_list]
                  simp only [List.append_assoc])
                have hlen : c3.size + s.size + 1 ≤ 1787700 := by
                  have h1 := congrArg List.length HE8.out
                  have h2 := HG.out
                  rw [cat_list, sp_list] at h1
                  simp only [List.length_append, List.length_cons] at h1
                  rw [bs_size c3, bs_size s]
                  omega
                have hcs1 : c3.size ≤ 1787700 := by omega
                have hcs2 : s.size ≤ 1787700 := by omega
                rw [hna]
                go_wp2_with (fail)
                exact ⟨⟨i + 1, _, by omega, by simp, by first | rfl | trivial, HE8, HWZ.out⟩, by simp [intOf]; omega⟩
              · obtain rfl : i = N := by omega
                have hiI : ¬ (i : Int) < (i : Int) := by omega
                have HE8 : Hid (c3.data.toList ++ (altR (j + 1) (e.ds.map AltD.l) ++ T) = G) := Lib.hid (by
                  have hz : d.l.drop i = [] := List.drop_eq_nil_of_le (by rw [HN.out]; exact Nat.le_refl _)
                  rw [← HE7.out, hz, ← hT2.out]
                  rfl)
                go_wp2_with (fail)
                exact ⟨⟨j + 1, _, by omega, by simp, by first | rfl | trivial, HE8, HWZ.out⟩, by simp [intOf]; omega⟩
          · have hj0I : (0 : Int) < (j : Int) := by omega
            have HE6 : Hid ((c2 ++ (⟨#[32, 124]⟩ : ByteArray)).data.toList ++ (nmT d.l ++ T2) = G) := Lib.hid (by rw [cat_list, List.append_assoc, ← HE5.out, if_neg hj0])
            clear HE5
            go_wp2_with (fail)
            go_loopw [5, 43] (fun sv iv wr => ∃ (i : Nat) (c : ByteArray), i ≤ N ∧ iv = .int .i64 (i : Int) ∧ sv = .string c ∧ Hid (c.data.toList ++ (nmT (d.l.drop i) ++ T2) = G) ∧ wr = V) (fun _ iv _ => N - (intOf iv).toNat)
            case atStart => exact ⟨0, _, Nat.zero_le _, rfl, rfl, by rw [List.drop_zero]; exact HE6, HWX.out⟩
            case round =>
              obtain ⟨i, c3, hi, rfl, rfl, HE7, hwz⟩ := hrel
              have HWZ := Lib.hid hwz
              clear hwz
              have hbZ : Below w.heap.size w wr := by rw [HWZ.out]; exact hbV.out
              by_cases hit : i < N
              · have hiI : (i : Int) < (N : Int) := by omega
                have hiI0 : (0 : Int) ≤ (i : Int) := by omega
                have hil : i < d.l.length := by rw [HN.out]; exact hit
                obtain ⟨nb, no, hna⟩ := hnm.out.at_ i (by rw [List.length_map]; exact hil)
                have c3' := (hnm.out.grown hbZ).cell nb no hna i (by rw [List.length_map]; exact hil)
                rw [List.getElem_map] at c3'
                have hd3 : Hid (nmT (d.l.drop i) = (32 :: (d.l[i]).data.toList) ++ nmT (d.l.drop (i + 1))) := Lib.hid (by
                  rw [List.drop_eq_getElem_cons hil]
                  rfl)
                obtain ⟨s, hs⟩ : ∃ v, Hid (d.l[i] = v) := ⟨_, Lib.hid rfl⟩
                rw [hs.out] at c3' hd3
                have hbl3 := World.block_lt_of_cell? _ _ c3'
                have HE8 : Hid ((c3 ++ ((⟨#[32]⟩ : ByteArray) ++ s)).data.toList ++ (nmT (d.l.drop (i + 1)) ++ T2) = G) := Lib.hid (by
                  rw [← HE7.out, hd3.out, cat_list, sp_list]
                  simp only [List.append_assoc])
                have hlen : c3.size + s.size + 1 ≤ 1787700 := by
                  have h1 := congrArg List.length HE8.out
                  have h2 := HG.out
                  rw [cat_list, sp_list] at h1
                  simp only [List.length_append, List.length_cons] at h1
                  rw [bs_size c3, bs_size s]
                  omega
                have hcs1 : c3.size ≤ 1787700 := by omega
                have hcs2 : s.size ≤ 1787700 := by omega
                rw [hna]
                go_wp2_with (fail)
                exact ⟨⟨i + 1, _, by omega, by simp, by first | rfl | trivial, HE8, HWZ.out⟩, by simp [intOf]; omega⟩
              · obtain rfl : i = N := by omega
                have hiI : ¬ (i : Int) < (i : Int) := by omega
                have HE8 : Hid (c3.data.toList ++ (altR (j + 1) (e.ds.map AltD.l) ++ T) = G) := Lib.hid (by
                  have hz : d.l.drop i = [] := List.drop_eq_nil_of_le (by rw [HN.out]; exact Nat.le_refl _)
                  rw [← HE7.out, hz, ← hT2.out]
                  rfl)
                go_wp2_with (fail)
                exact ⟨⟨j + 1, _, by omega, by simp, by first | rfl | trivial, HE8, HWZ.out⟩, by simp [intOf]; omega⟩
        · obtain rfl : j = M := by omega
          have hjI : ¬ (j : Int) < (j : Int) := by omega
          have HE5 : Hid ((c2 ++ (⟨#[32, 59, 10]⟩ : ByteArray)).data.toList ++ grT ((grP rs).drop (k + 1)) = G) := Lib.hid (by
            have hz : altR j (e.ds.map AltD.l) = [] := altR_end (by rw [List.length_map, HM.out]; exact Nat.le_refl _)
            rw [← HE4.out, hz, ← hT.out, cat_list, List.append_assoc]
            rfl)
          have hc2s : c2.size ≤ 1787700 := by
            have h1 := congrArg List.length HE5.out
            have h2 := HG.out
            rw [cat_list] at h1
            simp only [List.length_append] at h1
            rw [bs_size c2]
            omega
          go_wp2_with (fail)
          exact ⟨⟨k + 1, _, by omega, by simp, by first | rfl | trivial, HE5, by rw [HWX.out]; exact hbV.out⟩, by simp [intOf]; omega⟩
    · obtain rfl : k = L := by omega
      have hkI : ¬ (k : Int) < (k : Int) := by omega
      have hcX : Hid (c = X) := Lib.hid (by
        have h1 : c.data.toList = X.data.toList := by
          have hz : (grP rs).drop k = [] := List.drop_eq_nil_of_le (by unfold grP; rw [List.length_map, HL.out]; exact Nat.le_refl _)
          rw [← HX.out, ← HE.out, hz]
          exact (List.append_nil _).symm
        exact ByteArray.ext (Array.ext' h1))
      rw [hcX.out]
      go_wp2_with (fail)
      exact bodyPost_ret (v := .tuple #[.string X, .int .i64 0]) (by simp [results, Try.results11, go_sem]; try first | rfl | assumption | omega) rfl ⟨rfl, hbw⟩
end Go.Proofs.Ytoaabfdilhbajaa
