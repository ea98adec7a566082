/- The reference's write of any item that may be; its Encode. -/
import Derived.Test.YtahibjiiaocjkaaRWrite
namespace Go.Proofs.Ytahibjiiaocjkaa
open Go.RowKit

theorem encL_depth (f : Fo) : ∀ d d' : Nat, encL (f.pre d) = encL (f.pre d') := by
  induction f with
  | nil => intro d d'; rfl
  | cons h kids rest ihk ihr => intro d d'; rw [encL_cons, encL_cons, ihk (d + 1) (d' + 1), ihr d d']
theorem At.enc {w : World} {b off k xcap : Nat} {kids ks : Fo} {hd : Hd} {xa : Option Addr} (h : At w b off k kids hd ks xa xcap) : encL ((kids.drop k).pre 2) = encL (Fo.pre 1 (.cons hd ks .nil)) ++ encL ((kids.drop (k + 1)).pre 2) := by
  rw [h.cut, Fo.drop_succ _ _ _ _ _ h.cut, encL_cons, encL_cons, encL_depth ks 3 2]
  simp [encL, Fo.pre]
theorem data_len (s : ByteArray) : s.data.toList.length = s.size := by rw [Array.length_toList]; rfl

set_option maxRecDepth 100000 in
set_option maxHeartbeats 1000000 in
theorem rwrite_any : ∀ (N : Nat) (h : Hd) (kids : Fo) (a : Option Addr) (cap : Nat) (w : World), kids.size < N → Items w a cap kids → plainB h kids.len = true → mayB kids = true → (encL (Fo.pre 1 (.cons h kids .nil))).length ≤ 70368744177664 →
    Calls Try.prog 42 #[itemV h a kids.len cap] w fun e w' => ∃ a' c', e = .returned (.slice a' (encL (Fo.pre 1 (.cons h kids .nil))).length c') ∧ OwnB w' w.heap.size a' (encL (Fo.pre 1 (.cons h kids .nil))).length c' (encL (Fo.pre 1 (.cons h kids .nil))) ∧ Below w.heap.size w w' := by
  intro N
  induction N with
  | zero => intro h kids a cap w hN; omega
  | succ N ih =>
    intro h kids a cap w hN hI hp hm hT
    have hT0 : encL (Fo.pre 1 (.cons h kids .nil)) = headB h kids.len ++ encL (kids.pre 2) := by rw [encL_cons]; simp [encL, Fo.pre]
    obtain ⟨hk, hn, hs⟩ := h
    rcases plain_kind hp with rfl | rfl | rfl
    · have hl := (plain_num hp rfl).2
      obtain rfl := fo_nil hl
      have e9 : encL (Fo.pre 1 (.cons ⟨1, hn, hs⟩ .nil .nil)) = byteK 1 :: hiB 8 (u64N hn) := by rw [hT0]; simp [headB, encL, Fo.pre]
      rw [e9, show (byteK 1 :: hiB 8 (u64N hn)).length = 9 from by simp [hiB_length]]
      exact rwrite_num hn hs a cap w
    · have hl := plain_text hp rfl
      obtain rfl := fo_nil hl
      have e9 : encL (Fo.pre 1 (.cons ⟨2, hn, hs⟩ .nil .nil)) = byteK 2 :: (countB hs.size ++ hs.data.toList) := by rw [hT0]; simp [headB, encL, Fo.pre]
      have el : (byteK 2 :: (countB hs.size ++ hs.data.toList)).length = 1 + (countB hs.size).length + hs.size := by simp only [List.length_cons, List.length_append, data_len]; omega
      rw [e9, el] at hT
      rw [e9, el]
      exact rwrite_text hn hs a cap w (by omega)
    · have hlm : kids.len ≤ cap ∧ cap ≤ 9223372036854775807 := ⟨hI.le, hI.max⟩
      have e9 : encL (Fo.pre 1 (.cons ⟨3, hn, hs⟩ kids .nil)) = byteK 3 :: (countB kids.len ++ encL (kids.pre 2)) := by rw [hT0]; simp [headB]
      obtain ⟨L, HL⟩ : ∃ L, Hid (kids.len = L) := ⟨_, Lib.hid rfl⟩
      obtain ⟨T, HT⟩ : ∃ L, Hid (encL (Fo.pre 1 (.cons ⟨3, hn, hs⟩ kids .nil)) = L) := ⟨_, Lib.hid rfl⟩
      rw [HT.out, HL.out] at e9
      rw [HT.out] at hT ⊢
      rw [HL.out] at hlm ⊢
      have hcl := countB_length (n := L) (by omega)
      obtain ⟨C, HC⟩ : ∃ C, Hid (countB L = C) := ⟨_, Lib.hid rfl⟩
      rw [HC.out] at hcl e9
      have hTl : T.length = 1 + C.length + (encL (kids.pre 2)).length := by rw [e9]; simp; omega
      have hCT : C.length ≤ 70368744177664 := by omega
      have HE := Lib.hid e9
      have HTl := Lib.hid hTl
      clear e9 hTl hT0 hp
      have hBx := (Blk.new w 24 #[.int .i64 3, .int .i64 hn, .string hs, .slice a L cap]).alloc (.cells #[.int .u8 3] 5)
      have ho0 : OwnB ((w.alloc (.cells #[.int .i64 3, .int .i64 hn, .string hs, .slice a L cap] 24)).alloc (.cells #[.int .u8 3] 5)) (w.heap.size + 1) (some ⟨w.heap.size + 1, 0, none⟩) 1 1 [byteK 3] := by
        have := OwnB.lit (w.alloc (.cells #[.int .i64 3, .int .i64 hn, .string hs, .slice a L cap] 24)) (w.heap.size + 1) #[.int .u8 3] [byteK 3] (by simp) (by simp) rfl
        rw [World.size_alloc] at this
        exact this
      have hb0 : Below w.heap.size w ((w.alloc (.cells #[.int .i64 3, .int .i64 hn, .string hs, .slice a L cap] 24)).alloc (.cells #[.int .u8 3] 5)) := ((Below.refl w.heap.size w).alloc (Nat.le_refl _) _).alloc (by simp) _
      have hz0 : w.heap.size + 1 ≤ ((w.alloc (.cells #[.int .i64 3, .int .i64 hn, .string hs, .slice a L cap] 24)).alloc (.cells #[.int .u8 3] 5)).heap.size := by simp
      go_enter Try.func42, Try.ntmps42
      go_wp2_with (fail)
      generalize ((w.alloc (.cells #[.int .i64 3, .int .i64 hn, .string hs, .slice a L cap] 24)).alloc (.cells #[.int .u8 3] 5)) = w0 at hBx ho0 hb0 hz0 ⊢
      have hrec := rcount_any 9 L w0 (by omega) (by omega) (by omega)
      rw [show cntF 9 L = countB L from rfl, HC.out] at hrec
      refine hrec.mono ?_
      rintro e w4 ⟨a4, c4, rfl, ho4, hb4⟩
      have ho5 := ho0.below hb4
      have hz4 := Nat.le_trans hz0 hb4.size
      obtain ⟨a6, c6, w6, hrun6, ho6, hg6⟩ := run_append_bytes w4 31 ho5 a4 C.length c4 C ho4.bytes rfl (by omega) hz4
      have hBx6 := (hBx.below (w' := w4) hb4 hBx.lt).kept hg6 (fun e => by have := (ho5.lt w.heap.size e.symm).1; omega)
      have z3 := hBx6.cell 3
      simp only [List.getElem?_cons_zero, List.getElem?_cons_succ] at z3
      have hbF : Below w.heap.size w w6 := (hb0.trans (hb4.mono hb0.size)).grown hg6 (by omega) (fun i e => by have := (ho5.lt i e).1; omega)
      have Hr6 := Lib.hid hrun6
      have Ho6 := Lib.hid (ho6.mono (base' := w.heap.size) (by omega))
      clear hrun6 ho6 hg6 ho5 ho4 hb4 hrec ho0 hb0 hz0 hBx hBx6
      go_wp2_with (at_builtin; refine wpList_append_run rfl _ _ 31 31 rfl _ _ _ _ rfl rfl Hr6.out ?_)
      go_loopw [3, 22] (fun o i wr => ∃ (k : Nat) (P : List UInt8) (a' : Option Addr) (c' : Nat), k ≤ L ∧ i = .int .i64 (k : Int) ∧ o = .slice a' P.length c' ∧ OwnB wr w.heap.size a' P.length c' P ∧ P ++ encL ((kids.drop k).pre 2) = T ∧ mayB (kids.drop k) = true ∧ Below w.heap.size w wr) (fun _ i _ => L - (intOf i).toNat)
      case atStart => exact ⟨0, [byteK 3] ++ C, a6, c6, by omega, rfl, by simp; omega, by have := Ho6.out; rw [show 1 + C.length = ([byteK 3] ++ C).length from by simp; omega] at this; exact this, by rw [HE.out]; simp [Fo.drop], hm, hbF⟩
      case round =>
        obtain ⟨k, P, a', c', hk', rfl, rfl, hown, hP, hmk, hbr⟩ := hrel
        have HP := Lib.hid hP
        clear hP hbF z3
        by_cases hlt : k < L
        · obtain ⟨b, off, hd, ks, xa, xcap, rfl, hat⟩ := (hI.grown hbr).at (k := k) (by rw [HL.out]; exact hlt)
          have HS := Lib.hid (At.size hat)
          have HE2 := Lib.hid (At.enc hat)
          have hmm := At.may hat
          rw [hmk] at hmm
          have hmm' := hmm.symm
          simp only [Bool.and_eq_true] at hmm'
          obtain ⟨⟨hm1, hm2⟩, hm3⟩ := hmm'
          have hlens : P.length + (encL (Fo.pre 1 (.cons hd ks .nil))).length ≤ T.length := by
            rw [← HP.out, HE2.out]; simp only [List.length_append]; omega
          obtain ⟨x0, x1, x2, x3, hIk, hcut⟩ := hat
          have hmx := hIk.le
          have hmx2 := hIk.max
          have hb2 : Below w.heap.size w (wr.alloc (.cells #[.int .i64 hd.k, .int .i64 hd.n, .string hd.s, .slice xa ks.len xcap] 24)) := hbr.alloc hbr.size _
          have hal : Below wr.heap.size wr (wr.alloc (.cells #[.int .i64 hd.k, .int .i64 hd.n, .string hd.s, .slice xa ks.len xcap] 24)) := (Below.refl _ wr).alloc (Nat.le_refl _) _
          have hrw := ih hd ks xa xcap _ (by have := HS.out; omega) (hIk.grown hal) hm1 hm2 (by omega)
          obtain ⟨X, HX⟩ : ∃ X, Hid (encL (Fo.pre 1 (.cons hd ks .nil)) = X) := ⟨_, Lib.hid rfl⟩
          rw [HX.out] at hrw hlens HE2
          have hown2 : OwnB (wr.alloc (.cells #[.int .i64 hd.k, .int .i64 hd.n, .string hd.s, .slice xa ks.len xcap] 24)) w.heap.size a' P.length c' P := World.ownsRow.alloc hown _
          have Hm3 := Lib.hid hm3
          clear hmm hm1 hm2 hm3 hmk hcut hown hal
          go_wp2_with (fail)
          generalize (wr.alloc (.cells #[.int .i64 hd.k, .int .i64 hd.n, .string hd.s, .slice xa ks.len xcap] 24)) = wa at hb2 hrw hown2 ⊢
          refine hrw.mono ?_
          rintro e wb ⟨ab, cb, rfl, hob, hbb⟩
          obtain ⟨a7, c7, w7, hrun7, ho7, hg7⟩ := run_append_bytes wb 31 (hown2.below hbb) ab X.length cb X hob.bytes rfl (by omega) (Nat.le_trans hb2.size hbb.size)
          have hb7 : Below w.heap.size w w7 := (hb2.trans (hbb.mono hb2.size)).grown hg7 (Nat.le_trans hb2.size hbb.size) (fun i e => ((hown2.below hbb).lt i e).1)
          have Hr7 := Lib.hid hrun7
          have Ho7 := Lib.hid ho7
          clear hrun7 ho7 hg7 hbb hob hown2 hrw hb2 x0 x1 x2 x3 hIk
          go_wp2_with (at_builtin; refine wpList_append_run rfl _ _ 31 31 rfl _ _ _ _ rfl rfl Hr7.out ?_)
          go_roundw
          case rel => exact ⟨k + 1, P ++ X, a7, c7, by omega, by go_num, by rw [List.length_append], by rw [List.length_append]; exact Ho7.out, by rw [← HP.out, HE2.out, List.append_assoc], Hm3.out, hb7⟩
          case measure => simp [intOf]; omega
        · obtain rfl : k = L := by omega
          have hPT : P = T := by
            have := HP.out
            rw [Fo.drop_all (by rw [HL.out]; exact Nat.le_refl _)] at this
            simpa [encL, Fo.pre] using this
          subst hPT
          have Ho := Lib.hid hown
          clear hown hmk
          go_wp2_with (fail)
          go_ret
          exact ⟨a', c', rfl, Ho.out, hbr⟩
end Go.Proofs.Ytahibjiiaocjkaa
