/- The law WireLists. -/
import Derived.Test.YtahibjiiaocjkaaREncode
import Derived.Test.YtahibjiiaocjkaaWSeals
namespace Go.Proofs.Ytahibjiiaocjkaa
open Go.ChangeShapes Go.WideShapes Go.ChangeAt Go.RowKit

/-- A list of items among the arguments, with what its reading says. -/
theorem open_list2 {H : Type} {enc : TypeId × Value → H} {W : World} {v : Value} {d : DataW H} {ps : List MemPlace} (hok : Value.okWide Try.prog W .any 0 22 v) (h : DataW.Trod enc Try.prog W 0 (fun _ => true) true 22 v d ps) :
    ∃ (a : Option Addr) (cap : Nat) (f : Fo), v = .slice a f.len cap ∧ Items W a cap f ∧ f.wtS ≤ Rows.uptoBulk d := by
  obtain ⟨fuel, hf⟩ := h
  obtain ⟨a0, len0, cap0, rfl⟩ := okWide_slice Try.underlying22 hok
  rcases DataW.trod_slice Try.underlying22 hf with ⟨e3, x3⟩ | ⟨a, len, cap, elems, rest, n', hn, e3, x3, hb, hle, hm, hel, hcell, _, _⟩
  · simp only [Value.cells, List.cons.injEq, and_true] at e3
    cases e3
    exact ⟨none, 0, .nil, rfl, Items.nil W, by simp [Fo.wtS]⟩
  · simp only [Value.cells, List.cons.injEq, and_true] at e3
    injection e3 with e1 e2 e4
    subst e1 e2 e4
    simp only [Prod.mk.injEq] at x3
    have hmax : maxLen ≤ 9223372036854775807 := by decide
    have hb3 : Rows.uptoBulkAll (elems.map (·.1)) ≤ Rows.uptoBulk d := by
      rw [x3.1]
      simp only [Rows.uptoBulk]
      omega
    have each : ∀ i (hi : i < len0), ∃ (hd : Hd) (xa : Option Addr) (n xcap : Nat) (ks : Fo), (∀ j, j < 4 → W.cell? ((a.add (i * 4)).add j) = [.int .i64 hd.k, .int .i64 hd.n, .string hd.s, .slice xa n xcap][j]?) ∧ n = ks.len ∧ Items W xa xcap ks ∧ Fits hd ks (Rows.uptoBulk (elems[i]'(by omega)).1) := by
      intro i hi
      have hc := hcell i hi
      rw [List.getElem?_eq_getElem (by omega), item_cells, Option.bind_eq_some_iff] at hc
      obtain ⟨cs', hcs, ht⟩ := hc
      obtain ⟨hd, xa, n2, xcap, ks, rfl, e, hI, hF⟩ := open_cells2 n' cs' _ ht
      exact ⟨hd, xa, n2, xcap, ks, fun j hj => (World.cells?_some hcs).2.2 j hj, e, hI, hF⟩
    by_cases h0 : len0 = 0
    · subst h0
      exact ⟨some a, cap0, .nil, rfl, ⟨Nat.zero_le _, by omega, fun e => (by cases e), fun h => by simp [Fo.len] at h⟩, by simp [Fo.wtS]⟩
    · obtain ⟨b, off, spot⟩ := a
      have hspot : spot = none := by
        obtain ⟨hd, xa, n2, xcap, ks, hc, _⟩ := each 0 (by omega)
        have := hc 0 (by omega)
        simpa [Addr.add] using World.cell?_spot this
      subst hspot
      obtain ⟨f, hfl, hfe, _, hfw⟩ := elems_of2 (W := W) (b := b) (off := off) (elems.map (·.1)) 0 (fun j d hj => by
        rw [List.getElem?_map] at hj
        obtain ⟨y, hy, rfl⟩ := Option.map_eq_some_iff.1 hj
        obtain ⟨hlt, rfl⟩ := List.getElem?_eq_some_iff.1 hy
        obtain ⟨hd, xa, n2, xcap, ks, hc, e, hI, hF⟩ := each j (by omega)
        have hc' : ∀ q, q < 4 → W.cell? ⟨b, off + j * 4 + q, none⟩ = [.int .i64 hd.k, .int .i64 hd.n, .string hd.s, .slice xa n2 xcap][q]? := fun q hq => by
          have := hc q hq
          rwa [add_plain, add_plain] at this
        rw [Nat.zero_add]
        exact ⟨hd, xa, n2, xcap, ks, hc' 0 (by omega), hc' 1 (by omega), hc' 2 (by omega), hc' 3 (by omega), e, hI, hF⟩)
      rw [Nat.zero_mul, Nat.add_zero] at hfe
      rw [List.length_map] at hfl
      have hfl2 : f.len = len0 := by omega
      exact ⟨some ⟨b, off, none⟩, cap0, f, by rw [hfl2], ⟨by omega, by omega, fun e => (by cases e), fun _ => ⟨b, off, rfl, hfe⟩⟩, by omega⟩

theorem drop_wtS : ∀ (k : Nat) (f : Fo), (f.drop k).wtS ≤ f.wtS := by
  intro k
  induction k with
  | zero => intro f; exact Nat.le_refl _
  | succ k ih => intro f; cases f with
    | nil => exact Nat.le_refl _
    | cons h kids rest => simp only [Fo.drop, Fo.wtS]; have := ih rest; omega

/-- The whole list's check, where each item may be. -/
theorem list_check {f : Fo} (hm : mayB f = true) : checkE (Fo.pre 1 (.cons ⟨3, 0, ByteArray.empty⟩ f .nil)) = 0 ∨ checkE (Fo.pre 1 (.cons ⟨3, 0, ByteArray.empty⟩ f .nil)) = 3 := by
  rw [checkE_ref]
  rw [if_pos (by rw [hm]; simp [plainB, ByteArray.toList_eq])]
  split
  · exact .inl rfl
  · exact .inr rfl
theorem list_bytes {f : Fo} (he : checkE (Fo.pre 1 (.cons ⟨3, 0, ByteArray.empty⟩ f .nil)) = 0) (hl : f.len ≤ 100) : encB (Fo.pre 1 (.cons ⟨3, 0, ByteArray.empty⟩ f .nil)) = 3 :: UInt8.ofNat f.len :: encL (f.pre 2) := by
  unfold encB
  rw [if_pos he, encL_cons]
  have hc : countB f.len = [UInt8.ofNat f.len] := by
    unfold countB cntF
    rw [if_neg (by omega), Nat.mod_eq_of_lt (by omega)]
  simp only [headB]
  rw [hc]
  simp [encL, Fo.pre]
  rfl

set_option maxRecDepth 100000 in
set_option maxHeartbeats 2000000 in
theorem wireLists_any (f : Fo) (a : Option Addr) (cap : Nat) (w : World) (hI : Items w a cap f) (hF : f.wtS ≤ 1048576) :
    Calls Try.prog 11 #[.slice a f.len cap] w fun e w' => e = .returned (.bool true) ∧ Below w.heap.size w w' := by
  have hlm : f.len ≤ cap ∧ cap ≤ 9223372036854775807 := ⟨hI.le, hI.max⟩
  have hbig0 := fun w' (hI' : Items w' a cap f) => big_any f a cap w' hI'
  have hsz := size_wtS f
  have hwf := wt_pre f 2
  have hlf := encL_le (f.pre 2) (fun x hx => by
    have h1 := pre_len f 2 x hx
    refine ⟨by omega, ?_⟩
    have : ∀ (l : List Nd), x ∈ l → x.h.s.size ≤ wt l := by
      intro l
      induction l with
      | nil => intro h; cases h
      | cons y r ih => intro h; rcases List.mem_cons.1 h with rfl | h
                       · simp [wt]; omega
                       · have := ih h; simp [wt]; omega
    have := this _ hx
    omega)
  obtain ⟨L, HL⟩ : ∃ L, Hid (f.len = L) := ⟨_, Lib.hid rfl⟩
  obtain ⟨B, HB⟩ : ∃ B, Hid (bigB f = B) := ⟨_, Lib.hid rfl⟩
  rw [HL.out] at hlm ⊢
  rw [HL.out, HB.out] at hbig0
  obtain ⟨T, HT⟩ : ∃ T, Hid (encL (f.pre 2) = T) := ⟨_, Lib.hid rfl⟩
  rw [HT.out] at hlf
  have hTl : T.length ≤ 31457280 := by omega
  have Hwf := Lib.hid hwf
  clear hlf hwf
  go_enter Try.func11, Try.ntmps11
  go_wp2_with (fail)
  refine (live_any w).mono ?_
  rintro e w1 ⟨rfl, hb1⟩
  by_cases h100 : L ≤ 100
  case neg =>
    have hgt : (100 : Int) < (L : Int) := by omega
    clear hbig0
    go_wp2_with (fail)
    exact bodyPost_ret (v := .bool true) (by simp [results, Try.results11, go_sem]; try rfl) rfl ⟨rfl, hb1⟩
  have hle : (L : Int) ≤ 100 := by omega
  have hbig := hbig0 w1 (hI.grown hb1)
  clear hbig0
  go_wp2_with (fail)
  refine hbig.mono ?_
  rintro e w2 ⟨rfl, hb12⟩
  have hb2 : Below w.heap.size w w2 := hb1.trans (hb12.mono hb1.size)
  clear hb12 hb1 hbig
  cases B
  case true =>
    go_wp2_with (fail)
    exact bodyPost_ret (v := .bool true) (by simp [results, Try.results11, go_sem]; try rfl) rfl ⟨rfl, hb2⟩
  go_wp2_with (fail)
  go_loopw [4, 22] (fun o i wr => ∃ (k : Nat) (P : List UInt8) (a' : Option Addr) (c' : Nat), k ≤ L ∧ i = .int .i64 (k : Int) ∧ o = .slice a' P.length c' ∧ OwnB wr w.heap.size a' P.length c' P ∧ P ++ encL ((f.drop k).pre 2) = T ∧ mayB f = mayB (f.drop k) ∧ Below w.heap.size w wr) (fun _ i _ => L - (intOf i).toNat)
  case atStart => exact ⟨0, [], none, 0, by omega, rfl, rfl, OwnB.nil _ _, by rw [← HT.out]; simp [Fo.drop], rfl, hb2⟩
  case round =>
    obtain ⟨k, P, a', c', hk', rfl, rfl, hown, hP, hmk, hbr⟩ := hrel
    have HP := Lib.hid hP
    have HM := Lib.hid hmk
    have hPl : P.length ≤ 31457280 := by have := congrArg List.length hP; simp at this; omega
    clear hP hmk hb2
    by_cases hlt : k < L
    · obtain ⟨b, off, hd, ks, xa, xcap, rfl, hat⟩ := (hI.grown hbr).at (k := k) (by rw [HL.out]; exact hlt)
      have HE2 := Lib.hid (At.enc hat)
      have HM2 := Lib.hid (At.may hat)
      have hws : hd.s.size + 1 + ks.wtS ≤ 1048576 := by
        have h1 := drop_wtS k f
        rw [hat.cut] at h1
        simp only [Fo.wtS] at h1
        omega
      have hks := size_wtS ks
      have hwt : wt (Fo.pre 1 (.cons hd ks .nil)) ≤ 70368744177664 := by
        have := wt_pre (.cons hd ks .nil) 1
        simp only [Fo.wtS] at this
        omega
      obtain ⟨x0, x1, x2, x3, hIk, hcut⟩ := hat
      have hmx := hIk.le
      have hmx2 := hIk.max
      have hb2 : Below w.heap.size w (wr.alloc (.cells #[.int .i64 hd.k, .int .i64 hd.n, .string hd.s, .slice xa ks.len xcap] 24)) := hbr.alloc hbr.size _
      have hal : Below wr.heap.size wr (wr.alloc (.cells #[.int .i64 hd.k, .int .i64 hd.n, .string hd.s, .slice xa ks.len xcap] 24)) := (Below.refl _ wr).alloc (Nat.le_refl _) _
      have hcx := wencode_any hd ks xa xcap _ (hIk.grown hal) (by omega) hwt
      have hEg := fun e => check_may (h := hd) (kids := ks) e
      have hEB : checkE (Fo.pre 1 (.cons hd ks .nil)) = 0 → encB (Fo.pre 1 (.cons hd ks .nil)) = encL (Fo.pre 1 (.cons hd ks .nil)) := fun e => by unfold encB; rw [if_pos e]
      obtain ⟨X, HX⟩ : ∃ X, Hid (encB (Fo.pre 1 (.cons hd ks .nil)) = X) := ⟨_, Lib.hid rfl⟩
      obtain ⟨E, HE⟩ : ∃ X, Hid (checkE (Fo.pre 1 (.cons hd ks .nil)) = X) := ⟨_, Lib.hid rfl⟩
      rw [HX.out, HE.out] at hcx hEB
      rw [HE.out] at hEg
      have HEg := Lib.hid hEg
      have HEB := Lib.hid hEB
      have hown2 : OwnB (wr.alloc (.cells #[.int .i64 hd.k, .int .i64 hd.n, .string hd.s, .slice xa ks.len xcap] 24)) w.heap.size a' P.length c' P := World.ownsRow.alloc hown _
      clear hEg hEB hcut hown hal hws hks hwt
      go_wp2_with (fail)
      generalize (wr.alloc (.cells #[.int .i64 hd.k, .int .i64 hd.n, .string hd.s, .slice xa ks.len xcap] 24)) = wa at hb2 hcx hown2 ⊢
      refine hcx.mono ?_
      rintro e wb ⟨ab, cb, rfl, hob, hbb⟩
      have hbwb : Below w.heap.size w wb := hb2.trans (hbb.mono hb2.size)
      by_cases hE : E = 0
      case neg =>
        have hE1 : (E != 0) = true := by simpa using hE
        clear hE x0 x1 x2 x3 hcx hown2 hob hIk
        go_wp2_with (fail)
        exact bodyPost_ret (v := .bool true) (by simp [results, Try.results11, go_sem]; try rfl) rfl ⟨rfl, hbwb⟩
      have hE1 : (E != 0) = false := by simp [hE]
      have hXe := HEB.out hE
      rw [← hXe] at HE2
      have hXl : P.length + X.length ≤ 31457280 := by
        have := congrArg List.length HP.out
        rw [HE2.out] at this
        simp only [List.length_append] at this
        omega
      have hmay := HEg.out hE
      rw [mayB_cons, show mayB .nil = true from rfl, Bool.and_true, Bool.and_eq_true] at hmay
      have HMn : Hid (mayB f = mayB (f.drop (k + 1))) := Lib.hid (by rw [HM.out, HM2.out, hmay.1, hmay.2]; rfl)
      obtain ⟨a7, c7, w7, hrun7, ho7, hg7⟩ := run_append_bytes wb 31 (hown2.below hbb) ab X.length cb X hob.bytes rfl (by omega) hbwb.size
      have hb7 : Below w.heap.size w w7 := hbwb.grown hg7 hbwb.size (fun i e => ((hown2.below hbb).lt i e).1)
      have Hr7 := Lib.hid hrun7
      have Ho7 := Lib.hid ho7
      clear hrun7 ho7 hg7 hbb hob hown2 hcx hb2 x0 x1 x2 x3 hIk hbwb hXe hE hmay
      go_wp2_with (at_builtin; refine wpList_append_run rfl _ _ 31 31 rfl _ _ _ _ rfl rfl Hr7.out ?_)
      go_roundw
      case rel => exact ⟨k + 1, P ++ X, a7, c7, by omega, by go_num, by rw [List.length_append], by rw [List.length_append]; exact Ho7.out, by rw [← HP.out, HE2.out, List.append_assoc], HMn.out, hb7⟩
      case measure => simp [intOf]; omega
    · obtain rfl : k = L := by omega
      have hdn : f.drop k = .nil := Fo.drop_all (by rw [HL.out]; exact Nat.le_refl _)
      have hPT : P = T := by
        have := HP.out
        rw [hdn] at this
        simpa [encL, Fo.pre] using this
      subst hPT
      have hmay : mayB f = true := by rw [HM.out, hdn]; rfl
      have hck := list_check hmay
      have hby := fun e => list_bytes (f := f) e (by rw [HL.out]; exact h100)
      have hwt : wt (Fo.pre 1 (.cons ⟨3, 0, ByteArray.empty⟩ f .nil)) ≤ 70368744177664 := by
        have h1 := Hwf.out
        have e1 : wt (Fo.pre 1 (.cons ⟨3, 0, ByteArray.empty⟩ f .nil)) = 30 + 0 + wt (f.pre 2) := by
          simp [Fo.pre, wt]
        rw [e1]; omega
      have hcx := fun (w' : World) (hI' : Items w' a cap f) => wencode_any ⟨3, 0, ByteArray.empty⟩ f a cap w' hI' (by omega) hwt
      rw [HL.out, HT.out] at hby
      obtain ⟨X, HX⟩ : ∃ X, Hid (encB (Fo.pre 1 (.cons ⟨3, 0, ByteArray.empty⟩ f .nil)) = X) := ⟨_, Lib.hid rfl⟩
      obtain ⟨E, HE⟩ : ∃ X, Hid (checkE (Fo.pre 1 (.cons ⟨3, 0, ByteArray.empty⟩ f .nil)) = X) := ⟨_, Lib.hid rfl⟩
      rw [HX.out, HE.out] at hby
      rw [HX.out, HE.out, HL.out] at hcx
      rw [HE.out] at hck
      have Hck := Lib.hid hck
      have Hby := Lib.hid hby
      clear hck hby hmay hdn hwt
      go_wp2_with (fail)
      refine (list1_any a k cap wr).mono ?_
      rintro e w3 ⟨rfl, hg3⟩
      have hb3 : Below w.heap.size w w3 := hbr.grown hg3 hbr.size (fun i e => by cases e)
      have hc3 := hcx w3 (hI.grown hb3)
      have hbv := (hown.kept hg3 (by cases a' <;> simp [Value.ownBlock])).bytes
      clear hcx hown hg3 hbr
      go_wp2_with (fail)
      refine hc3.mono ?_
      rintro e w4 ⟨a4, c4, rfl, ho4, hb4⟩
      have hbw4 : Below w.heap.size w w4 := hb3.trans (hb4.mono hb3.size)
      have hbv4 := hbv.grown hb4
      clear hc3 hbv hb3 hb4
      by_cases hE : E = 0
      · have hX := Hby.out hE
        subst hX
        have hE1 : (E != 0) = false := by simp [hE]
        have HE0 := Lib.hid hE
        have hb := ho4.bytes
        obtain ⟨bb, off, rfl⟩ := hb.at_ 0 (by simp)
        have q0 := hb.cell bb off rfl 0 (by simp)
        have q1 := hb.cell bb off rfl 1 (by simp)
        have hcc := hb.le
        have hcm := hb.max
        simp only [List.length_cons] at hcc
        have e0 : bv ((3 :: UInt8.ofNat k :: P)[0]'(by simp)) = .int .u8 3 := rfl
        have e1 : bv ((3 :: UInt8.ofNat k :: P)[1]'(by simp)) = .int .u8 (k : Int) := by
          show Value.int .u8 ((UInt8.ofNat k).toNat : Int) = _
          rw [UInt8.toNat_ofNat']; congr 1; omega
        rw [e0, Nat.add_zero] at q0
        rw [e1] at q1
        have htail : ∀ A, A = (if c4 = 2 then some (⟨bb, off, none⟩ : Addr) else some ⟨bb, off + 2, none⟩) → Bytes w4 A (c4 - 2) P := fun A hA => by
          subst hA
          refine ⟨by omega, by omega, fun i hi => ?_, fun b' o' e i hi => ?_, fun e => (by split at e <;> cases e)⟩
          · rw [if_neg (by omega)]; exact ⟨_, _, rfl⟩
          · rw [if_neg (by omega)] at e
            cases e
            have := hb.cell bb off rfl (i + 2) (by simpa using hi)
            rw [show off + 2 + i = off + (i + 2) from by omega]
            simpa using this
        obtain ⟨LP, HLP⟩ : ∃ LP, Hid (P.length = LP) := ⟨_, Lib.hid rfl⟩
        have hlen : (3 :: UInt8.ofNat k :: P).length = LP + 1 + 1 := by simp [HLP.out]
        rw [hlen, HLP.out]
        rw [HLP.out] at hcc hPl
        have hq : ((LP : Int) + 1 + 1 == 2 + (LP : Int)) = true := by simp; omega
        have Htail := Lib.hid htail
        clear e0 e1 hb ho4 htail hlen hE
        by_cases hc2 : c4 = 2
        · subst hc2
          obtain rfl : LP = 0 := by omega
          have ht := Htail.out (some ⟨bb, off, none⟩) (by simp)
          have hsame := sameBytes_any (some ⟨bb, off, none⟩) a' 0 0 0 c' P P w4 ht hbv4 HLP.out.symm HLP.out.symm
          rw [show decide (P = P) = true from by simp] at hsame
          clear ht
          go_wp2_with (fail)
          refine hsame.mono ?_
          rintro e w5 ⟨rfl, rfl⟩
          go_wp2_with (fail)
          exact bodyPost_ret (v := .bool true) (by simp [results, Try.results11, go_sem]; try rfl) rfl ⟨rfl, hbw4⟩
        · have ht := Htail.out (some ⟨bb, off + 2, none⟩) (by simp [hc2])
          have hsame := sameBytes_any (some ⟨bb, off + 2, none⟩) a' LP LP (c4 - 2) c' P P w4 ht hbv4 HLP.out.symm HLP.out.symm
          rw [show decide (P = P) = true from by simp] at hsame
          clear ht
          go_wp2_with (fail)
          refine hsame.mono ?_
          rintro e w5 ⟨rfl, rfl⟩
          go_wp2_with (fail)
          exact bodyPost_ret (v := .bool true) (by simp [results, Try.results11, go_sem]; try rfl) rfl ⟨rfl, hbw4⟩
      · have hE3 : E = 3 := by rcases Hck.out with h | h; exact absurd h hE; exact h
        subst hE3
        clear hE
        go_wp2_with (fail)
        exact bodyPost_ret (v := .bool true) (by simp [results, Try.results11, go_sem]; try rfl) rfl ⟨rfl, hbw4⟩
end Go.Proofs.Ytahibjiiaocjkaa
