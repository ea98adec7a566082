/- Texts joined: Ts Tt Tu Lg Tp Tq Tv. -/
import Derived.Test.YthogiakfbgehnaaREAn
import Derived.Test.YthogiakfbgehnaaREAl
import Derived.Test.YthogiakfbgehnaaREAm
import Derived.Test.YthogiakfbgehnaaREAj
set_option linter.unusedVariables false
set_option linter.unusedSimpArgs false
namespace Go.Proofs.Ythogiakfbgehnaa
open Go.RowKit Go.Maps

attribute [local go_sem] Oper.semAt_some

/-- A node may stand in a derivation; where a token stands is not looked at. -/
def rightD (d : CfD) (h : TrH) (kids : TrF) : Bool :=
  if 0 ≤ h.k then decide (h.k < (d.toks.length : Int)) && decide (h.i = 0) && decide (kids.len = 0)
  else match altD d h.k h.i with
    | none => false
    | some al => decide (h.a = 0) && decide (kids.ks = al.l)
set_option maxRecDepth 100000 in
set_option maxHeartbeats 16000000 in
theorem right_any (d : CfD) (h : TrH) (kids : TrF) (a : Option Addr) (cap : Nat) (w : World) (hd : CfAt w d) (hI : TrS w (fun _ => True) a cap kids) (hlo : -9223372036854775808 ≤ h.k) :
    Calls Try.prog 96 #[d.v, treV h a kids.len cap] w fun e W => e = .returned (.bool (rightD d h kids)) ∧ Below w.heap.size w W := by
  obtain ⟨hk, hi, ha⟩ := h
  have hlm : kids.len ≤ cap ∧ cap ≤ 9223372036854775807 := ⟨hI.le, hI.max⟩
  have Hd := Lib.hid hd
  have HI := Lib.hid hI
  obtain ⟨R, HR⟩ : ∃ q, Hid (rightD d ⟨hk, hi, ha⟩ kids = q) := ⟨_, Lib.hid rfl⟩
  rw [HR.out]
  have hdv : d.v = .agg #[.slice d.ta d.toks.length d.tc, .slice d.na d.names.length d.nc, .slice d.aa d.alts.length d.ac] := rfl
  obtain ⟨xta, hxta⟩ : ∃ q, Hid (d.ta = q) := ⟨_, Lib.hid rfl⟩
  obtain ⟨xna, hxna⟩ : ∃ q, Hid (d.na = q) := ⟨_, Lib.hid rfl⟩
  obtain ⟨xaa, hxaa⟩ : ∃ q, Hid (d.aa = q) := ⟨_, Lib.hid rfl⟩
  obtain ⟨xtc, hxtc⟩ : ∃ q, Hid (d.tc = q) := ⟨_, Lib.hid rfl⟩
  obtain ⟨xnc, hxnc⟩ : ∃ q, Hid (d.nc = q) := ⟨_, Lib.hid rfl⟩
  obtain ⟨xac, hxac⟩ : ∃ q, Hid (d.ac = q) := ⟨_, Lib.hid rfl⟩
  obtain ⟨T, HT⟩ : ∃ q, Hid (d.toks.length = q) := ⟨_, Lib.hid rfl⟩
  obtain ⟨N, HN⟩ : ∃ q, Hid (d.names.length = q) := ⟨_, Lib.hid rfl⟩
  obtain ⟨L, HL⟩ : ∃ q, Hid (d.alts.length = q) := ⟨_, Lib.hid rfl⟩
  rw [hxta.out, hxna.out, hxaa.out, hxtc.out, hxnc.out, hxac.out, HT.out, HN.out, HL.out] at hdv
  obtain ⟨KL, HKL⟩ : ∃ q, Hid (kids.len = q) := ⟨_, Lib.hid rfl⟩
  rw [HKL.out] at hlm ⊢
  have HIT := Lib.hid (fun V => isTok_any ⟨hk, hi, ha⟩ a KL cap V)
  have HAL := Lib.hid (fun V hV => altOf_any d hk hi V hV)
  rw [hdv] at HAL ⊢
  have hb0 : Below w.heap.size w ((w.alloc (.cells #[.slice xta T xtc, .slice xna N xnc, .slice xaa L xac] 25)).alloc (.cells #[.int .i64 hk, .int .i64 hi, .int .i64 ha, .slice a KL cap] 51)) := ((Below.refl w.heap.size w).alloc (Nat.le_refl _) _).alloc (by simp) _
  have hC := (Blk.new w 25 #[.slice xta T xtc, .slice xna N xnc, .slice xaa L xac]).alloc (.cells #[.int .i64 hk, .int .i64 hi, .int .i64 ha, .slice a KL cap] 51)
  have hB := Blk.new (w.alloc (.cells #[.slice xta T xtc, .slice xna N xnc, .slice xaa L xac] 25)) 51 #[.int .i64 hk, .int .i64 hi, .int .i64 ha, .slice a KL cap]
  rw [World.size_alloc] at hB
  have x0 := hB.cell 0
  have x1 := hB.cell 1
  have x2 := hB.cell 2
  have x3 := hB.cell 3
  have xl := hB.lt
  have z0 := hC.cell 0
  have z1 := hC.cell 1
  have z2 := hC.cell 2
  have zl := hC.lt
  simp only [List.getElem?_cons_zero, List.getElem?_cons_succ] at x0 x1 x2 x3 z0 z1 z2
  have HC := Lib.hid hC
  have HB := Lib.hid hB
  have Hb0 := Lib.hid hb0
  clear hd hI hdv hC hB hb0
  go_enter Try.func96, Try.ntmps96
  go_wp2_with (fail)
  refine (HIT.out _).mono ?_
  rintro e9 w9 ⟨rfl, hb9⟩
  have hb1 := Hb0.out.trans (hb9.mono Hb0.out.size)
  have HC9 := HC.out.below hb9 HC.out.lt
  have HB9 := HB.out.below hb9 HB.out.lt
  have y0 := HB9.cell 0
  have y1 := HB9.cell 1
  have y2 := HB9.cell 2
  have y3 := HB9.cell 3
  have yl := HB9.lt
  have u0 := HC9.cell 0
  have u1 := HC9.cell 1
  have u2 := HC9.cell 2
  have ul := HC9.lt
  simp only [List.getElem?_cons_zero, List.getElem?_cons_succ] at y0 y1 y2 y3 u0 u1 u2
  have Hb1 := Lib.hid hb1
  have HC9 := Lib.hid HC9
  have HB9 := Lib.hid HB9
  clear x0 x1 x2 x3 xl z0 z1 z2 zl hb9 hb1
  dsimp only
  by_cases h0 : 0 ≤ hk
  · have e0 : decide (0 ≤ hk) = true := decide_eq_true h0
    have HR2 : Hid (R = (decide (hk < (T : Int)) && decide (hi = 0) && decide (KL = 0))) := Lib.hid (by
      rw [← HR.out, ← HT.out, ← HKL.out]
      unfold rightD
      rw [if_pos h0])
    rw [e0]
    clear e0
    by_cases h1 : hk < (T : Int)
    · by_cases h2 : hi = 0
      · by_cases h3 : KL = 0
        · have HF : Hid (R = true) := Lib.hid (HR2.out.trans (by rw [decide_eq_true h1, decide_eq_true h2, decide_eq_true h3]; rfl))
          subst h2 h3
          go_wp2_with (fail)
          first | exact ⟨by rw [HF.out], Hb1.out⟩ | exact bodyPost_ret (v := .bool true) (by simp [results, Try.results96, go_sem]; try first | rfl | assumption | omega) rfl ⟨by rw [HF.out], Hb1.out⟩
        · have HF : Hid (R = false) := Lib.hid (HR2.out.trans (by rw [decide_eq_false h3, Bool.and_false]))
          have hne : ((KL : Int) == 0) = false := by rw [beq_eq_false_iff_ne]; omega
          subst h2
          go_wp2_with (fail)
          first | exact ⟨by rw [HF.out], Hb1.out⟩ | exact bodyPost_ret (v := .bool false) (by simp [results, Try.results96, go_sem]; try first | rfl | assumption | omega) rfl ⟨by rw [HF.out], Hb1.out⟩
      · have HF : Hid (R = false) := Lib.hid (HR2.out.trans (by rw [decide_eq_false h2, Bool.and_false, Bool.false_and]))
        have hne : (hi == 0) = false := by rw [beq_eq_false_iff_ne]; exact h2
        go_wp2_with (fail)
        first | exact ⟨by rw [HF.out], Hb1.out⟩ | exact bodyPost_ret (v := .bool false) (by simp [results, Try.results96, go_sem]; try first | rfl | assumption | omega) rfl ⟨by rw [HF.out], Hb1.out⟩
    · have HF : Hid (R = false) := Lib.hid (HR2.out.trans (by rw [decide_eq_false h1, Bool.false_and, Bool.false_and]))
      go_wp2_with (fail)
      first | exact ⟨by rw [HF.out], Hb1.out⟩ | exact bodyPost_ret (v := .bool false) (by simp [results, Try.results96, go_sem]; try first | rfl | assumption | omega) rfl ⟨by rw [HF.out], Hb1.out⟩
  · have e0 : decide (0 ≤ hk) = false := decide_eq_false h0
    have HR2 : Hid (R = (match altD d hk hi with | none => false | some al => decide (ha = 0) && decide (kids.ks = al.l))) := Lib.hid (by
      rw [← HR.out]
      unfold rightD
      rw [if_neg h0])
    rw [e0]
    clear e0
    have hAL := HAL.out w9 (Hd.out.grown Hb1.out) ⟨hlo, by omega⟩
    have HAL := Lib.hid hAL
    clear hAL
    go_wp2_with (fail)
    refine HAL.out.mono ?_
    rintro e10 w10 ⟨rfl, hb10⟩
    have HB10 := HB9.out.below hb10 HB9.out.lt
    have y0 := HB10.cell 0
    have y1 := HB10.cell 1
    have y2 := HB10.cell 2
    have y3 := HB10.cell 3
    have yl := HB10.lt
    simp only [List.getElem?_cons_zero, List.getElem?_cons_succ] at y0 y1 y2 y3
    have Hb10 := Lib.hid (Hb1.out.trans (hb10.mono Hb1.out.size))
    clear HB10 hb10 HAL u0 u1 u2 ul
    cases hal : altD d hk hi with
    | none =>
      have HF : Hid (R = false) := Lib.hid (by have := HR2.out; rw [hal] at this; exact this)
      dsimp only [altR]
      clear hal HR2
      go_wp2_with (fail)
      first | exact ⟨by rw [HF.out], Hb10.out⟩ | exact bodyPost_ret (v := .bool false) (by simp [results, Try.results96, go_sem]; try first | rfl | assumption | omega) rfl ⟨by rw [HF.out], Hb10.out⟩
    | some al =>
      have HR3 : Hid (R = (decide (ha = 0) && decide (kids.ks = al.l))) := Lib.hid (by have := HR2.out; rw [hal] at this; exact this)
      obtain ⟨ru, hru, hm⟩ := altD_mem hal
      have hIn : Ints w10 al.a al.c al.l := ((Hd.out.grown Hb10.out).rules ru hru).nms al hm
      dsimp only [altR]
      clear hal HR2 hru hm
      have hxm : al.l.length ≤ al.c ∧ al.c ≤ 9223372036854775807 := ⟨by have := hIn.le; rwa [List.length_map] at this, hIn.max⟩
      obtain ⟨wl, wa, wcp⟩ := al
      dsimp only at hxm hIn HR3
      obtain ⟨AL, hAL⟩ : ∃ q, Hid (wl.length = q) := ⟨_, Lib.hid rfl⟩
      have hEQ := eqKids_any kids a cap wl wa wcp w10 (HI.out.grown Hb10.out) hIn
      change Calls Try.prog _ #[_, .slice wa wl.length wcp, _] _ _ at hEQ
      rw [HKL.out, hAL.out] at hEQ
      rw [hAL.out] at hxm
      rw [show (IltD.v ⟨wl, wa, wcp⟩) = .slice wa AL wcp from by rw [← hAL.out]]
      have HEQ := Lib.hid hEQ
      clear hEQ hIn
      by_cases h1 : ha = 0
      · have HR4 : Hid (R = decide (kids.ks = wl)) := Lib.hid (HR3.out.trans (by rw [decide_eq_true h1, Bool.true_and]))
        subst h1
        go_wp2_with (fail)
        refine HEQ.out.mono ?_
        rintro e11 w11 ⟨rfl, hb11⟩
        have HF := Lib.hid (Hb10.out.trans (hb11.mono Hb10.out.size))
        clear hb11
        generalize decide (kids.ks = wl) = S at HR4 ⊢
        go_wp2_with (fail)
        first | exact ⟨by rw [HR4.out], HF.out⟩ | exact bodyPost_ret (v := .bool S) (by simp [results, Try.results96, go_sem]; try first | rfl | assumption | omega) rfl ⟨by rw [HR4.out], HF.out⟩
      · have HF : Hid (R = false) := Lib.hid (HR3.out.trans (by rw [decide_eq_false h1, Bool.false_and]))
        have hne : (ha == 0) = false := by rw [beq_eq_false_iff_ne]; exact h1
        go_wp2_with (fail)
        first | exact ⟨by rw [HF.out], Hb10.out⟩ | exact bodyPost_ret (v := .bool false) (by simp [results, Try.results96, go_sem]; try first | rfl | assumption | omega) rfl ⟨by rw [HF.out], Hb10.out⟩
end Go.Proofs.Ythogiakfbgehnaa

namespace Go.Proofs.Ythogiakfbgehnaa
open Go.RowKit Go.Maps

attribute [local go_sem] Oper.semAt_some

theorem TrF.len_nil {f : TrF} : f.len = 0 ↔ f = .nil := by
  cases f with
  | nil => exact ⟨fun _ => rfl, fun _ => rfl⟩
  | cons h k r => exact ⟨fun e => by simp [TrF.len] at e, fun e => by cases e⟩
/-- Trees that are these symbols', each node right, each token a known one. -/
def goodT (d : CfD) (f : TrF) (ks : List Int) : Prop := goodW d f ks ∧ ∀ t ∈ f.yt, t < (d.toks.length : Int)
theorem goodT_cons {d : CfD} {h : TrH} {kids rest : TrF} {ks : List Int} : goodT d (.cons h kids rest) ks ↔ ∃ ks', ks = h.k :: ks' ∧ ((0 ≤ h.k ∧ h.k < (d.toks.length : Int) ∧ kids = .nil ∧ h.i = 0) ∨ (h.k < 0 ∧ h.a = 0 ∧ ∃ al, altD d h.k h.i = some al ∧ goodT d kids al.l)) ∧ goodT d rest ks' := by
  have hyt : (TrF.cons h kids rest).yt = (if 0 ≤ h.k then [h.k] else kids.yt) ++ rest.yt := rfl
  unfold goodT
  rw [hyt]
  constructor
  · rintro ⟨h1, h2⟩
    obtain ⟨ks', e, h3, h4⟩ := goodW_cons h1
    refine ⟨ks', e, ?_, h4, fun t ht => h2 t (List.mem_append_right _ ht)⟩
    rcases h3 with ⟨k0, k1, k2⟩ | ⟨k0, k1, al, k2, k3⟩
    · exact .inl ⟨k0, h2 h.k (List.mem_append_left _ (by rw [if_pos k0]; exact List.mem_singleton.2 rfl)), k1, k2⟩
    · exact .inr ⟨k0, k1, al, k2, k3, fun t ht => h2 t (List.mem_append_left _ (by rw [if_neg (by omega)]; exact ht))⟩
  · rintro ⟨ks', e, h3, h4, h5⟩
    refine ⟨?_, fun t ht => ?_⟩
    · unfold goodW
      refine ⟨ks', e, ?_, h4⟩
      rcases h3 with ⟨k0, _, k1, k2⟩ | ⟨k0, k1, al, k2, k3, _⟩
      · exact .inl ⟨k0, k1, k2⟩
      · exact .inr ⟨k0, k1, al, k2, k3⟩
    · rcases List.mem_append.1 ht with ht | ht
      · rcases h3 with ⟨k0, k1, _⟩ | ⟨k0, _, al, _, _, k3⟩
        · rw [if_pos k0] at ht
          rw [List.mem_singleton.1 ht]; exact k1
        · rw [if_neg (by omega)] at ht
          exact k3 t ht
      · exact h5 t ht
/-- All nodes are right just if the trees are their symbols'. -/
theorem good_pre (d : CfD) (f : TrF) : ∀ (ks : List Int) (n : Nat), goodT d f ks ↔ f.ks = ks ∧ ∀ x ∈ f.pre true n, rightD d x.h x.kids = true := by
  induction f with
  | nil =>
    intro ks n
    unfold goodT goodW
    exact ⟨fun h => ⟨h.1.symm, fun x hx => absurd hx (by simp [TrF.pre])⟩, fun h => ⟨h.1.symm, fun t ht => absurd ht (by simp [TrF.yt])⟩⟩
  | cons h kids rest ihk ihr =>
    intro ks n
    rw [goodT_cons, TrF.pre_cons]
    have hks : (TrF.cons h kids rest).ks = h.k :: rest.ks := rfl
    rw [hks]
    constructor
    · rintro ⟨ks', rfl, h3, h4⟩
      obtain ⟨e, h5⟩ := (ihr ks' n).1 h4
      refine ⟨by rw [e], fun x hx => ?_⟩
      rcases List.mem_cons.1 hx with rfl | hx
      · unfold rightD
        rcases h3 with ⟨k0, k1, k2, k3⟩ | ⟨k0, k1, al, k2, k3⟩
        · rw [if_pos k0, decide_eq_true k1, decide_eq_true k3, decide_eq_true (TrF.len_nil.2 k2)]; rfl
        · rw [if_neg (by dsimp only; omega)]
          dsimp only
          rw [k2]
          dsimp only
          rw [decide_eq_true k1, decide_eq_true ((ihk al.l (n + 1)).1 k3).1]; rfl
      · rcases List.mem_append.1 hx with hx | hx
        · rcases h3 with ⟨k0, k1, k2, k3⟩ | ⟨k0, k1, al, k2, k3⟩
          · rw [show told true h kids = .nil from by unfold told; rw [if_pos (by simpa using k0)]] at hx
            exact absurd hx (by simp [TrF.pre])
          · rw [show told true h kids = kids from by unfold told; rw [if_neg (by simp; omega)]] at hx
            exact ((ihk al.l (n + 1)).1 k3).2 x hx
        · exact h5 x hx
    · rintro ⟨rfl, hx⟩
      have hr := hx _ List.mem_cons_self
      refine ⟨rest.ks, rfl, ?_, (ihr _ n).2 ⟨rfl, fun x h => hx x (List.mem_cons_of_mem _ (List.mem_append_right _ h))⟩⟩
      unfold rightD at hr
      dsimp only at hr
      by_cases k0 : 0 ≤ h.k
      · rw [if_pos k0] at hr
        simp only [Bool.and_eq_true, decide_eq_true_eq] at hr
        exact .inl ⟨k0, hr.1.1, TrF.len_nil.1 hr.2, hr.1.2⟩
      · rw [if_neg k0] at hr
        cases hal : altD d h.k h.i with
        | none => rw [hal] at hr; cases hr
        | some al =>
          rw [hal] at hr
          dsimp only at hr
          simp only [Bool.and_eq_true, decide_eq_true_eq] at hr
          refine .inr ⟨by omega, hr.1, al, rfl, (ihk al.l (n + 1)).2 ⟨hr.2, fun x h => hx x (List.mem_cons_of_mem _ (List.mem_append_left _ ?_))⟩⟩
          rw [show told true _ kids = kids from by unfold told; rw [if_neg (by simp; omega)]]
          exact h
end Go.Proofs.Ythogiakfbgehnaa

namespace Go.Proofs.Ythogiakfbgehnaa
open Go.RowKit Go.Maps

attribute [local go_sem] Oper.semAt_some

/-- A token's place. -/
def ndA (x : NdT) : Option Int := if 0 ≤ x.h.k then some x.h.a else none
theorem pre_ya (f : TrF) : ∀ d, (f.pre true d).filterMap ndA = f.ya := by
  induction f with
  | nil => intro d; rfl
  | cons h kids rest ihk ihr =>
    intro d
    show List.filterMap ndA (⟨d, h, kids⟩ :: ((if true && decide (0 ≤ h.k) then [] else kids.pre true (d + 1)) ++ rest.pre true d)) = _
    by_cases h0 : 0 ≤ h.k
    · simp [ndA, h0, TrF.ya, ihr, List.filterMap_cons]
    · simp [ndA, h0, TrF.ya, List.filterMap_cons, List.filterMap_append]
      exact congr (congrArg _ (ihk (d + 1))) (ihr d)
/-- A tree is a derivation of these tokens, each at its place. -/
def ChkD (d : CfD) (h : TrH) (kids : TrF) (toks : List Int) : Prop :=
  h.k = -1 ∧ goodT d (.cons h kids .nil) [-1] ∧ (TrF.cons h kids .nil).yt = toks ∧ (TrF.cons h kids .nil).ya = rngI 0 toks.length
/-- So far all is right, and so many tokens came. -/
structure ChkP (d : CfD) (toks : List Int) (ns : List NdT) (c : Nat) : Prop where
  rt : ∀ x ∈ ns, rightD d x.h x.kids = true
  le : c ≤ toks.length
  yt : ns.filterMap ndY = toks.take c
  ya : ns.filterMap ndA = rngI 0 c
theorem ChkP.nil (d : CfD) (toks : List Int) : ChkP d toks [] 0 := ⟨fun x hx => absurd hx (by simp), Nat.zero_le _, by simp, by simp [rngI]⟩
section
variable {d : CfD} {toks : List Int} {ns : List NdT} {c : Nat} {x : NdT}
theorem ChkP.rule (h : ChkP d toks ns c) (hr : rightD d x.h x.kids = true) (h0 : ¬ 0 ≤ x.h.k) : ChkP d toks (ns ++ [x]) c := by
  refine ⟨fun y hy => ?_, h.le, ?_, ?_⟩
  · rcases List.mem_append.1 hy with hy | hy
    · exact h.rt y hy
    · rw [List.mem_singleton.1 hy]; exact hr
  · rw [List.filterMap_append, h.yt]; simp [ndY, h0]
  · rw [List.filterMap_append, h.ya]; simp [ndA, h0]
theorem rngI_succ (c : Nat) : rngI 0 (c + 1) = rngI 0 c ++ [(c : Int)] := by
  unfold rngI
  rw [Nat.sub_zero, Nat.sub_zero, List.range_succ, List.map_append]
  simp
theorem ChkP.tok (h : ChkP d toks ns c) (hr : rightD d x.h x.kids = true) (h0 : 0 ≤ x.h.k) (hc : c < toks.length) (he : x.h.k = toks[c]) (ha : x.h.a = (c : Int)) : ChkP d toks (ns ++ [x]) (c + 1) := by
  refine ⟨fun y hy => ?_, hc, ?_, ?_⟩
  · rcases List.mem_append.1 hy with hy | hy
    · exact h.rt y hy
    · rw [List.mem_singleton.1 hy]; exact hr
  · rw [List.filterMap_append, h.yt, List.take_add_one, List.getElem?_eq_getElem hc, ← he]; simp [ndY, h0]
  · rw [List.filterMap_append, h.ya, rngI_succ, ← ha]; simp [ndA, h0]
end
theorem ChkP.done {d : CfD} {toks : List Int} {h : TrH} {kids : TrF} {c : Nat} (hp : ChkP d toks ((TrF.cons h kids .nil).pre true 1) c) (h0 : h.k = -1) : ChkD d h kids toks ↔ c = toks.length := by
  have e1 := hp.yt
  have e2 := hp.ya
  rw [pre_yt] at e1
  rw [pre_ya] at e2
  constructor
  · rintro ⟨_, _, h1, _⟩
    have h2 := congrArg List.length (e1.symm.trans h1)
    rw [List.length_take] at h2
    have := hp.le
    omega
  · rintro rfl
    rw [List.take_length] at e1
    exact ⟨h0, (good_pre d _ _ 1).2 ⟨by show [h.k] = [-1]; rw [h0], hp.rt⟩, e1, e2⟩
theorem ChkP.bad {d : CfD} {toks : List Int} {h : TrH} {kids : TrF} {c : Nat} {ns : List NdT} {x : NdT} (hp : ChkP d toks ns c) (hr : ∃ r, (ns ++ [x]) ++ r = (TrF.cons h kids .nil).pre true 1)
    (hb : rightD d x.h x.kids = false ∨ (0 ≤ x.h.k ∧ (c = toks.length ∨ (∃ hc : c < toks.length, x.h.k ≠ toks[c]) ∨ x.h.a ≠ (c : Int)))) : ¬ ChkD d h kids toks := by
  rintro ⟨_, h1, h2, h3⟩
  obtain ⟨r, hr⟩ := hr
  have hg := ((good_pre d _ _ 1).1 h1).2
  rw [← pre_yt _ 1, ← hr, List.filterMap_append, List.filterMap_append, hp.yt] at h2
  rw [← pre_ya _ 1, ← hr, List.filterMap_append, List.filterMap_append, hp.ya] at h3
  rcases hb with hb | ⟨h0, hb⟩
  · have := hg x (by rw [← hr]; simp)
    rw [hb] at this
    cases this
  · have e1 : [x].filterMap ndY = [x.h.k] := by simp [ndY, h0]
    have e2 : [x].filterMap ndA = [x.h.a] := by simp [ndA, h0]
    rw [e1] at h2
    rw [e2] at h3
    have hcl : (toks.take c).length = c := by rw [List.length_take]; have := hp.le; omega
    have hl := congrArg List.length h2
    simp only [List.length_append, hcl, List.length_singleton] at hl
    have hc : c < toks.length := by omega
    rcases hb with hb | ⟨_, hb⟩ | hb
    · omega
    · have := congrArg (fun l : List Int => l[c]?) h2
      simp only [List.append_assoc] at this
      rw [List.getElem?_append_right (by omega), hcl, Nat.sub_self, List.getElem?_eq_getElem hc] at this
      exact hb (by simpa using this)
    · have hrl : (rngI 0 c).length = c := by unfold rngI; simp
      have h9 : (rngI 0 toks.length)[c]? = some (c : Int) := by
        unfold rngI
        rw [List.getElem?_map, List.getElem?_range (by omega)]
        simp
      have := congrArg (fun l : List Int => l[c]?) h3
      simp only [List.append_assoc] at this
      rw [List.getElem?_append_right (by omega), hrl, Nat.sub_self, h9] at this
      exact hb (by simpa using this)
end Go.Proofs.Ythogiakfbgehnaa

namespace Go.Proofs.Ythogiakfbgehnaa
open Go.RowKit Go.Maps

attribute [local go_sem] Oper.semAt_some

theorem ints_blk {w : World} {z : Nat} {x : Int} (h : Blk w z 3 [.int .i64 x]) : Ints w (some ⟨z, 0, none⟩) 1 [x] :=
  ⟨Nat.le_refl _, by omega, (fun e => by cases e), fun i _ => ⟨z, 0, rfl⟩, fun b off e i hi => by
    injection e with e
    injection e with e1 e2 _
    subst e1 e2
    have hi : i = 0 := by simpa using hi
    subst hi
    exact h.cell 0⟩
theorem OwnKZ.pushY {w : World} {base cap : Nat} {a : Option Addr} {l : List Int} (h : OwnKZ w base a cap l) {z : Nat} {x : Int} (hz : Blk w z 3 [.int .i64 x]) (ty : TypeId) (hn : l.length + 1 ≤ 1099511627780) (hb : base ≤ w.heap.size) :
    ∃ a' c' w', (Builtin.append_ #[35, 35] ty #[.slice a l.length cap, .slice (some ⟨z, 0, none⟩) 1 1]).run Try.prog w = .ok (.slice a' (l ++ [x]).length c') w' ∧
      OwnKZ w' base a' c' (l ++ [x]) ∧ w.grownBy w' (Value.slice a l.length cap).ownBlock ∧ (∀ g, (Value.slice a' (l ++ [x]).length c').ownBlock = some g → (Value.slice a l.length cap).ownBlock = some g ∨ g = w.heap.size) := by
  obtain ⟨a', c', w', hrun, ho, hg, hw⟩ := h.app2 ⟨z, 0, none⟩ 1 [x] (ints_blk hz) ty hn hb
  refine ⟨a', c', w', by rw [List.length_append]; exact hrun, ho, hg, fun g e => ?_⟩
  rw [List.length_append] at e
  rcases hw with hw | hw
  · exact .inl (hw.symm.trans e)
  · exact .inr (Option.some.inj (e.symm.trans hw))
/-- A tree's tokens, and their places. -/
def y1 (h : TrH) (kids : TrF) : List Int := if 0 ≤ h.k then [h.k] else kids.yt
def y2 (h : TrH) (kids : TrF) : List Int := if 0 ≤ h.k then [h.a] else kids.ya
end Go.Proofs.Ythogiakfbgehnaa

namespace Go.Proofs.Ythogiakfbgehnaa
open Go.RowKit Go.Shelf

attribute [local go_sem] Oper.semAt_some

/-- An own row of numbers is no block that the iterator writes. -/
theorem own_neZ {W : World} {base cap : Nat} {a : Option Addr} {l : List Int} (h : OwnKZ W base a cap l) {T : TypeId → Bool} (he : T 3 = false) {r : Nat} {o : Obj} (ho : W.heap[r]? = some o) (ht : Turns T o) : (Value.slice a l.length cap).ownBlock ≠ some r := by
  intro hv
  rcases h.2 with ⟨e, _⟩ | ⟨g, cp, cur, e, hb, hg, _⟩
  · rw [e] at hv
    simp [Value.ownBlock] at hv
  · rw [e] at hv
    simp only [Value.ownBlock, Option.some.injEq] at hv
    subst hv
    rw [ho] at hg
    cases hg
    rcases ht with hc | ⟨cs, t', fr, e2, ht'⟩
    · cases hc
    · cases e2; rw [he] at ht'; cases ht'
/-- It lies from base on, and holds numbers. -/
theorem own_atZ {W : World} {base cap : Nat} {a : Option Addr} {l : List Int} (h : OwnKZ W base a cap l) {r : Nat} (hv : (Value.slice a l.length cap).ownBlock = some r) : base ≤ r ∧ ∃ cur fr, W.heap[r]? = some (.cells cur 3 fr) := by
  rcases h.2 with ⟨e, _⟩ | ⟨g, cp, cur, e, hb, hg, _⟩
  · rw [e] at hv
    simp [Value.ownBlock] at hv
  · rw [e] at hv
    simp only [Value.ownBlock, Option.some.injEq] at hv
    subst hv
    exact ⟨hb, _, _, hg⟩
/-- Between two rounds: what was taken of the nodes so far. -/
def YldI (q : NdT → Option Int) (w : World) (pre : List NxT) (W : World) : Prop :=
  Below w.heap.size w W ∧ pre.length ≤ 1099511627777 ∧ ∃ ta tc xs, xs = (pre.map (·.nd)).filterMap q ∧ Boxed W (w.heap.size + 1) 35 (.slice ta xs.length tc) ∧ OwnKZ W w.heap.size ta tc xs
theorem bears_yld (q : NdT → Option Int) (w : World) (B : Nat) (hB : w.heap.size ≤ B) : Bears B itTT (YldI q w) := by
  rintro s W W' row ⟨h1, hp, ta, tc, xs, h2, h3, h4⟩ hg hr
  refine ⟨h1.grown hg h1.size (fun k e => by have := (hr k e).1; omega), hp, ta, tc, xs, h2, ?_, ?_⟩
  · exact bears_boxed B _ _ (by decide) (fun _ : Unit => .slice ta xs.length tc) () W W' row h3 hg hr
  · refine h4.kept hg (fun r e => ?_)
    obtain ⟨_, o, ho, ht⟩ := hr r e
    exact own_neZ h4 (by decide) ho ht
theorem yld_len {q : NdT → Option Int} {pre : List NxT} : ((pre.map (·.nd)).filterMap q).length ≤ pre.length := by
  refine Nat.le_trans (List.length_filterMap_le _ _) ?_
  rw [List.length_map]
  exact Nat.le_refl _
/-- A number is put behind the row, and the row into its box. -/
theorem yld_push {w W2 W3 : World} {B : Nat} {ta : Option Addr} {tc : Nat} {xs : List Int} (hb : Below W2.heap.size W2 W3) (hB : Below w.heap.size w W3) (h1 : Boxed W3 (w.heap.size + 1) 35 (.slice ta xs.length tc)) (h2 : OwnKZ W3 w.heap.size ta tc xs)
    (g1 : w.heap.size + 1 < B) (hW2 : w.heap.size + 1 < W2.heap.size) (hn : xs.length + 1 ≤ 1099511627780) (x : Int) (h02 : OwnKZ W2 w.heap.size ta tc xs) (hx1 : Boxed W2 (w.heap.size + 1) 35 (.slice ta xs.length tc)) :
    ∃ a' c' w6, (Builtin.append_ #[35, 35] 35 #[.slice ta xs.length tc, .slice (some ⟨W3.heap.size, 0, none⟩) 1 1]).run Try.prog (W3.alloc (.cells #[.int .i64 x] 3)) = .ok (.slice a' (xs ++ [x]).length c') w6 ∧
      Boxed w6 (w.heap.size + 1) 35 (.slice ta xs.length tc) ∧
      (KeepsFrom B W2 (w6.setCell ⟨w.heap.size + 1, 0, none⟩ (.slice a' (xs ++ [x]).length c')) ∧ Spares w.heap.size itTT W2 (w6.setCell ⟨w.heap.size + 1, 0, none⟩ (.slice a' (xs ++ [x]).length c')) ∧
      Below w.heap.size w (w6.setCell ⟨w.heap.size + 1, 0, none⟩ (.slice a' (xs ++ [x]).length c')) ∧ Boxed (w6.setCell ⟨w.heap.size + 1, 0, none⟩ (.slice a' (xs ++ [x]).length c')) (w.heap.size + 1) 35 (.slice a' (xs ++ [x]).length c') ∧ OwnKZ (w6.setCell ⟨w.heap.size + 1, 0, none⟩ (.slice a' (xs ++ [x]).length c')) w.heap.size a' c' (xs ++ [x])) := by
  have hz : Blk (W3.alloc (.cells #[.int .i64 x] 3)) W3.heap.size 3 [.int .i64 x] := Blk.new W3 3 #[.int .i64 x]
  obtain ⟨a', c', w6, hrun, ho, hg, -⟩ := OwnKZ.pushY (World.ownsRow.alloc h2 (.cells #[.int .i64 x] 3)) hz 35 hn (by have := hB.size; simp; omega)
  have hgA : W2.grownBy w6 (Value.slice ta xs.length tc).ownBlock := grownBy_trans (grownBy_trans (below_grownBy hb _) (World.grownBy_alloc W3 (.cells #[.int .i64 x] 3) none) (fun i e => by cases e)) hg (fun i e => .inl e)
  have hb6 : Boxed w6 (w.heap.size + 1) 35 (.slice ta xs.length tc) := hx1.kept hgA (fun e => own_neZ h02 (T := fun t => t == 35) (by decide) hx1 (.inr ⟨_, _, _, rfl, by decide⟩) e.symm)
  have hg2 := grownBy_set w6 (w.heap.size + 1) 0 (.slice a' (xs ++ [x]).length c')
  have hbw : Below w.heap.size w w6 := hB.trans (((Below.refl w.heap.size W3).alloc hB.size _).grown hg (by have := hB.size; simp; omega) (fun k e => by have := (own_atZ h2 e).1; omega))
  refine ⟨a', c', w6, hrun, hb6, ⟨?_, ?_, hbw.setCell (p := ⟨w.heap.size + 1, 0, none⟩) (by simp) _, hb6.set _, ho.kept hg2 (fun g e => ?_)⟩⟩
  · refine KeepsFrom.trans (Y := w6) ⟨hgA.size, fun i o hi ho' hc => ?_⟩ ((KeepsOthers.setCell w6 _ _).from _)
    exact (hgA.block i (Array.getElem?_eq_some_iff.1 ho').1 (fun e => own_neZ h02 (T := fun _ => false) rfl ho' (.inl hc) e.symm)).trans ho'
  · refine (Spares.grown hgA (by omega) (fun r e => ⟨(own_atZ h02 e).1, fun cs t fr hcs => ?_⟩)).trans (Spares.grown hg2 hbw.size (fun r e => by cases e; exact ⟨by omega, fun cs t fr hcs => by rw [show w6.heap[w.heap.size + 1]? = _ from hb6] at hcs; cases hcs; decide⟩))
    obtain ⟨_, cur, fr', hcur⟩ := own_atZ h02 e
    rw [hcur] at hcs
    cases hcs
    decide
  · cases e
    exact own_neZ ho (T := fun t => t == 35) (by decide) hb6 (.inr ⟨_, _, _, rfl, by decide⟩)
end Go.Proofs.Ythogiakfbgehnaa

namespace Go.Proofs.Ythogiakfbgehnaa
open Go.RowKit Go.Shelf

attribute [local go_sem] Oper.semAt_some

theorem wpListIn_append_runT {l n : Nat} {P : Program} {w : World} {ops : Array Oper} {rest : List Oper} {o : Oper} {a : Act} {Q : Exit → Act → World → Prop} (hg : o.guard = none) (s x : Operand) (t t2 : TypeId)
    (hop : o.op = Op.call { callee := Callee.builtin Builtin.append, args := #[s, x], argTypes := #[t, t2] }) (vs vx v' : Value) (w' : World) (hs : a.eval s = vs) (hx : a.eval x = vx)
    (hrun : (Builtin.append_ #[t, t2] o.type #[vs, vx]).run P w = .ok v' w') (hK : wpListIn (Fence.wide.inRound l) n P ops Q rest (a.put o.dst v') w') : wpListIn (Fence.wide.inRound l) n P ops Q (o :: rest) a w := by
  refine wpListIn_plain hg fun K' hK' => ?_
  unfold Oper.wpIn
  refine ⟨fun _ _ => trivial, ?_⟩
  rw [Oper.semAt_eq _ _ _ (by rw [hop]; intro c hc; cases hc)]
  simp [execOp, hop, resolve, invoke, builtin, hs, hx, hrun, Result.andThen]
  exact hK' _ _ hK
set_option maxRecDepth 100000 in
set_option maxHeartbeats 8000000 in
theorem tyield_any (h : TrH) (kids : TrF) (a : Option Addr) (cap : Nat) (w : World) (hk : TrS w (fun _ => True) a cap kids) (hN : kids.size ≤ 1099511627770) :
    Calls Try.prog 53 #[treV h a kids.len cap] w fun e w' => ∃ ra rc, e = .returned (.slice ra (TrF.yt (.cons h kids .nil)).length rc) ∧ OwnKZ w' w.heap.size ra rc (TrF.yt (.cons h kids .nil)) ∧ Below w.heap.size w w' := by
  have hN' : kids.size ≤ 1099511627776 := by omega
  have HD := Lib.hid (fun V => derived_any h a kids.len cap V)
  refine (callsIn_wide (n := 0)).1 ?_
  refine callsIn_of_wp_marks Try.func53 rfl trivial ?_ rfl
  simp only [Try.ntmps53, List.size_toArray, List.length_cons, List.length_nil, Nat.reduceAdd, Nat.reduceSub, Array.replicate_succ, Array.replicate_zero, List.push_toArray, List.append_toArray, List.nil_append, List.cons_append]
  gi_wp2_with (fail)
  refine ⟨trivial, rfl, ((callsIn_wide (n := 0)).2 (HD.out _)).mono ?_⟩
  rintro e w' ⟨rfl, rfl⟩
  gi_wp2_with (fail)
  clear HD
  unfold derW
  have hbel : Below w.heap.size w (((((w.alloc (.cells #[.int .i64 h.k, .int .i64 h.i, .int .i64 h.a, .slice a kids.len cap] 51)).alloc (.cells #[.slice none 0 0] 35)).alloc (.cells #[.int .i64 h.k, .int .i64 h.i, .int .i64 h.a, .slice a kids.len cap] 51)).alloc (.cells #[.int .i64 h.k, .int .i64 h.i, .int .i64 h.a, .slice a kids.len cap] 51)).alloc (.cells #[inVT 131] 135)) := (((((Below.refl _ w).alloc (Nat.le_refl _) _).alloc (by simp) _).alloc (by simp; omega) _).alloc (by simp; omega) _).alloc (by simp; omega) _
  have hB3 := (Blk.new (((w.alloc (.cells #[.int .i64 h.k, .int .i64 h.i, .int .i64 h.a, .slice a kids.len cap] 51)).alloc (.cells #[.slice none 0 0] 35)).alloc (.cells #[.int .i64 h.k, .int .i64 h.i, .int .i64 h.a, .slice a kids.len cap] 51)) 51 #[.int .i64 h.k, .int .i64 h.i, .int .i64 h.a, .slice a kids.len cap]).alloc (.cells #[inVT 131] 135)
  have hBi := World.alloc_heap_new ((((w.alloc (.cells #[.int .i64 h.k, .int .i64 h.i, .int .i64 h.a, .slice a kids.len cap] 51)).alloc (.cells #[.slice none 0 0] 35)).alloc (.cells #[.int .i64 h.k, .int .i64 h.i, .int .i64 h.a, .slice a kids.len cap] 51)).alloc (.cells #[.int .i64 h.k, .int .i64 h.i, .int .i64 h.a, .slice a kids.len cap] 51)) (.cells #[inVT 131] 135)
  rw [World.size_alloc, World.size_alloc, World.size_alloc, World.size_alloc] at hBi
  have hb1 : Boxed (((((w.alloc (.cells #[.int .i64 h.k, .int .i64 h.i, .int .i64 h.a, .slice a kids.len cap] 51)).alloc (.cells #[.slice none 0 0] 35)).alloc (.cells #[.int .i64 h.k, .int .i64 h.i, .int .i64 h.a, .slice a kids.len cap] 51)).alloc (.cells #[.int .i64 h.k, .int .i64 h.i, .int .i64 h.a, .slice a kids.len cap] 51)).alloc (.cells #[inVT 131] 135)) (w.heap.size + 1) 35 (.slice none 0 0) := by
    have := (Boxed.new (w.alloc (.cells #[.int .i64 h.k, .int .i64 h.i, .int .i64 h.a, .slice a kids.len cap] 51)) 35 (.slice none 0 0))
    rw [World.size_alloc] at this
    exact ((this.alloc _).alloc _).alloc _
  rw [World.size_alloc, World.size_alloc, World.size_alloc] at hB3
  have hws : ((((((w.alloc (.cells #[.int .i64 h.k, .int .i64 h.i, .int .i64 h.a, .slice a kids.len cap] 51)).alloc (.cells #[.slice none 0 0] 35)).alloc (.cells #[.int .i64 h.k, .int .i64 h.i, .int .i64 h.a, .slice a kids.len cap] 51)).alloc (.cells #[.int .i64 h.k, .int .i64 h.i, .int .i64 h.a, .slice a kids.len cap] 51)).alloc (.cells #[inVT 131] 135))).heap.size = w.heap.size + 1 + 1 + 1 + 1 + 1 := by simp
  rw [show derV ((w.alloc (.cells #[.int .i64 h.k, .int .i64 h.i, .int .i64 h.a, .slice a kids.len cap] 51)).alloc (.cells #[.slice none 0 0] 35)) = .func (.func 143) #[] #[.pointer (some ⟨w.heap.size + 1 + 1 + 1, 0, none⟩), .pointer (some ⟨w.heap.size + 1 + 1 + 1 + 1, 0, none⟩)] from by unfold derV; rw [World.size_alloc, World.size_alloc]]
  generalize (((((w.alloc (.cells #[.int .i64 h.k, .int .i64 h.i, .int .i64 h.a, .slice a kids.len cap] 51)).alloc (.cells #[.slice none 0 0] 35)).alloc (.cells #[.int .i64 h.k, .int .i64 h.i, .int .i64 h.a, .slice a kids.len cap] 51)).alloc (.cells #[.int .i64 h.k, .int .i64 h.i, .int .i64 h.a, .slice a kids.len cap] 51)).alloc (.cells #[inVT 131] 135)) = wl at hbel hB3 hBi hb1 hws ⊢
  have Hws := Lib.hid hws
  clear hws
  refine range_law (T := itTT) (n₀ := w.heap.size) (encs := encsT) (Good := GoodT w (TrF.pre true 1 (.cons h kids .nil))) (Full := FullT (TrF.pre true 1 (.cons h kids .nil))) (gf := 143) (lb := #[.pointer (some ⟨w.heap.size + 1 + 1 + 1, 0, none⟩), .pointer (some ⟨w.heap.size + 1 + 1 + 1 + 1, 0, none⟩)]) rfl (enters_of Try.func143 (by kernel_rfl) rfl)
    hbel.size (all_walksD w wl (w.heap.size + 1 + 1 + 1) (w.heap.size + 1 + 1 + 1 + 1) h kids a cap hk hbel hN' (hB3.cell 0) (hB3.cell 1) (hB3.cell 2) (hB3.cell 3) hBi) (fun _ => rfl)
    (YldI ndY w) (fun _ _ => False)
    ?bI ?bIx ?h0 ?round ?done ?stop
  case bI => exact bears_yld ndY w _ hbel.size
  case bIx => exact fun _ _ _ _ h => h.elim
  case h0 => exact ⟨hbel, Nat.zero_le _, none, 0, [], rfl, hb1, OwnKZ.nil _ _⟩
  case stop => rintro D pre W hD hgood hI; exact hI.elim
  case round =>
    rintro l pre ⟨⟨d, hd, kf⟩, xa, xcap⟩ W hl ⟨r, hr⟩ hI hgood
    obtain ⟨hB, h1, ta, tc, xs, hxs, hbx, ho⟩ := hI
    have hle : pre.length + 1 ≤ 1099511627771 := by
      obtain ⟨⟨q, hq⟩, -⟩ := hgood
      have h8 := congrArg List.length hq
      have h9 := TrF.pre_le true (.cons h kids .nil) 1
      rw [List.length_append, List.length_map, List.length_append] at h8
      simp only [List.length_singleton, TrF.size] at h8 h9
      omega
    have hxl : xs.length ≤ pre.length := by rw [hxs]; exact yld_len
    have Hxs := Lib.hid hxs
    clear hxs
    have hbl : w.heap.size + 1 < W.heap.size := (Array.getElem?_eq_some_iff.1 hbx).1
    have hlm := OwnKZ.le ho
    dsimp only [encsT, treV]
    obtain ⟨ln, hln⟩ : ∃ q, Hid (kf.len = q) := ⟨_, Lib.hid rfl⟩
    rw [hln.out]
    have hws : w.heap.size + 5 ≤ wl.heap.size := by have := Hws.out; omega
    have hle : pre.length + 1 ≤ 1099511627777 := by omega
    have hxl : xs.length + 1 ≤ 1099511627780 := by omega
    have hlW : l < W.heap.size := (Array.getElem?_eq_some_iff.1 hr).1
    have HIT := Lib.hid (fun V => isTok_any hd xa ln xcap V)
    gi_wp2_with (fail)
    refine ⟨(KeepsOthers.alloc W _).from _, Spares.grown (World.grownBy_alloc W _ none) hB.size (fun r e => by cases e), fun W2 hg2 => ?_⟩
    have hx := (Blk.new W 51 #[.int .i64 hd.k, .int .i64 hd.i, .int .i64 hd.a, .slice xa ln xcap]).kept hg2 (by simp; omega)
    have hb2 := (hbx.alloc (.cells #[.int .i64 hd.k, .int .i64 hd.i, .int .i64 hd.a, .slice xa ln xcap] 51)).kept hg2 (by simp; omega)
    have ho2 : OwnKZ W2 w.heap.size ta tc xs := OwnKZ.kept (World.ownsRow.alloc ho _) hg2 (fun g e => by cases e; exact own_neZ ho (T := fun _ => false) rfl hr (.inl rfl))
    have hB2 : Below w.heap.size w W2 := hB.trans (((Below.refl w.heap.size W).alloc hB.size _).grown hg2 (by have := hB.size; simp; omega) (fun k e => by cases e; omega))
    have hW2s : W.heap.size < W2.heap.size := hx.lt
    have hszB := hB.size
    have x0 := hx.cell 0
    have x1 := hx.cell 1
    have x2 := hx.cell 2
    have x3 := hx.cell 3
    simp only [List.getElem?_cons_zero, List.getElem?_cons_succ] at x0 x1 x2 x3
    have HX := Lib.hid hx
    clear hx hg2 hr hB hlW ho hbx
    gi_wp2_with (fail)
    refine ⟨trivial, rfl, ((callsIn_wide (n := 0)).2 (HIT.out _)).mono ?_⟩
    rintro e w3 ⟨rfl, hb3⟩
    clear HIT
    have hX3 := HX.out.below hb3 HX.out.lt
    have y0 := hX3.cell 0
    have y1 := hX3.cell 1
    have yl := hX3.lt
    simp only [List.getElem?_cons_zero, List.getElem?_cons_succ] at y0 y1
    have hb3x : Boxed w3 (w.heap.size + 1) 35 (.slice ta xs.length tc) := hb2.kept (below_grownBy hb3 none) (by simp)
    have ho3 : OwnKZ w3 w.heap.size ta tc xs := ho2.belowZ hb3
    have hB3 : Below w.heap.size w w3 := hB2.trans (hb3.mono hB2.size)
    have hs3 := hb3.size
    clear x0 x1 x2 x3 hX3 HX hB2
    by_cases h0 : 0 ≤ hd.k
    · have e0 : decide (0 ≤ hd.k) = true := decide_eq_true h0
      dsimp only
      rw [e0]
      have hq : Hid ((((pre ++ [⟨⟨d, hd, kf⟩, xa, xcap⟩] : List NxT)).map (·.nd)).filterMap ndY = xs ++ [hd.k]) := Lib.hid (by rw [List.map_append, List.filterMap_append, ← Hxs.out]; simp [ndY, h0])
      obtain ⟨a6, c6, w6, hrun, hb6, hfin⟩ := yld_push (B := wl.heap.size) hb3 hB3 hb3x ho3 (by omega) (by omega) (by omega) hd.k ho2 hb2
      obtain ⟨ys, hys⟩ : ∃ ys, Hid (xs ++ [hd.k] = ys) := ⟨_, Lib.hid rfl⟩
      rw [hys.out] at hrun hfin
      have hq := Lib.hid (hq.out.trans hys.out)
      have Hrun := Lib.hid hrun
      have HE : Hid (KeepsFrom wl.heap.size W2 (w6.setCell ⟨w.heap.size + 1, 0, none⟩ (.slice a6 ys.length c6)) ∧ Spares w.heap.size itTT W2 (w6.setCell ⟨w.heap.size + 1, 0, none⟩ (.slice a6 ys.length c6)) ∧ YldI ndY w (pre ++ [⟨⟨d, hd, kf⟩, xa, xcap⟩]) (w6.setCell ⟨w.heap.size + 1, 0, none⟩ (.slice a6 ys.length c6))) :=
        Lib.hid ⟨hfin.1, hfin.2.1, hfin.2.2.1, by rw [List.length_append]; exact hle, a6, c6, ys, hq.out.symm, hfin.2.2.2.1, hfin.2.2.2.2⟩
      have z0 := hb3x.cell
      have zl : w.heap.size + 1 < w3.heap.size := by omega
      have u0 := hb6.cell
      have uf := hb6.frozen
      clear hfin hrun hb6 hb3x ho3 hb2 ho2 hB3 hb3
      gi_wp2_with (gi_at_builtin; refine wpListIn_append_runT rfl _ _ 35 35 rfl _ _ _ _ rfl rfl Hrun.out ?_)
      exact HE.out
    · have e0 : decide (0 ≤ hd.k) = false := decide_eq_false h0
      dsimp only
      rw [e0]
      have hq : Hid ((((pre ++ [⟨⟨d, hd, kf⟩, xa, xcap⟩] : List NxT)).map (·.nd)).filterMap ndY = xs) := Lib.hid (by rw [List.map_append, List.filterMap_append, ← Hxs.out]; simp [ndY, h0])
      have HE : Hid (KeepsFrom wl.heap.size W2 w3 ∧ Spares w.heap.size itTT W2 w3 ∧ YldI ndY w (pre ++ [⟨⟨d, hd, kf⟩, xa, xcap⟩]) w3) :=
        Lib.hid ⟨KeepsFrom.of_grownBy (below_grownBy hb3 none) (fun r e => by cases e), Spares.grown (below_grownBy hb3 none) (by omega) (fun r e => by cases e), hB3, by rw [List.length_append]; exact hle, ta, tc, xs, hq.out.symm, hb3x, ho3⟩
      clear hb3x ho3 hb2 ho2 hB3 hb3
      gi_wp2_with (fail)
      exact HE.out
  case done =>
    rintro D xs W hD hfull hI hK
    obtain ⟨hB, h1, ta, tc, ys, hxs, hbx, ho⟩ := hI
    rw [show xs.map (·.nd) = _ from hfull, pre_yt] at hxs
    subst hxs
    have k1 := hbx.cell
    have f1 := hbx.frozen
    have hws : w.heap.size + 5 ≤ wl.heap.size := by have := Hws.out; omega
    clear hfull
    gi_wp2
    refine ⟨by simp, .inl ⟨_, _, rfl, run_takeDeferred hK, ?_⟩⟩
    refine ⟨.slice ta (TrF.yt (.cons h kids .nil)).length tc, ?_, ta, tc, rfl, ?_, hB.trans ((Below.refl w.heap.size _).grown (grownBy_putObj' _ D (.deferred none)) hB.size (fun k e => by cases e; omega))⟩
    · simp [results, Try.f53, go_sem]
    · exact OwnKZ.kept ho (grownBy_putObj' _ D (.deferred none)) (fun g e => by cases e; exact own_neZ ho (T := fun _ => false) rfl hK (.inl rfl))
set_option maxRecDepth 100000 in
set_option maxHeartbeats 8000000 in
theorem tsteps_any (h : TrH) (kids : TrF) (a : Option Addr) (cap : Nat) (w : World) (hk : TrS w (fun _ => True) a cap kids) (hN : kids.size ≤ 1099511627770) :
    Calls Try.prog 55 #[treV h a kids.len cap] w fun e w' => ∃ ra rc, e = .returned (.slice ra (TrF.st (.cons h kids .nil)).length rc) ∧ OwnKZ w' w.heap.size ra rc (TrF.st (.cons h kids .nil)) ∧ Below w.heap.size w w' := by
  have hN' : kids.size ≤ 1099511627776 := by omega
  have HD := Lib.hid (fun V => derived_any h a kids.len cap V)
  refine (callsIn_wide (n := 0)).1 ?_
  refine callsIn_of_wp_marks Try.func55 rfl trivial ?_ rfl
  simp only [Try.ntmps55, List.size_toArray, List.length_cons, List.length_nil, Nat.reduceAdd, Nat.reduceSub, Array.replicate_succ, Array.replicate_zero, List.push_toArray, List.append_toArray, List.nil_append, List.cons_append]
  gi_wp2_with (fail)
  refine ⟨trivial, rfl, ((callsIn_wide (n := 0)).2 (HD.out _)).mono ?_⟩
  rintro e w' ⟨rfl, rfl⟩
  gi_wp2_with (fail)
  clear HD
  unfold derW
  have hbel : Below w.heap.size w (((((w.alloc (.cells #[.int .i64 h.k, .int .i64 h.i, .int .i64 h.a, .slice a kids.len cap] 51)).alloc (.cells #[.slice none 0 0] 35)).alloc (.cells #[.int .i64 h.k, .int .i64 h.i, .int .i64 h.a, .slice a kids.len cap] 51)).alloc (.cells #[.int .i64 h.k, .int .i64 h.i, .int .i64 h.a, .slice a kids.len cap] 51)).alloc (.cells #[inVT 131] 135)) := (((((Below.refl _ w).alloc (Nat.le_refl _) _).alloc (by simp) _).alloc (by simp; omega) _).alloc (by simp; omega) _).alloc (by simp; omega) _
  have hB3 := (Blk.new (((w.alloc (.cells #[.int .i64 h.k, .int .i64 h.i, .int .i64 h.a, .slice a kids.len cap] 51)).alloc (.cells #[.slice none 0 0] 35)).alloc (.cells #[.int .i64 h.k, .int .i64 h.i, .int .i64 h.a, .slice a kids.len cap] 51)) 51 #[.int .i64 h.k, .int .i64 h.i, .int .i64 h.a, .slice a kids.len cap]).alloc (.cells #[inVT 131] 135)
  have hBi := World.alloc_heap_new ((((w.alloc (.cells #[.int .i64 h.k, .int .i64 h.i, .int .i64 h.a, .slice a kids.len cap] 51)).alloc (.cells #[.slice none 0 0] 35)).alloc (.cells #[.int .i64 h.k, .int .i64 h.i, .int .i64 h.a, .slice a kids.len cap] 51)).alloc (.cells #[.int .i64 h.k, .int .i64 h.i, .int .i64 h.a, .slice a kids.len cap] 51)) (.cells #[inVT 131] 135)
  rw [World.size_alloc, World.size_alloc, World.size_alloc, World.size_alloc] at hBi
  have hb1 : Boxed (((((w.alloc (.cells #[.int .i64 h.k, .int .i64 h.i, .int .i64 h.a, .slice a kids.len cap] 51)).alloc (.cells #[.slice none 0 0] 35)).alloc (.cells #[.int .i64 h.k, .int .i64 h.i, .int .i64 h.a, .slice a kids.len cap] 51)).alloc (.cells #[.int .i64 h.k, .int .i64 h.i, .int .i64 h.a, .slice a kids.len cap] 51)).alloc (.cells #[inVT 131] 135)) (w.heap.size + 1) 35 (.slice none 0 0) := by
    have := (Boxed.new (w.alloc (.cells #[.int .i64 h.k, .int .i64 h.i, .int .i64 h.a, .slice a kids.len cap] 51)) 35 (.slice none 0 0))
    rw [World.size_alloc] at this
    exact ((this.alloc _).alloc _).alloc _
  rw [World.size_alloc, World.size_alloc, World.size_alloc] at hB3
  have hws : ((((((w.alloc (.cells #[.int .i64 h.k, .int .i64 h.i, .int .i64 h.a, .slice a kids.len cap] 51)).alloc (.cells #[.slice none 0 0] 35)).alloc (.cells #[.int .i64 h.k, .int .i64 h.i, .int .i64 h.a, .slice a kids.len cap] 51)).alloc (.cells #[.int .i64 h.k, .int .i64 h.i, .int .i64 h.a, .slice a kids.len cap] 51)).alloc (.cells #[inVT 131] 135))).heap.size = w.heap.size + 1 + 1 + 1 + 1 + 1 := by simp
  rw [show derV ((w.alloc (.cells #[.int .i64 h.k, .int .i64 h.i, .int .i64 h.a, .slice a kids.len cap] 51)).alloc (.cells #[.slice none 0 0] 35)) = .func (.func 143) #[] #[.pointer (some ⟨w.heap.size + 1 + 1 + 1, 0, none⟩), .pointer (some ⟨w.heap.size + 1 + 1 + 1 + 1, 0, none⟩)] from by unfold derV; rw [World.size_alloc, World.size_alloc]]
  generalize (((((w.alloc (.cells #[.int .i64 h.k, .int .i64 h.i, .int .i64 h.a, .slice a kids.len cap] 51)).alloc (.cells #[.slice none 0 0] 35)).alloc (.cells #[.int .i64 h.k, .int .i64 h.i, .int .i64 h.a, .slice a kids.len cap] 51)).alloc (.cells #[.int .i64 h.k, .int .i64 h.i, .int .i64 h.a, .slice a kids.len cap] 51)).alloc (.cells #[inVT 131] 135)) = wl at hbel hB3 hBi hb1 hws ⊢
  have Hws := Lib.hid hws
  clear hws
  refine range_law (T := itTT) (n₀ := w.heap.size) (encs := encsT) (Good := GoodT w (TrF.pre true 1 (.cons h kids .nil))) (Full := FullT (TrF.pre true 1 (.cons h kids .nil))) (gf := 143) (lb := #[.pointer (some ⟨w.heap.size + 1 + 1 + 1, 0, none⟩), .pointer (some ⟨w.heap.size + 1 + 1 + 1 + 1, 0, none⟩)]) rfl (enters_of Try.func143 (by kernel_rfl) rfl)
    hbel.size (all_walksD w wl (w.heap.size + 1 + 1 + 1) (w.heap.size + 1 + 1 + 1 + 1) h kids a cap hk hbel hN' (hB3.cell 0) (hB3.cell 1) (hB3.cell 2) (hB3.cell 3) hBi) (fun _ => rfl)
    (YldI ndS w) (fun _ _ => False)
    ?bI ?bIx ?h0 ?round ?done ?stop
  case bI => exact bears_yld ndS w _ hbel.size
  case bIx => exact fun _ _ _ _ h => h.elim
  case h0 => exact ⟨hbel, Nat.zero_le _, none, 0, [], rfl, hb1, OwnKZ.nil _ _⟩
  case stop => rintro D pre W hD hgood hI; exact hI.elim
  case round =>
    rintro l pre ⟨⟨d, hd, kf⟩, xa, xcap⟩ W hl ⟨r, hr⟩ hI hgood
    obtain ⟨hB, h1, ta, tc, xs, hxs, hbx, ho⟩ := hI
    have hle : pre.length + 1 ≤ 1099511627771 := by
      obtain ⟨⟨q, hq⟩, -⟩ := hgood
      have h8 := congrArg List.length hq
      have h9 := TrF.pre_le true (.cons h kids .nil) 1
      rw [List.length_append, List.length_map, List.length_append] at h8
      simp only [List.length_singleton, TrF.size] at h8 h9
      omega
    have hxl : xs.length ≤ pre.length := by rw [hxs]; exact yld_len
    have Hxs := Lib.hid hxs
    clear hxs
    have hbl : w.heap.size + 1 < W.heap.size := (Array.getElem?_eq_some_iff.1 hbx).1
    have hlm := OwnKZ.le ho
    dsimp only [encsT, treV]
    obtain ⟨ln, hln⟩ : ∃ q, Hid (kf.len = q) := ⟨_, Lib.hid rfl⟩
    rw [hln.out]
    have hws : w.heap.size + 5 ≤ wl.heap.size := by have := Hws.out; omega
    have hle : pre.length + 1 ≤ 1099511627777 := by omega
    have hxl : xs.length + 1 ≤ 1099511627780 := by omega
    have hlW : l < W.heap.size := (Array.getElem?_eq_some_iff.1 hr).1
    have HIT := Lib.hid (fun V => isTok_any hd xa ln xcap V)
    gi_wp2_with (fail)
    refine ⟨(KeepsOthers.alloc W _).from _, Spares.grown (World.grownBy_alloc W _ none) hB.size (fun r e => by cases e), fun W2 hg2 => ?_⟩
    have hx := (Blk.new W 51 #[.int .i64 hd.k, .int .i64 hd.i, .int .i64 hd.a, .slice xa ln xcap]).kept hg2 (by simp; omega)
    have hb2 := (hbx.alloc (.cells #[.int .i64 hd.k, .int .i64 hd.i, .int .i64 hd.a, .slice xa ln xcap] 51)).kept hg2 (by simp; omega)
    have ho2 : OwnKZ W2 w.heap.size ta tc xs := OwnKZ.kept (World.ownsRow.alloc ho _) hg2 (fun g e => by cases e; exact own_neZ ho (T := fun _ => false) rfl hr (.inl rfl))
    have hB2 : Below w.heap.size w W2 := hB.trans (((Below.refl w.heap.size W).alloc hB.size _).grown hg2 (by have := hB.size; simp; omega) (fun k e => by cases e; omega))
    have hW2s : W.heap.size < W2.heap.size := hx.lt
    have hszB := hB.size
    have x0 := hx.cell 0
    have x1 := hx.cell 1
    have x2 := hx.cell 2
    have x3 := hx.cell 3
    simp only [List.getElem?_cons_zero, List.getElem?_cons_succ] at x0 x1 x2 x3
    have HX := Lib.hid hx
    clear hx hg2 hr hB hlW ho hbx
    gi_wp2_with (fail)
    refine ⟨trivial, rfl, ((callsIn_wide (n := 0)).2 (HIT.out _)).mono ?_⟩
    rintro e w3 ⟨rfl, hb3⟩
    clear HIT
    have hX3 := HX.out.below hb3 HX.out.lt
    have y0 := hX3.cell 0
    have y1 := hX3.cell 1
    have yl := hX3.lt
    simp only [List.getElem?_cons_zero, List.getElem?_cons_succ] at y0 y1
    have hb3x : Boxed w3 (w.heap.size + 1) 35 (.slice ta xs.length tc) := hb2.kept (below_grownBy hb3 none) (by simp)
    have ho3 : OwnKZ w3 w.heap.size ta tc xs := ho2.belowZ hb3
    have hB3 : Below w.heap.size w w3 := hB2.trans (hb3.mono hB2.size)
    have hs3 := hb3.size
    clear x0 x1 x2 x3 hX3 HX hB2
    by_cases h0 : 0 ≤ hd.k
    · have e0 : decide (0 ≤ hd.k) = true := decide_eq_true h0
      dsimp only
      rw [e0]
      have hq : Hid ((((pre ++ [⟨⟨d, hd, kf⟩, xa, xcap⟩] : List NxT)).map (·.nd)).filterMap ndS = xs) := Lib.hid (by rw [List.map_append, List.filterMap_append, ← Hxs.out]; simp [ndS, h0])
      have HE : Hid (KeepsFrom wl.heap.size W2 w3 ∧ Spares w.heap.size itTT W2 w3 ∧ YldI ndS w (pre ++ [⟨⟨d, hd, kf⟩, xa, xcap⟩]) w3) :=
        Lib.hid ⟨KeepsFrom.of_grownBy (below_grownBy hb3 none) (fun r e => by cases e), Spares.grown (below_grownBy hb3 none) (by omega) (fun r e => by cases e), hB3, by rw [List.length_append]; exact hle, ta, tc, xs, hq.out.symm, hb3x, ho3⟩
      clear hb3x ho3 hb2 ho2 hB3 hb3
      gi_wp2_with (fail)
      exact HE.out
    · have e0 : decide (0 ≤ hd.k) = false := decide_eq_false h0
      dsimp only
      rw [e0]
      have hq : Hid ((((pre ++ [⟨⟨d, hd, kf⟩, xa, xcap⟩] : List NxT)).map (·.nd)).filterMap ndS = xs ++ [hd.i]) := Lib.hid (by rw [List.map_append, List.filterMap_append, ← Hxs.out]; simp [ndS, h0])
      obtain ⟨a6, c6, w6, hrun, hb6, hfin⟩ := yld_push (B := wl.heap.size) hb3 hB3 hb3x ho3 (by omega) (by omega) (by omega) hd.i ho2 hb2
      obtain ⟨ys, hys⟩ : ∃ ys, Hid (xs ++ [hd.i] = ys) := ⟨_, Lib.hid rfl⟩
      rw [hys.out] at hrun hfin
      have hq := Lib.hid (hq.out.trans hys.out)
      have Hrun := Lib.hid hrun
      have HE : Hid (KeepsFrom wl.heap.size W2 (w6.setCell ⟨w.heap.size + 1, 0, none⟩ (.slice a6 ys.length c6)) ∧ Spares w.heap.size itTT W2 (w6.setCell ⟨w.heap.size + 1, 0, none⟩ (.slice a6 ys.length c6)) ∧ YldI ndS w (pre ++ [⟨⟨d, hd, kf⟩, xa, xcap⟩]) (w6.setCell ⟨w.heap.size + 1, 0, none⟩ (.slice a6 ys.length c6))) :=
        Lib.hid ⟨hfin.1, hfin.2.1, hfin.2.2.1, by rw [List.length_append]; exact hle, a6, c6, ys, hq.out.symm, hfin.2.2.2.1, hfin.2.2.2.2⟩
      have z0 := hb3x.cell
      have zl : w.heap.size + 1 < w3.heap.size := by omega
      have u0 := hb6.cell
      have uf := hb6.frozen
      clear hfin hrun hb6 hb3x ho3 hb2 ho2 hB3 hb3
      gi_wp2_with (gi_at_builtin; refine wpListIn_append_runT rfl _ _ 35 35 rfl _ _ _ _ rfl rfl Hrun.out ?_)
      exact HE.out
  case done =>
    rintro D xs W hD hfull hI hK
    obtain ⟨hB, h1, ta, tc, ys, hxs, hbx, ho⟩ := hI
    rw [show xs.map (·.nd) = _ from hfull, pre_st] at hxs
    subst hxs
    have k1 := hbx.cell
    have f1 := hbx.frozen
    have hws : w.heap.size + 5 ≤ wl.heap.size := by have := Hws.out; omega
    clear hfull
    gi_wp2
    refine ⟨by simp, .inl ⟨_, _, rfl, run_takeDeferred hK, ?_⟩⟩
    refine ⟨.slice ta (TrF.st (.cons h kids .nil)).length tc, ?_, ta, tc, rfl, ?_, hB.trans ((Below.refl w.heap.size _).grown (grownBy_putObj' _ D (.deferred none)) hB.size (fun k e => by cases e; omega))⟩
    · simp [results, Try.f55, go_sem]
    · exact OwnKZ.kept ho (grownBy_putObj' _ D (.deferred none)) (fun g e => by cases e; exact own_neZ ho (T := fun _ => false) rfl hK (.inl rfl))
end Go.Proofs.Ythogiakfbgehnaa

namespace Go.Proofs.Ythogiakfbgehnaa
open Go.RowKit Go.Maps

attribute [local go_sem] Oper.semAt_some

/-- A block that the iterator doesn't write is as it was. -/
theorem keep_heap {W W' : World} {B b : Nat} {row : Option Nat} {cs : Array Value} {t : TypeId} {fr : Nat × Nat} (h : W.heap[b]? = some (.cells cs t fr)) (ht : itTT t = false) (hg : W.grownBy W' row) (hr : ∀ r, row = some r → B ≤ r ∧ ∃ o, W.heap[r]? = some o ∧ Turns itTT o) : W'.heap[b]? = some (.cells cs t fr) := by
  refine (hg.block b (Array.getElem?_eq_some_iff.1 h).1 (fun e => ?_)).trans h
  obtain ⟨_, o, ho, hT⟩ := hr b e.symm
  rw [h] at ho
  cases ho
  rcases hT with hc | ⟨cs', t', fr', e2, ht'⟩
  · cases hc
  · cases e2; rw [ht] at ht'; cases ht'
/-- What lies in memory all the while. -/
structure ChkM (w W : World) (cv : Array Value) (tv : Value) : Prop where
  bel : Below w.heap.size w W
  cfg : W.heap[w.heap.size]? = some (.cells cv 25 (0, 0))
  tks : W.heap[w.heap.size + 1 + 1]? = some (.cells #[tv] 35 (0, 0))
  res : W.heap[w.heap.size + 1 + 1 + 1]? = some (.cells #[.bool false] 4 (0, 0))
theorem ChkM.grown {w W W' : World} {cv : Array Value} {tv : Value} {B : Nat} {row : Option Nat} (h : ChkM w W cv tv) (hB : w.heap.size ≤ B) (hg : W.grownBy W' row) (hr : ∀ r, row = some r → B ≤ r ∧ ∃ o, W.heap[r]? = some o ∧ Turns itTT o) : ChkM w W' cv tv :=
  ⟨h.bel.grown hg h.bel.size (fun k e => by have := (hr k e).1; omega), keep_heap h.cfg (by decide) hg hr, keep_heap h.tks (by decide) hg hr, keep_heap h.res (by decide) hg hr⟩
def ChkI (d : CfD) (toks : List Int) (w : World) (cv : Array Value) (tv : Value) (pre : List NxT) (W : World) : Prop :=
  ChkM w W cv tv ∧ ∃ c, ChkP d toks (pre.map (·.nd)) c ∧ W.heap[w.heap.size + 1 + 1 + 1 + 1]? = some (.cells #[.int .i64 (c : Int)] 3 (0, 0))
def ChkX (d : CfD) (h : TrH) (kids : TrF) (toks : List Int) (w : World) (cv : Array Value) (tv : Value) (_ : List NxT) (W : World) : Prop :=
  ChkM w W cv tv ∧ ¬ ChkD d h kids toks
theorem bears_chk (d : CfD) (toks : List Int) (w : World) (cv : Array Value) (tv : Value) (B : Nat) (hB : w.heap.size ≤ B) : Bears B itTT (ChkI d toks w cv tv) := by
  rintro s W W' row ⟨h1, c, h2, h3⟩ hg hr
  exact ⟨h1.grown hB hg hr, c, h2, keep_heap h3 (by decide) hg hr⟩
theorem bears_chx (d : CfD) (h : TrH) (kids : TrF) (toks : List Int) (w : World) (cv : Array Value) (tv : Value) (B : Nat) (hB : w.heap.size ≤ B) : Bears B itTT (ChkX d h kids toks w cv tv) := by
  rintro s W W' row ⟨h1, h2⟩ hg hr
  exact ⟨h1.grown hB hg hr, h2⟩
end Go.Proofs.Ythogiakfbgehnaa

