/- Texts joined: Tf Tg. -/
import Derived.Test.YthogiakfbgehnaaREAj
set_option linter.unusedVariables false
set_option linter.unusedSimpArgs false
namespace Go.Proofs.Ythogiakfbgehnaa
open Go.RowKit Go.Maps

attribute [local go_sem] Oper.semAt_some

/-- An alternative of the rule of a number, if there is one: a rule has a name, too. -/
def altD (d : CfD) (k i : Int) : Option IltD := match d.alts[ruL k]? with
  | none => none
  | some ru => if ruL k < d.names.length ∧ 0 ≤ i then ru.ds[i.toNat]? else none
def altR : Option IltD → Value
  | none => .tuple #[.slice none 0 0, .bool false]
  | some x => .tuple #[x.v, .bool true]
set_option maxRecDepth 100000 in
set_option maxHeartbeats 16000000 in
theorem isTok_any (h : TrH) (a : Option Addr) (n c : Nat) (w : World) :
    Calls Try.prog 97 #[treV h a n c] w fun e W => e = .returned (.bool (decide (0 ≤ h.k))) ∧ Below w.heap.size w W := by
  obtain ⟨hk, hn, hs⟩ := h
  have hB := Blk.new w 51 #[.int .i64 hk, .int .i64 hn, .int .i64 hs, .slice a n c]
  have hb : Below w.heap.size w (w.alloc (.cells #[.int .i64 hk, .int .i64 hn, .int .i64 hs, .slice a n c] 51)) := (Below.refl _ _).alloc (Nat.le_refl _) _
  have x0 := hB.cell 0
  have xl := hB.lt
  simp only [List.getElem?_cons_zero] at x0
  have HF := Lib.hid hb
  clear hB hb
  by_cases h0 : 0 ≤ hk
  · have e0 : decide (0 ≤ hk) = true := decide_eq_true h0
    show Calls Try.prog 97 _ w (fun e W => e = .returned (.bool (decide (0 ≤ hk))) ∧ _)
    rw [e0]
    go_enter Try.func97, Try.ntmps97
    go_wp2_with (fail)
    first | exact ⟨rfl, HF.out⟩ | exact bodyPost_ret (v := .bool true) (by simp [results, Try.results97, go_sem]; try first | rfl | assumption | omega) rfl ⟨rfl, HF.out⟩
  · have e0 : decide (0 ≤ hk) = false := decide_eq_false h0
    show Calls Try.prog 97 _ w (fun e W => e = .returned (.bool (decide (0 ≤ hk))) ∧ _)
    rw [e0]
    go_enter Try.func97, Try.ntmps97
    go_wp2_with (fail)
    first | exact ⟨rfl, HF.out⟩ | exact bodyPost_ret (v := .bool false) (by simp [results, Try.results97, go_sem]; try first | rfl | assumption | omega) rfl ⟨rfl, HF.out⟩
set_option maxRecDepth 100000 in
set_option maxHeartbeats 16000000 in
theorem truleOf_any (k : Int) (w : World) (h : -9223372036854775808 ≤ k ∧ k ≤ 9223372036854775806) :
    Calls Try.prog 128 #[.int .i64 k] w fun e w' => e = .returned (.int .i64 (-1 - k)) ∧ w' = w := by
  have hw : IntKind.i64.wrap (-1 - k) = -1 - k := IntWalk.i64_in _ (by omega)
  go_enter Try.func128, Try.ntmps128
  go_wp2_with (fail)
  first | exact ⟨rfl, rfl⟩ | exact bodyPost_ret (v := .int .i64 (-1 - k)) (by simp [results, Try.results128, go_sem]; try first | rfl | assumption | omega) rfl ⟨rfl, rfl⟩
set_option maxRecDepth 100000 in
set_option maxHeartbeats 16000000 in
theorem kids_any (h : TrH) (a : Option Addr) (n c : Nat) (w : World) :
    Calls Try.prog 105 #[treV h a n c] w fun e W => e = .returned (.slice a n c) ∧ W = w.alloc (.cells #[.int .i64 h.k, .int .i64 h.i, .int .i64 h.a, .slice a n c] 51) := by
  obtain ⟨hk, hn, hs⟩ := h
  go_enter Try.func105, Try.ntmps105
  go_wp2
  go_ret
  exact ⟨rfl, rfl⟩
set_option maxRecDepth 100000 in
set_option maxHeartbeats 16000000 in
theorem altOf_any (d : CfD) (k i : Int) (w : World) (hd : CfAt w d) (hk : -9223372036854775808 ≤ k ∧ k < 0) :
    Calls Try.prog 132 #[d.v, .int .i64 k, .int .i64 i] w fun e W => e = .returned (altR (altD d k i)) ∧ Below w.heap.size w W := by
  obtain ⟨xt, xta, xtc, xn, xna, xnc, xa, xaa, xac⟩ := d
  obtain ⟨r, hr⟩ : ∃ r : Nat, (r : Int) = -1 - k := ⟨(-1 - k).toNat, by omega⟩
  have hrl : ruL k = r := by unfold ruL; omega
  obtain ⟨R, HR⟩ : ∃ q, Hid (altR (altD ⟨xt, xta, xtc, xn, xna, xnc, xa, xaa, xac⟩ k i) = q) := ⟨_, Lib.hid rfl⟩
  have HR2 := HR.out
  unfold altD at HR2
  rw [hrl] at HR2
  dsimp only at HR2
  rw [HR.out]
  have hrE : -1 - k = (r : Int) := hr.symm
  have hwr : IntKind.i64.wrap (r : Int) = (r : Int) := IntWalk.i64_in _ (by omega)
  dsimp only [CfD.v] at *
  have hb : Below w.heap.size w (w.alloc (.cells #[.slice xta xt.length xtc, .slice xna xn.length xnc, .slice xaa xa.length xac] 25)) := (Below.refl _ w).alloc (Nat.le_refl _) _
  have hA := Blk.new w 25 #[.slice xta xt.length xtc, .slice xna xn.length xnc, .slice xaa xa.length xac]
  have hdA := hd.alts
  have hdR := hd.rules
  dsimp only at hdA hdR
  have hxm : xa.length ≤ xac ∧ xac ≤ 9223372036854775807 := ⟨by have := hdA.le; rwa [List.length_map] at this, hdA.max⟩
  obtain ⟨T, HT⟩ : ∃ q, Hid (xt.length = q) := ⟨_, Lib.hid rfl⟩
  obtain ⟨N, HN⟩ : ∃ q, Hid (xn.length = q) := ⟨_, Lib.hid rfl⟩
  obtain ⟨L, HL⟩ : ∃ q, Hid (xa.length = q) := ⟨_, Lib.hid rfl⟩
  rw [HT.out, HN.out, HL.out] at hA hb ⊢
  rw [HL.out] at hxm
  rw [HN.out] at HR2
  have x0 := hA.cell 0
  have x1 := hA.cell 1
  have x2 := hA.cell 2
  have xl := hA.lt
  simp only [List.getElem?_cons_zero, List.getElem?_cons_succ] at x0 x1 x2
  have HF := Lib.hid hb
  have Hb := Lib.hid hb
  clear hA hb hd hr hrl
  by_cases h1 : (N : Int) ≤ (r : Int)
  · have HR : Hid (R = .tuple #[.slice none 0 0, .bool false]) := Lib.hid (by
      rw [← HR2]
      cases xa[r]? with
      | none => rfl
      | some ru => dsimp only; rw [if_neg (by omega)]; rfl)
    clear HR2 hdA hdR
    go_enter Try.func132, Try.ntmps132
    go_wp2_with (fail)
    refine (truleOf_any k _ (by omega)).mono ?_
    rintro e9 w9 ⟨rfl, rfl⟩
    rw [hrE]
    go_wp2_with (fail)
    first | exact ⟨by rw [HR.out], HF.out⟩ | exact bodyPost_ret (v := .tuple #[.slice none 0 0, .bool false]) (by simp [results, Try.results132, go_sem]; try first | rfl | assumption | omega) rfl ⟨by rw [HR.out], HF.out⟩
  by_cases h2 : (L : Int) ≤ (r : Int)
  · have HR : Hid (R = .tuple #[.slice none 0 0, .bool false]) := Lib.hid (by
      rw [← HR2, List.getElem?_eq_none (by rw [HL.out]; omega)]
      rfl)
    clear HR2 hdA hdR
    go_enter Try.func132, Try.ntmps132
    go_wp2_with (fail)
    refine (truleOf_any k _ (by omega)).mono ?_
    rintro e9 w9 ⟨rfl, rfl⟩
    rw [hrE]
    go_wp2_with (fail)
    first | exact ⟨by rw [HR.out], HF.out⟩ | exact bodyPost_ret (v := .tuple #[.slice none 0 0, .bool false]) (by simp [results, Try.results132, go_sem]; try first | rfl | assumption | omega) rfl ⟨by rw [HR.out], HF.out⟩
  have hra : r < xa.length := by rw [HL.out]; omega
  rw [List.getElem?_eq_getElem hra] at HR2
  dsimp only at HR2
  by_cases h3 : i < 0
  · have HR : Hid (R = .tuple #[.slice none 0 0, .bool false]) := Lib.hid (by
      rw [← HR2, if_neg (by omega)]
      rfl)
    clear HR2 hdA hdR
    go_enter Try.func132, Try.ntmps132
    go_wp2_with (fail)
    refine (truleOf_any k _ (by omega)).mono ?_
    rintro e9 w9 ⟨rfl, rfl⟩
    rw [hrE]
    go_wp2_with (fail)
    first | exact ⟨by rw [HR.out], HF.out⟩ | exact bodyPost_ret (v := .tuple #[.slice none 0 0, .bool false]) (by simp [results, Try.results132, go_sem]; try first | rfl | assumption | omega) rfl ⟨by rw [HR.out], HF.out⟩
  rw [if_pos (by omega)] at HR2
  obtain ⟨m, rfl⟩ : ∃ m : Nat, i = (m : Int) := ⟨i.toNat, by omega⟩
  rw [Int.toNat_natCast] at HR2
  obtain ⟨p, po, rfl⟩ := hdA.at_ r (by rw [List.length_map]; exact hra)
  have cp := hdA.cell p po rfl r (by rw [List.length_map]; exact hra)
  rw [List.getElem_map] at cp
  have hRu := hdR xa[r] (List.getElem_mem hra)
  obtain ⟨ru, hru⟩ : ∃ q, q = xa[r] := ⟨_, rfl⟩
  rw [← hru] at cp hRu HR2
  obtain ⟨rds, ra, rc⟩ := ru
  dsimp only at HR2 hRu
  change _ = some (Value.slice ra rds.length rc) at cp
  have hrm : rds.length ≤ rc ∧ rc ≤ 9223372036854775807 := ⟨by have := hRu.row.le; rwa [List.length_map] at this, hRu.row.max⟩
  obtain ⟨RL, hRL⟩ : ∃ q, Hid (rds.length = q) := ⟨_, Lib.hid rfl⟩
  rw [hRL.out] at cp hrm
  have cpW := cell_up Hb.out cp
  have hblp := World.block_lt_of_cell? _ _ cpW
  have hrI0 : (0 : Int) ≤ (r : Int) := by omega
  have hrI1 : (r : Int) < (L : Int) := by omega
  have hmI0 : (0 : Int) ≤ (m : Int) := by omega
  by_cases h4 : (RL : Int) ≤ (m : Int)
  · have HR : Hid (R = .tuple #[.slice none 0 0, .bool false]) := Lib.hid (by
      rw [← HR2, List.getElem?_eq_none (by rw [hRL.out]; omega)]
      rfl)
    clear HR2 hdA hdR hRu
    go_enter Try.func132, Try.ntmps132
    go_wp2_with (fail)
    refine (truleOf_any k _ (by omega)).mono ?_
    rintro e9 w9 ⟨rfl, rfl⟩
    rw [hrE]
    go_wp2_with (fail)
    first | exact ⟨by rw [HR.out], HF.out⟩ | exact bodyPost_ret (v := .tuple #[.slice none 0 0, .bool false]) (by simp [results, Try.results132, go_sem]; try first | rfl | assumption | omega) rfl ⟨by rw [HR.out], HF.out⟩
  have hma : m < rds.length := by rw [hRL.out]; omega
  rw [List.getElem?_eq_getElem hma] at HR2
  have HR : Hid (R = .tuple #[rds[m].v, .bool true]) := Lib.hid HR2.symm
  obtain ⟨q, qo, rfl⟩ := hRu.row.at_ m (by rw [List.length_map]; exact hma)
  have cq := hRu.row.cell q qo rfl m (by rw [List.length_map]; exact hma)
  rw [List.getElem_map] at cq
  have cqW := cell_up Hb.out cq
  have hblq := World.block_lt_of_cell? _ _ cqW
  have hmI1 : (m : Int) < (RL : Int) := by omega
  obtain ⟨al, hal⟩ : ∃ q, Hid (rds[m] = q) := ⟨_, Lib.hid rfl⟩
  rw [hal.out] at cqW HR
  obtain ⟨wl, wa, wc⟩ := al
  change _ = some (Value.slice wa wl.length wc) at cqW
  have HR : Hid (R = .tuple #[.slice wa wl.length wc, .bool true]) := HR
  clear HR2 hdA hdR hRu cp cq hru
  go_enter Try.func132, Try.ntmps132
  go_wp2_with (fail)
  refine (truleOf_any k _ (by omega)).mono ?_
  rintro e9 w9 ⟨rfl, rfl⟩
  rw [hrE]
  go_wp2_with (fail)
  first | exact ⟨by rw [HR.out], HF.out⟩ | exact bodyPost_ret (v := .tuple #[.slice wa wl.length wc, .bool true]) (by simp [results, Try.results132, go_sem]; try first | rfl | assumption | omega) rfl ⟨by rw [HR.out], HF.out⟩
end Go.Proofs.Ythogiakfbgehnaa

namespace Go.Proofs.Ythogiakfbgehnaa
open Go.RowKit Go.Maps

attribute [local go_sem] Oper.semAt_some

/-- Refused behind so many steps, or something, how many steps and tokens are behind it, and how many nodes may still be put. -/
inductive GwR (α : Type) where
  | bad (s : Nat) (e : Int)
  | ok (x : α) (s a left : Nat)
def GwR.bind {α β : Type} (r : GwR α) (f : α → Nat → Nat → Nat → GwR β) : GwR β :=
  match r with
  | .bad s e => .bad s e
  | .ok x s a n => f x s a n
theorem gwbind_assoc {α β γ : Type} (r : GwR α) (f : α → Nat → Nat → Nat → GwR β) (g : β → Nat → Nat → Nat → GwR γ) : (r.bind f).bind g = r.bind (fun x s a n => (f x s a n).bind g) := by cases r <;> rfl
def gwSeq (f : Int → Nat → Nat → Nat → GwR Tre) : List Int → Nat → Nat → Nat → GwR TrF
  | [], s, a, n => .ok .nil s a n
  | k :: ks, s, a, n => (f k s a n).bind fun x s a n => (gwSeq f ks s a n).bind fun l s a n => .ok (x.con l) s a n
/-- Putting a symbol by steps, where so many nodes may still be put. -/
def gwPut (d : CfD) (st : List Int) : Nat → Int → Nat → Nat → Nat → GwR Tre
  | 0, _, s, _, _ => .bad s 2
  | m + 1, k, s, a, n =>
    if n = 0 then .bad s 2
    else if 0 ≤ k then .ok ⟨k, 0, (a : Int), .nil⟩ s (a + 1) (n - 1)
    else match st[s]? with
      | none => .bad s 110
      | some i => match altD d k i with
        | none => .bad s 110
        | some al => (gwSeq (gwPut d st m) al.l (s + 1) a (n - 1)).bind fun l s a n => .ok ⟨k, i, 0, l⟩ s a n
theorem gwseq_cons {f : Int → Nat → Nat → Nat → GwR Tre} {k : Int} {ks : List Int} {s a n : Nat} : gwSeq f (k :: ks) s a n = (f k s a n).bind fun x s a n => (gwSeq f ks s a n).bind fun l s a n => .ok (x.con l) s a n := rfl
/-- What an answer keeps: places go on, nodes grow fewer; tokens and nodes together grow no more. -/
structure GwK (T s a n s' a' n' : Nat) : Prop where
  s1 : s ≤ s'
  s2 : s' ≤ T
  a1 : a ≤ a'
  n1 : n' ≤ n
  an : a' + n' ≤ a + n
theorem gwseq_k {T : Nat} {f : Int → Nat → Nat → Nat → GwR Tre} (hf : ∀ k s a n x s' a' n', s ≤ T → f k s a n = .ok x s' a' n' → GwK T s a n s' a' n' ∧ n' + 1 ≤ n) : ∀ (ks : List Int) (s a n : Nat) {l s' a' n'}, s ≤ T → gwSeq f ks s a n = .ok l s' a' n' → GwK T s a n s' a' n'
  | [], s, a, n, l, s', a', n', hs, h => by
    unfold gwSeq at h
    injection h with _ h1 h2 h3
    subst h1 h2 h3
    exact ⟨Nat.le_refl _, hs, Nat.le_refl _, Nat.le_refl _, Nat.le_refl _⟩
  | k :: ks, s, a, n, l, s', a', n', hs, h => by
    rw [gwseq_cons] at h
    cases e : f k s a n with
    | bad c x => rw [e] at h; cases h
    | ok x s2 a2 n2 =>
      rw [e] at h
      obtain ⟨h1, _⟩ := hf k s a n x s2 a2 n2 hs e
      change (gwSeq f ks s2 a2 n2).bind _ = _ at h
      cases e2 : gwSeq f ks s2 a2 n2 with
      | bad c x => rw [e2] at h; cases h
      | ok l2 s3 a3 n3 =>
        rw [e2] at h
        have h2 := gwseq_k hf ks s2 a2 n2 h1.s2 e2
        change GwR.ok _ _ _ _ = _ at h
        injection h with _ h3 h4 h5
        subst h3 h4 h5
        exact ⟨Nat.le_trans h1.s1 h2.s1, h2.s2, Nat.le_trans h1.a1 h2.a1, Nat.le_trans h2.n1 h1.n1, Nat.le_trans h2.an h1.an⟩
theorem gwput_k (d : CfD) (st : List Int) : ∀ (m : Nat) (k : Int) (s a n : Nat) {x s' a' n'}, s ≤ st.length → gwPut d st m k s a n = .ok x s' a' n' → GwK st.length s a n s' a' n' ∧ n' + 1 ≤ n
  | 0, k, s, a, n, x, s', a', n', hs, h => by unfold gwPut at h; cases h
  | m + 1, k, s, a, n, x, s', a', n', hs, h => by
    unfold gwPut at h
    by_cases hn : n = 0
    · rw [if_pos hn] at h; cases h
    · rw [if_neg hn] at h
      by_cases hk : 0 ≤ k
      · rw [if_pos hk] at h
        injection h with _ h1 h2 h3
        subst h1 h2 h3
        exact ⟨⟨Nat.le_refl _, hs, by omega, by omega, by omega⟩, by omega⟩
      · rw [if_neg hk] at h
        cases e : st[s]? with
        | none => rw [e] at h; cases h
        | some i =>
          rw [e] at h
          dsimp only at h
          have hlt := (List.getElem?_eq_some_iff.1 e).1
          cases e2 : altD d k i with
          | none => rw [e2] at h; cases h
          | some al =>
            rw [e2] at h
            dsimp only at h
            cases e3 : gwSeq (gwPut d st m) al.l (s + 1) a (n - 1) with
            | bad c x => rw [e3] at h; cases h
            | ok l s2 a2 n2 =>
              rw [e3] at h
              have h2 := gwseq_k (fun k s a n x s' a' n' hs h => gwput_k d st m k s a n hs h) al.l (s + 1) a (n - 1) (by omega) e3
              change GwR.ok _ _ _ _ = _ at h
              injection h with _ h3 h4 h5
              subst h3 h4 h5
              have := h2.s1; have := h2.n1; have := h2.an
              exact ⟨⟨by omega, h2.s2, h2.a1, by omega, by omega⟩, by omega⟩
theorem gwseq_step {F : Int → Nat → Nat → Nat → GwR Tre} {SQ : GwR TrF} {xl : List Int} {j sj aj lj s2 b q : Nat} {Lf : TrF} {t : Tre} {k : Int} (h : SQ = (gwSeq F (xl.drop j) sj aj lj).bind (fun l s b q => .ok (Lf.app l) s b q)) (hd : xl.drop j = k :: xl.drop (j + 1)) (hF : F k sj aj lj = .ok t s2 b q) : SQ = (gwSeq F (xl.drop (j + 1)) s2 b q).bind (fun l s b q => .ok ((Lf.app (t.con .nil)).app l) s b q) := by
  rw [h, hd, gwseq_cons, hF]
  change ((gwSeq F (xl.drop (j + 1)) s2 b q).bind fun l s a n => GwR.ok (t.con l) s a n).bind _ = _
  rw [gwbind_assoc]
  congr 1
  funext l s a n
  show GwR.ok (Lf.app (t.con l)) s a n = GwR.ok ((Lf.app (t.con .nil)).app l) s a n
  rw [TrF.app_assoc]
  rfl
theorem gwseq_bad {F : Int → Nat → Nat → Nat → GwR Tre} {SQ : GwR TrF} {xl : List Int} {j sj aj lj b : Nat} {Lf : TrF} {x k : Int} (h : SQ = (gwSeq F (xl.drop j) sj aj lj).bind (fun l s b q => .ok (Lf.app l) s b q)) (hd : xl.drop j = k :: xl.drop (j + 1)) (hF : F k sj aj lj = .bad b x) : SQ = .bad b x := by
  rw [h, hd, gwseq_cons, hF]
  rfl
theorem gwseq_end {F : Int → Nat → Nat → Nat → GwR Tre} {SQ : GwR TrF} {xl : List Int} {j sj aj lj : Nat} {Lf : TrF} (h : SQ = (gwSeq F (xl.drop j) sj aj lj).bind (fun l s b q => .ok (Lf.app l) s b q)) (hd : xl.length ≤ j) : SQ = .ok Lf sj aj lj := by
  rw [h, List.drop_eq_nil_of_le hd]
  unfold gwSeq
  show GwR.ok (Lf.app .nil) sj aj lj = _
  rw [TrF.app_nil]
theorem gwseq_start {F : Int → Nat → Nat → Nat → GwR Tre} (xl : List Int) (s a n : Nat) : gwSeq F xl s a n = (gwSeq F (xl.drop 0) s a n).bind (fun l s b q => .ok (TrF.nil.app l) s b q) := by
  rw [List.drop_zero]
  show _ = (gwSeq F xl s a n).bind (fun l s b q => GwR.ok l s b q)
  cases gwSeq F xl s a n <;> rfl
end Go.Proofs.Ythogiakfbgehnaa

