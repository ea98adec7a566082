/- Texts joined: Da Db Dc. -/
import Derived.Test.YtngbfjimmdkfeaaPBN1
import Derived.Test.YtngbfjimmdkfeaaPBA
import Derived.Deep.QuietTactic
import Derived.BigQuiet
import Derived.Deep.RegionHeld3
import Derived.Test.YtngbfjimmdkfeaaPBN2
set_option linter.unusedVariables false
set_option linter.unusedSimpArgs false
namespace Go.Proofs.Ytngbfjimmdkfeaa
open Go.RowKit

/-- A move. -/
structure Mv where
  lo : Nat
  hi : Nat
  to : Int
  deriving DecidableEq
abbrev Mv.cells (m : Mv) : List Value := [.int .u8 (m.lo : Int), .int .u8 (m.hi : Int), .int .i64 m.to]
/-- A slice of moves reads as these. -/
structure Mvs (w : World) (a : Option Addr) (cap : Nat) (l : List Mv) : Prop where
  le : l.length ≤ cap
  max : cap ≤ 9223372036854775807
  nil_ : a = none → cap = 0
  at_ : ∀ i, i < l.length → ∃ b off, a = some ⟨b, off, none⟩
  cell : ∀ b off, a = some ⟨b, off, none⟩ → ∀ i, (h : i < l.length) → (w.cell? ⟨b, off + i * 3, none⟩ = some (.int .u8 (l[i].lo : Int)) ∧ w.cell? ⟨b, off + i * 3 + 1, none⟩ = some (.int .u8 (l[i].hi : Int)) ∧ w.cell? ⟨b, off + i * 3 + 2, none⟩ = some (.int .i64 l[i].to)) ∧ l[i].lo < 256 ∧ l[i].hi < 256
theorem Mvs.grown {w w' : World} {a : Option Addr} {cap : Nat} {l : List Mv} (h : Mvs w a cap l) (hb : Below w.heap.size w w') : Mvs w' a cap l :=
  ⟨h.le, h.max, h.nil_, h.at_, fun b off e i hi => ⟨⟨cell_up hb (h.cell b off e i hi).1.1, cell_up hb (h.cell b off e i hi).1.2.1, cell_up hb (h.cell b off e i hi).1.2.2⟩, (h.cell b off e i hi).2⟩⟩
theorem Mvs.nil (w : World) : Mvs w none 0 [] := ⟨by simp, by omega, fun _ => rfl, fun i h => by simp at h, fun b off e => by cases e⟩
/-- A state's moves, and where they lie. -/
structure MvD where
  l : List Mv
  a : Option Addr
  c : Nat
abbrev MvD.v (d : MvD) : Value := .slice d.a d.l.length d.c
/-- All states' moves. -/
structure Mrs (w : World) (a : Option Addr) (cap : Nat) (rs : List MvD) : Prop where
  le : rs.length ≤ cap
  max : cap ≤ 9223372036854775807
  nil_ : a = none → cap = 0
  at_ : ∀ i, i < rs.length → ∃ b off, a = some ⟨b, off, none⟩
  cell : ∀ b off, a = some ⟨b, off, none⟩ → ∀ i, (h : i < rs.length) → w.cell? ⟨b, off + i, none⟩ = some (.slice rs[i].a rs[i].l.length rs[i].c)
  mvs : ∀ r ∈ rs, Mvs w r.a r.c r.l
theorem Mrs.grown {w w' : World} {a : Option Addr} {cap : Nat} {rs : List MvD} (h : Mrs w a cap rs) (hb : Below w.heap.size w w') : Mrs w' a cap rs :=
  ⟨h.le, h.max, h.nil_, h.at_, fun b off e i hi => cell_up hb (h.cell b off e i hi), fun r hr => (h.mvs r hr).grown hb⟩
theorem Mrs.nil (w : World) : Mrs w none 0 [] := ⟨by simp, by omega, fun _ => rfl, fun i h => by simp at h, fun b off e => (by cases e), fun r h => (by cases h)⟩
/-- An automaton with one way, plainly. -/
structure Df where
  ms : List (List Mv)
  ac : List Int
  deriving DecidableEq
/-- Where it lies. -/
structure DfL where
  rs : List MvD
  ma : Option Addr
  mc : Nat
  aa : Option Addr
  ac : Nat
structure DfAt (w : World) (x : Df) (p : DfL) : Prop where
  ms : Mrs w p.ma p.mc p.rs
  eq : p.rs.map MvD.l = x.ms
  acc : Ints w p.aa p.ac x.ac
theorem DfAt.grown {w w' : World} {x : Df} {p : DfL} (h : DfAt w x p) (hb : Below w.heap.size w w') : DfAt w' x p := ⟨h.ms.grown hb, h.eq, h.acc.grown hb⟩
theorem DfAt.len {w : World} {x : Df} {p : DfL} (h : DfAt w x p) : p.rs.length = x.ms.length := by rw [← h.eq, List.length_map]
/-- b may stand behind a. -/
def mayF (a b : Mv) : Bool := decide (a.hi < b.lo) && (decide (1 < b.lo - a.hi) || decide (b.to ≠ a.to))
/-- A move may be, where there are so many states. -/
def oneMv (n : Nat) (m : Mv) : Bool := decide (m.lo ≤ m.hi) && decide (0 ≤ m.to) && decide (m.to < (n : Int))
/-- Moves may be, behind one or none. -/
def ordM (n : Nat) : Option Mv → List Mv → Bool
  | _, [] => true
  | p, m :: r => oneMv n m && (match p with | none => true | some q => mayF q m) && ordM n (some m) r
/-- States from one on may be. -/
def stsB (n : Nat) : List (List Mv) → List Int → Bool
  | [], _ => true
  | l :: r, [] => false
  | l :: r, a :: s => decide (-1 ≤ a) && ordM n none l && stsB n r s
/-- Whether it may be. -/
def dfB (x : Df) : Bool := decide (1 ≤ x.ms.length) && decide (x.ms.length ≤ 2000) && decide (x.ac.length = x.ms.length) && stsB x.ms.length x.ms x.ac
/-- Where a list of moves leads by a byte. -/
def goM : List Mv → Nat → Int
  | [], _ => -1
  | m :: r, c => if m.lo ≤ c ∧ c ≤ m.hi then m.to else goM r c
def nextP (x : Df) (s : Int) (c : Nat) : Int := if 0 ≤ s ∧ s < (x.ms.length : Int) then goM (x.ms.getD s.toNat []) c else -1
def wayP (x : Df) : Int → List UInt8 → Int
  | s, [] => s
  | s, c :: r => wayP x (nextP x s c.toNat) r
def accP (x : Df) (s : Int) : Int := if 0 ≤ s ∧ s < (x.ac.length : Int) then x.ac.getD s.toNat (-1) else -1
/-- What a text comes to. -/
def drunP (x : Df) (s : List UInt8) : Int := accP x (wayP x 0 s)
theorem next_none (x : Df) (c : Nat) : nextP x (-1) c = -1 := by unfold nextP; rw [if_neg (by omega)]
theorem way_none (x : Df) : ∀ s : List UInt8, wayP x (-1) s = -1
  | [] => rfl
  | c :: r => by rw [wayP, next_none, way_none x r]
end Go.Proofs.Ytngbfjimmdkfeaa

namespace Go.Proofs.Ytngbfjimmdkfeaa
open Go.RowKit Go.Shelf

attribute [local go_sem] Oper.semAt_some

theorem below_dN' {B : Nat} {a w : World} (h : Below B a w) (n : Nat) : Below B a (w.drewN n) := ⟨h.os, h.tape, h.output, h.size, h.block⟩
theorem up_one (w : World) (o : Obj) : Below w.heap.size w (w.alloc o) := (Below.refl _ w).alloc (Nat.le_refl _) _

set_option maxRecDepth 100000 in
set_option maxHeartbeats 1000000 in
theorem mayFollow_any (a b : Mv) (ha1 : a.hi < 256) (hb1 : b.lo < 256) (w : World) :
    Calls Try.prog 49 #[.agg #[.int .u8 (a.lo : Int), .int .u8 (a.hi : Int), .int .i64 a.to], .agg #[.int .u8 (b.lo : Int), .int .u8 (b.hi : Int), .int .i64 b.to]] w fun e w' => e = .returned (.bool (mayF a b)) ∧ Below w.heap.size w w' := by
  have hB : Below w.heap.size w ((w.alloc (.cells #[.int .u8 (a.lo : Int), .int .u8 (a.hi : Int), .int .i64 a.to] 57)).alloc (.cells #[.int .u8 (b.lo : Int), .int .u8 (b.hi : Int), .int .i64 b.to] 57)) := (up_one _ _).alloc (up_one _ _).size _
  have HB := Lib.hid hB
  clear hB
  obtain ⟨q, hq⟩ : ∃ q, Hid (mayF a b = q) := ⟨_, Lib.hid rfl⟩
  rw [hq.out]
  have HQ : Hid (q = (decide (a.hi < b.lo) && (decide (1 < b.lo - a.hi) || decide (b.to ≠ a.to)))) := Lib.hid (by rw [← hq.out]; rfl)
  by_cases h1 : a.hi < b.lo
  · have h1I : (a.hi : Int) < (b.lo : Int) := by omega
    have hw : IntKind.u8.wrap ((b.lo : Int) - (a.hi : Int)) = (b.lo : Int) - (a.hi : Int) := by rw [IntKind.wrap_u8]; omega
    by_cases h2 : 1 < b.lo - a.hi
    · have h2I : (1 : Int) < (b.lo : Int) - (a.hi : Int) := by omega
      have HF : Hid (q = true) := Lib.hid (by rw [HQ.out, decide_eq_true h1, decide_eq_true h2]; rfl)
      clear h1 h2
      go_enter Try.func49, Try.ntmps49
      go_wp2_with (fail)
      exact bodyPost_ret (v := .bool true) (by simp [results, Try.results49, go_sem]; try first | rfl | assumption | omega) rfl ⟨by rw [HF.out], HB.out⟩
    · have h2I : ¬ (1 : Int) < (b.lo : Int) - (a.hi : Int) := by omega
      by_cases h3 : b.to = a.to
      · have HF : Hid (q = false) := Lib.hid (by rw [HQ.out, decide_eq_true h1, decide_eq_false h2, decide_eq_false (by omega)]; rfl)
        have h3b : (b.to != a.to) = false := by simp [h3]
        clear h1 h2 h3
        go_enter Try.func49, Try.ntmps49
        go_wp2_with (fail)
        exact bodyPost_ret (v := .bool false) (by simp [results, Try.results49, go_sem]; try first | rfl | assumption | omega) rfl ⟨by rw [HF.out], HB.out⟩
      · have HF : Hid (q = true) := Lib.hid (by rw [HQ.out, decide_eq_true h1, decide_eq_true h3]; simp)
        have h3b : (b.to != a.to) = true := by simp [h3]
        clear h1 h2 h3
        go_enter Try.func49, Try.ntmps49
        go_wp2_with (fail)
        exact bodyPost_ret (v := .bool true) (by simp [results, Try.results49, go_sem]; try first | rfl | assumption | omega) rfl ⟨by rw [HF.out], HB.out⟩
  · have h1I : ¬ (a.hi : Int) < (b.lo : Int) := by omega
    have HF : Hid (q = false) := Lib.hid (by rw [HQ.out, decide_eq_false h1]; rfl)
    clear h1
    go_enter Try.func49, Try.ntmps49
    go_wp2_with (fail)
    exact bodyPost_ret (v := .bool false) (by simp [results, Try.results49, go_sem]; try first | rfl | assumption | omega) rfl ⟨by rw [HF.out], HB.out⟩

/-- The move ahead of a place. -/
def prevM (l : List Mv) (k : Nat) : Option Mv := if k = 0 then none else l[k - 1]?
def folB : Option Mv → Mv → Bool
  | none, _ => true
  | some q, m => mayF q m
theorem ordM_cons (n : Nat) (p : Option Mv) (m : Mv) (r : List Mv) : ordM n p (m :: r) = (oneMv n m && folB p m && ordM n (some m) r) := by cases p <;> rfl
theorem ordM_nil (n : Nat) (p : Option Mv) : ordM n p [] = true := by cases p <;> rfl
theorem ordM_step {n k : Nat} {l : List Mv} (h : k < l.length) : ordM n (prevM l k) (l.drop k) = (oneMv n l[k] && folB (prevM l k) l[k] && ordM n (prevM l (k + 1)) (l.drop (k + 1))) := by
  rw [List.drop_eq_getElem_cons h, ordM_cons]
  have : prevM l (k + 1) = some l[k] := by unfold prevM; rw [if_neg (by omega)]; simp
  rw [this]

set_option maxRecDepth 100000 in
set_option maxHeartbeats 4000000 in
theorem dinOrder_any (l : List Mv) (a : Option Addr) (cap n : Nat) (w : World) (hl : Mvs w a cap l) :
    Calls Try.prog 27 #[.slice a l.length cap, .int .i64 (n : Int)] w fun e w' => e = .returned (.bool (ordM n none l)) ∧ Below w.heap.size w w' := by
  have hle := hl.le
  have hmx := hl.max
  obtain ⟨Q, hQ⟩ : ∃ Q, Hid (ordM n none l = Q) := ⟨_, Lib.hid rfl⟩
  rw [hQ.out]
  obtain ⟨L, HL⟩ : ∃ L, Hid (l.length = L) := ⟨_, Lib.hid rfl⟩
  rw [HL.out] at hle ⊢
  go_enter Try.func27, Try.ntmps27
  go_wp2_with (fail)
  go_loopw [9] (fun iv wr => ∃ k : Nat, k ≤ L ∧ iv = .int .i64 (k : Int) ∧ Hid (Q = ordM n (prevM l k) (l.drop k)) ∧ Below w.heap.size w wr) (fun iv _ => L - (intOf iv).toNat)
  case atStart => exact ⟨0, Nat.zero_le _, rfl, Lib.hid hQ.out.symm, Below.refl _ _⟩
  case round =>
    obtain ⟨k, hk, rfl, HK, hbr⟩ := hrel
    by_cases hlt : k < L
    · have hkI : (k : Int) < (L : Int) := by omega
      have hkI0 : (0 : Int) ≤ (k : Int) := by omega
      have hkl : k < l.length := by rw [HL.out]; exact hlt
      obtain ⟨b, off, rfl⟩ := hl.at_ k hkl
      obtain ⟨⟨c0, c1, c2⟩, d1, d2⟩ := (hl.grown hbr).cell b off rfl k hkl
      have HS := Lib.hid (ordM_step (n := n) hkl)
      obtain ⟨m, hm⟩ : ∃ v, Hid (l[k] = v) := ⟨_, Lib.hid rfl⟩
      rw [hm.out] at c0 c1 c2 d1 d2 HS
      have hbl := World.block_lt_of_cell? wr _ c0
      have hB := Blk.new wr 57 #[.int .u8 (m.lo : Int), .int .u8 (m.hi : Int), .int .i64 m.to]
      have hb1 := hbr.alloc hbr.size (.cells #[.int .u8 (m.lo : Int), .int .u8 (m.hi : Int), .int .i64 m.to] 57)
      have y0 := hB.cell 0
      have y1 := hB.cell 1
      have y2 := hB.cell 2
      have yl := hB.lt
      simp only [List.getElem?_cons_zero, List.getElem?_cons_succ] at y0 y1 y2
      have HK2 : Hid (Q = (oneMv n m && folB (prevM l k) m && ordM n (prevM l (k + 1)) (l.drop (k + 1)))) := Lib.hid (by rw [HK.out, HS.out])
      have HO : Hid (oneMv n m = (decide (m.lo ≤ m.hi) && decide (0 ≤ m.to) && decide (m.to < (n : Int)))) := Lib.hid rfl
      clear HS hB
      by_cases g1 : m.hi < m.lo
      · have g1I : (m.hi : Int) < (m.lo : Int) := by omega
        have HF : Hid (Q = false) := Lib.hid (by rw [HK2.out, HO.out, decide_eq_false (by omega)]; rfl)
        clear g1
        go_wp2_with (fail)
        exact bodyPost_ret (v := .bool false) (by simp [results, Try.results27, go_sem]; try first | rfl | assumption | omega) rfl ⟨by rw [HF.out], hb1⟩
      have g1I : ¬ (m.hi : Int) < (m.lo : Int) := by omega
      by_cases g2 : m.to < 0
      · have HF : Hid (Q = false) := Lib.hid (by rw [HK2.out, HO.out, decide_eq_false (show ¬ 0 ≤ m.to by omega)]; simp)
        go_wp2_with (fail)
        exact bodyPost_ret (v := .bool false) (by simp [results, Try.results27, go_sem]; try first | rfl | assumption | omega) rfl ⟨by rw [HF.out], hb1⟩
      by_cases g3 : (n : Int) ≤ m.to
      · have HF : Hid (Q = false) := Lib.hid (by rw [HK2.out, HO.out, decide_eq_false (show ¬ m.to < (n : Int) by omega)]; simp)
        go_wp2_with (fail)
        exact bodyPost_ret (v := .bool false) (by simp [results, Try.results27, go_sem]; try first | rfl | assumption | omega) rfl ⟨by rw [HF.out], hb1⟩
      have HO2 : Hid (oneMv n m = true) := Lib.hid (by rw [HO.out, decide_eq_true (show m.lo ≤ m.hi by omega), decide_eq_true (show 0 ≤ m.to by omega), decide_eq_true (show m.to < (n : Int) by omega)]; rfl)
      clear g1
      by_cases hk0 : k = 0
      · have hp : prevM l k = none := by rw [hk0]; rfl
        have HN : Hid (Q = ordM n (prevM l (k + 1)) (l.drop (k + 1))) := Lib.hid (by rw [HK2.out, HO2.out, hp]; rfl)
        have hk0I : ¬ (0 : Int) < (k : Int) := by omega
        have hk0N : ¬ 0 < k := by omega
        have hk0D : decide (0 < k) = false := by simpa using hk0N
        clear hp hk0
        go_wp2_with (fail)
        go_quiet (fail)
        go_wp2_with (fail)
        exact ⟨⟨k + 1, by omega, by simp, HN, below_dN' hb1 _⟩, by simp [intOf]; omega⟩
      · have hkp : (0 : Int) < (k : Int) := by omega
        have hkpN : 0 < k := by omega
        have hk1 : k - 1 < l.length := by omega
        have hp : prevM l k = some l[k - 1] := by unfold prevM; rw [if_neg hk0, List.getElem?_eq_getElem hk1]
        obtain ⟨⟨e0, e1, e2⟩, d3, d4⟩ := (hl.grown hb1).cell b off rfl (k - 1) hk1
        obtain ⟨q, hq⟩ : ∃ v, Hid (l[k - 1] = v) := ⟨_, Lib.hid rfl⟩
        rw [hq.out] at e0 e1 e2 d3 d4 hp
        have HN : Hid (Q = (mayF q m && ordM n (prevM l (k + 1)) (l.drop (k + 1)))) := Lib.hid (by rw [HK2.out, HO2.out, hp]; rfl)
        have hki : (k : Int) - 1 = ((k - 1 : Nat) : Int) := by omega
        have hwr : IntKind.i64.wrap ((k : Int) - 1) = ((k - 1 : Nat) : Int) := by rw [IntKind.wrap_i64]; omega
        have hkm0 : (0 : Int) ≤ ((k - 1 : Nat) : Int) := by omega
        have hkm1 : ((k - 1 : Nat) : Int) < (L : Int) := by omega
        obtain ⟨F, hF⟩ : ∃ F, Hid (mayF q m = F) := ⟨_, Lib.hid rfl⟩
        have Hc := Lib.hid (fun V => mayFollow_any q m d4 d1 V)
        rw [hF.out] at HN Hc
        have hkm : k - 1 < L := by omega
        have ebl := World.block_lt_of_cell? _ _ e0
        clear hp hk0 hki
        go_wp2_with (fail)
        generalize World.alloc wr _ = W at y0 y1 y2 yl hb1 e0 e1 e2 ebl ⊢
        have hbd : Below W.heap.size W W.drew := (Below.refl W.heap.size W).drew
        have HSt : Hid (∀ V, Below W.drew.heap.size W.drew V → (Below W.drew.heap.size W.drew V ∧ V.cell? ⟨b, off + (k - 1) * 3, none⟩ = some (.int .u8 (q.lo : Int)) ∧ V.cell? ⟨b, off + (k - 1) * 3 + 1, none⟩ = some (.int .u8 (q.hi : Int)) ∧ V.cell? ⟨b, off + (k - 1) * 3 + 2, none⟩ = some (.int .i64 q.to) ∧ V.cell? ⟨wr.heap.size, 0, none⟩ = some (.int .u8 (m.lo : Int)) ∧ V.cell? ⟨wr.heap.size, 1, none⟩ = some (.int .u8 (m.hi : Int)) ∧ V.cell? ⟨wr.heap.size, 2, none⟩ = some (.int .i64 m.to))) := Lib.hid (fun V hV => by
          have hu : Below W.heap.size W V := hbd.trans (hV.mono hbd.size)
          exact ⟨hV, cell_up hu e0, cell_up hu e1, cell_up hu e2, cell_up hu y0, cell_up hu y1, cell_up hu y2⟩)
        have Hb2 := Lib.hid (hb1.trans (hbd.mono hb1.size))
        clear e0 e1 e2 y0 y1 y2 hbd
        refine wp_region_held_drew (S := fun w' => (Below W.drew.heap.size W.drew w' ∧ w'.cell? ⟨b, off + (k - 1) * 3, none⟩ = some (.int .u8 (q.lo : Int)) ∧ w'.cell? ⟨b, off + (k - 1) * 3 + 1, none⟩ = some (.int .u8 (q.hi : Int)) ∧ w'.cell? ⟨b, off + (k - 1) * 3 + 2, none⟩ = some (.int .i64 q.to) ∧ w'.cell? ⟨wr.heap.size, 0, none⟩ = some (.int .u8 (m.lo : Int)) ∧ w'.cell? ⟨wr.heap.size, 1, none⟩ = some (.int .u8 (m.hi : Int)) ∧ w'.cell? ⟨wr.heap.size, 2, none⟩ = some (.int .i64 m.to))) (by kernel_rfl) ?_ (fun hHeld => ?_)
        · exact HSt.out _ (Below.refl _ _)
        refine wpAnyH_take (i := 0) (v := ?_) (gatL gatZ) (by kernel_rfl) (by kernel_rfl) (by kernel_rfl) (fun _ _ _ h => h) (Or.inl ⟨by rfl, ?_⟩) (by assumption) ?_
        rotate_left
        · intro w hSw
          try dsimp only at hSw
          go_simp
          all_goals with_reducible rfl
        try simp only [Act.put, List.setIfInBounds_toArray, List.set_cons_zero, List.set_cons_succ]
        refine wpAnyH_take (i := 1) (v := ?_) (gatL (gatS gatZ)) (by kernel_rfl) (by kernel_rfl) (by kernel_rfl) (fun _ _ _ h => h) (Or.inl ⟨by rfl, ?_⟩) (by assumption) ?_
        rotate_left
        · intro w hSw
          try dsimp only at hSw
          go_simp
          all_goals with_reducible rfl
        try simp only [Act.put, List.setIfInBounds_toArray, List.set_cons_zero, List.set_cons_succ]
        refine wpAnyH_take (i := 2) (v := ?_) (gatL (gatS (gatS gatZ))) (by kernel_rfl) (by kernel_rfl) (by kernel_rfl) (fun _ _ _ h => h) (Or.inl ⟨by rfl, ?_⟩) (by assumption) ?_
        rotate_left
        · intro w hSw
          try dsimp only at hSw
          go_simp
          all_goals with_reducible rfl
        try simp only [Act.put, List.setIfInBounds_toArray, List.set_cons_zero, List.set_cons_succ]
        refine wpAnyH_take (i := 3) (v := ?_) (gatL (gatS (gatS (gatS gatZ)))) (by kernel_rfl) (by kernel_rfl) (by kernel_rfl) (fun _ _ _ h => h) (Or.inl ⟨by rfl, ?_⟩) (by assumption) ?_
        rotate_left
        · intro w hSw
          try dsimp only at hSw
          go_simp
          all_goals with_reducible rfl
        try simp only [Act.put, List.setIfInBounds_toArray, List.set_cons_zero, List.set_cons_succ]
        refine wpAnyH_take (i := 4) (v := ?_) (gatL (gatS (gatS (gatS (gatS gatZ))))) (by kernel_rfl) (by kernel_rfl) (by kernel_rfl) (fun _ _ _ h => h) (Or.inl ⟨by rfl, ?_⟩) (by assumption) ?_
        rotate_left
        · intro w hSw
          try dsimp only at hSw
          go_simp
          all_goals with_reducible rfl
        try simp only [Act.put, List.setIfInBounds_toArray, List.set_cons_zero, List.set_cons_succ]
        refine wpAnyH_take (i := 5) (v := ?_) (gatL (gatS (gatS (gatS (gatS (gatS gatZ)))))) (by kernel_rfl) (by kernel_rfl) (by kernel_rfl) (fun _ _ _ h => h) (Or.inl ⟨by rfl, ?_⟩) (by assumption) ?_
        rotate_left
        · intro w hSw
          try dsimp only at hSw
          go_simp
          all_goals with_reducible rfl
        try simp only [Act.put, List.setIfInBounds_toArray, List.set_cons_zero, List.set_cons_succ]
        refine wpAnyH_take (i := 6) (v := ?_) (gatL (gatS (gatS (gatS (gatS (gatS (gatS gatZ))))))) (by kernel_rfl) (by kernel_rfl) (by kernel_rfl) (fun _ _ _ h => h) (Or.inl ⟨by rfl, ?_⟩) (by assumption) ?_
        rotate_left
        · intro w hSw
          try dsimp only at hSw
          go_simp
          all_goals with_reducible rfl
        try simp only [Act.put, List.setIfInBounds_toArray, List.set_cons_zero, List.set_cons_succ]
        refine wpAnyH_take (i := 7) (v := ?_) (gatL (gatS (gatS (gatS (gatS (gatS (gatS (gatS gatZ)))))))) (by kernel_rfl) (by kernel_rfl) (by kernel_rfl) (fun _ _ _ h => h) (Or.inl ⟨by rfl, ?_⟩) (by assumption) ?_
        rotate_left
        · intro w hSw
          try dsimp only at hSw
          go_simp
          all_goals with_reducible rfl
        try simp only [Act.put, List.setIfInBounds_toArray, List.set_cons_zero, List.set_cons_succ]
        refine wpAnyH_take (i := 8) (v := ?_) (gatL (gatS (gatS (gatS (gatS (gatS (gatS (gatS (gatS gatZ))))))))) (by kernel_rfl) (by kernel_rfl) (by kernel_rfl) (fun _ _ _ h => h) (Or.inl ⟨by rfl, ?_⟩) (by assumption) ?_
        rotate_left
        · intro w hSw
          try dsimp only at hSw
          go_simp
          all_goals with_reducible rfl
        try simp only [Act.put, List.setIfInBounds_toArray, List.set_cons_zero, List.set_cons_succ]
        refine wpAnyH_ready (rs := [9]) (by kernel_rfl) (by simp) ?_
        refine AllReadyH.cons (gatL (gatS (gatS (gatS (gatS (gatS (gatS (gatS (gatS (gatS gatZ)))))))))) (fun K hK => ?_) AllReadyH.nil
        go_simp
        go_at_call 49
        (with_reducible refine (Hc.out _).mono ?_)
        rintro e V4 ⟨rfl, hV4⟩
        have HV4 := Lib.hid (hHeld.1.trans (hV4.mono hHeld.1.size))
        clear hV4
        dsimp only
        refine hK.out _ _ ?_ (fun hHeld => ?_)
        · exact HSt.out _ HV4.out
        clear hK K
        try simp only [Act.put, List.setIfInBounds_toArray, List.set_cons_zero, List.set_cons_succ]
        refine wpAnyH_take (i := 10) (v := ?_) (gatL (gatS (gatS (gatS (gatS (gatS (gatS (gatS (gatS (gatS (gatS gatZ))))))))))) (by kernel_rfl) (by kernel_rfl) (by kernel_rfl) (fun _ _ _ h => h) (Or.inl ⟨by rfl, ?_⟩) (by assumption) ?_
        rotate_left
        · intro w hSw
          try dsimp only at hSw
          go_simp
          all_goals with_reducible rfl
        try simp only [Act.put, List.setIfInBounds_toArray, List.set_cons_zero, List.set_cons_succ]
        refine wpAnyH_take (i := 11) (v := ?_) (gatL (gatS (gatS (gatS (gatS (gatS (gatS (gatS (gatS (gatS (gatS (gatS gatZ)))))))))))) (by kernel_rfl) (by kernel_rfl) (by kernel_rfl) (fun _ _ _ h => h) (Or.inl ⟨by rfl, ?_⟩) (by assumption) ?_
        rotate_left
        · intro w hSw
          try dsimp only at hSw
          go_simp
          all_goals with_reducible rfl
        try simp only [Act.put, List.setIfInBounds_toArray, List.set_cons_zero, List.set_cons_succ]
        refine wpAnyH_done (by kernel_rfl) ?_ _
        cases F
        · have HF : Hid (Q = false) := Lib.hid (by rw [HN.out]; rfl)
          go_wp2_with (fail)
          exact bodyPost_ret (v := .bool false) (by simp [results, Try.results27, go_sem]; try first | rfl | assumption | omega) rfl ⟨by rw [HF.out], Hb2.out.trans (HV4.out.mono Hb2.out.size)⟩
        · have HM : Hid (Q = ordM n (prevM l (k + 1)) (l.drop (k + 1))) := Lib.hid (by rw [HN.out]; rfl)
          go_wp2_with (fail)
          exact ⟨⟨k + 1, by omega, by simp, HM, Hb2.out.trans (HV4.out.mono Hb2.out.size)⟩, by simp [intOf]; omega⟩
    · obtain rfl : k = L := by omega
      have hkI : ¬ (k : Int) < (k : Int) := by omega
      have HF : Hid (Q = true) := Lib.hid (by rw [HK.out, List.drop_eq_nil_of_le (by rw [HL.out]; exact Nat.le_refl _), ordM_nil])
      go_wp2_with (fail)
      exact bodyPost_ret (v := .bool true) (by simp [results, Try.results27, go_sem]; try first | rfl | assumption | omega) rfl ⟨by rw [HF.out], hbr⟩
end Go.Proofs.Ytngbfjimmdkfeaa

namespace Go.Proofs.Ytngbfjimmdkfeaa
open Go.RowKit Go.Shelf

attribute [local go_sem] Oper.semAt_some

theorem stsB_step {n k : Nat} {ms : List (List Mv)} {ac : List Int} (h1 : k < ms.length) (h2 : k < ac.length) : stsB n (ms.drop k) (ac.drop k) = (decide (-1 ≤ ac[k]) && ordM n none ms[k] && stsB n (ms.drop (k + 1)) (ac.drop (k + 1))) := by
  rw [List.drop_eq_getElem_cons h1, List.drop_eq_getElem_cons h2]
  rfl

set_option maxRecDepth 100000 in
set_option maxHeartbeats 4000000 in
theorem dcheck_any (x : Df) (p : DfL) (w : World) (hx : DfAt w x p) :
    Calls Try.prog 11 #[.agg #[.slice p.ma x.ms.length p.mc, .slice p.aa x.ac.length p.ac]] w fun e w' => e = .returned (.int .i64 (if dfB x then 0 else 30)) ∧ Below w.heap.size w w' := by
  have h1 := hx.ms.le
  have h2 := hx.ms.max
  have h3 := hx.acc.le
  have h4 := hx.acc.max
  have hlen := hx.len
  rw [hlen] at h1
  have HX := Lib.hid hx
  have HLN := Lib.hid hlen
  clear hx hlen
  obtain ⟨R, hR⟩ : ∃ R, Hid (dfB x = R) := ⟨_, Lib.hid rfl⟩
  rw [hR.out]
  obtain ⟨E, hE⟩ : ∃ E, Hid ((if R = true then (0 : Int) else 30) = E) := ⟨_, Lib.hid rfl⟩
  rw [hE.out]
  obtain ⟨Q, hQ⟩ : ∃ Q, Hid (stsB x.ms.length x.ms x.ac = Q) := ⟨_, Lib.hid rfl⟩
  have HR : Hid (R = (decide (1 ≤ x.ms.length) && decide (x.ms.length ≤ 2000) && decide (x.ac.length = x.ms.length) && Q)) := Lib.hid (by rw [← hR.out, ← hQ.out]; rfl)
  obtain ⟨M, HM⟩ : ∃ M, Hid (x.ms.length = M) := ⟨_, Lib.hid rfl⟩
  obtain ⟨N, HN⟩ : ∃ N, Hid (x.ac.length = N) := ⟨_, Lib.hid rfl⟩
  rw [HM.out, HN.out] at HR
  rw [HM.out] at hQ h1 ⊢
  rw [HN.out] at h3 ⊢
  have hA0 := Blk.new w 25 #[.slice p.ma M p.mc, .slice p.aa N p.ac]
  have hb0 := up_one w (.cells #[.slice p.ma M p.mc, .slice p.aa N p.ac] 25)
  have x0 := hA0.cell 0
  have x1 := hA0.cell 1
  have xl := hA0.lt
  simp only [List.getElem?_cons_zero, List.getElem?_cons_succ] at x0 x1
  have HRF : Hid (R = false → E = 30) := Lib.hid (fun e => by rw [← hE.out, e]; rfl)
  have HRT : Hid (R = true → E = 0) := Lib.hid (fun e => by rw [← hE.out, e]; rfl)
  by_cases g1 : M < 1
  · have g1I : (M : Int) < 1 := by omega
    have HF : Hid (R = false) := Lib.hid (by rw [HR.out, decide_eq_false (by omega)]; rfl)
    clear g1
    go_enter Try.func11, Try.ntmps11
    go_wp2_with (fail)
    exact bodyPost_ret (v := .int .i64 30) (by simp [results, Try.results11, go_sem]; try first | rfl | assumption | omega) rfl ⟨by rw [HRF.out HF.out], hb0⟩
  have g1I : ¬ (M : Int) < 1 := by omega
  by_cases g2 : 2000 < M
  · have g2I : (2000 : Int) < (M : Int) := by omega
    have HF : Hid (R = false) := Lib.hid (by rw [HR.out, decide_eq_false (show ¬ M ≤ 2000 by omega)]; simp)
    clear g1 g2
    go_enter Try.func11, Try.ntmps11
    go_wp2_with (fail)
    exact bodyPost_ret (v := .int .i64 30) (by simp [results, Try.results11, go_sem]; try first | rfl | assumption | omega) rfl ⟨by rw [HRF.out HF.out], hb0⟩
  have g2I : ¬ (2000 : Int) < (M : Int) := by omega
  by_cases g3 : N = M
  case neg =>
    have g3b : ((N : Int) != (M : Int)) = true := by rw [bne_iff_ne]; omega
    have HF : Hid (R = false) := Lib.hid (by rw [HR.out, decide_eq_false g3]; simp)
    clear g1 g2 g3
    go_enter Try.func11, Try.ntmps11
    go_wp2_with (fail)
    exact bodyPost_ret (v := .int .i64 30) (by simp [results, Try.results11, go_sem]; try first | rfl | assumption | omega) rfl ⟨by rw [HRF.out HF.out], hb0⟩
  case pos =>
  have HRQ : Hid (R = Q) := Lib.hid (by rw [HR.out, decide_eq_true (by omega), decide_eq_true (by omega), decide_eq_true g3]; rfl)
  have g3b : ((N : Int) != (M : Int)) = false := by rw [bne_eq_false_iff_eq]; omega
  have HNM := Lib.hid g3
  have hNM1 : N ≤ M := by omega
  have hNM2 : M ≤ N := by omega
  clear g1 g2 g3 HR hR
  go_enter Try.func11, Try.ntmps11
  go_wp2_with (fail)
  generalize World.alloc w _ = W at x0 x1 xl hb0 hA0 ⊢
  go_loopw [25] (fun iv wr => ∃ k : Nat, k ≤ M ∧ iv = .int .i64 (k : Int) ∧ Hid (Q = stsB M (x.ms.drop k) (x.ac.drop k)) ∧ Below W.heap.size W wr) (fun iv _ => M - (intOf iv).toNat)
  case atStart => exact ⟨0, Nat.zero_le _, rfl, Lib.hid hQ.out.symm, Below.refl _ _⟩
  case round =>
    obtain ⟨k, hk, rfl, HK, hbr⟩ := hrel
    have hbw := hb0.trans (hbr.mono hb0.size)
    have y0 := cell_up hbr x0
    have y1 := cell_up hbr x1
    have yl := World.block_lt_of_cell? _ _ y0
    by_cases hlt : k < M
    · have hkI : (k : Int) < (M : Int) := by omega
      have hkN : (k : Int) < (N : Int) := by omega
      have hkI0 : (0 : Int) ≤ (k : Int) := by omega
      have hkm : k < x.ms.length := by rw [HM.out]; exact hlt
      have hkr : k < p.rs.length := by rw [HLN.out]; exact hkm
      have hka : k < x.ac.length := by rw [HN.out]; omega
      obtain ⟨b, off, hma⟩ := HX.out.ms.at_ k hkr
      obtain ⟨b2, off2, haa⟩ := HX.out.acc.at_ k hka
      have c0 := (HX.out.ms.grown hbw).cell b off hma k hkr
      have c1 := (HX.out.acc.grown hbw).cell b2 off2 haa k hka
      have HS := Lib.hid (stsB_step (n := M) hkm hka)
      have hgx : Hid (x.ms[k] = p.rs[k].l) := Lib.hid (by
        have := HX.out.eq
        simp only [← this, List.getElem_map])
      have hmem : p.rs[k] ∈ p.rs := List.getElem_mem hkr
      have hmv := (HX.out.ms.mvs _ hmem).grown hbw
      obtain ⟨d, hd⟩ : ∃ v, Hid (p.rs[k] = v) := ⟨_, Lib.hid rfl⟩
      obtain ⟨t, ht⟩ : ∃ v, Hid (x.ac[k] = v) := ⟨_, Lib.hid rfl⟩
      rw [hd.out] at c0 hmv hgx
      rw [ht.out] at c1 HS
      rw [hgx.out] at HS
      have bl0 := World.block_lt_of_cell? _ _ c0
      have bl1 := World.block_lt_of_cell? _ _ c1
      have hdl : d.l.length ≤ d.c ∧ d.c ≤ 9223372036854775807 := ⟨hmv.le, hmv.max⟩
      have Hc := Lib.hid (dinOrder_any d.l d.a d.c M wr hmv)
      obtain ⟨F, hF⟩ : ∃ F, Hid (ordM M none d.l = F) := ⟨_, Lib.hid rfl⟩
      rw [hF.out] at Hc HS
      obtain ⟨DL, hDL⟩ : ∃ q, Hid (d.l.length = q) := ⟨_, Lib.hid rfl⟩
      rw [hDL.out] at Hc c0 hdl
      have HKS : Hid (Q = (decide (-1 ≤ t) && F && stsB M (x.ms.drop (k + 1)) (x.ac.drop (k + 1)))) := Lib.hid (by rw [HK.out, HS.out])
      have Hma := Lib.hid hma
      have Haa := Lib.hid haa
      clear hmem hmv HS hgx hma haa
      by_cases gt : t < -1
      · have HF : Hid (R = false) := Lib.hid (by rw [HRQ.out, HKS.out, decide_eq_false (show ¬ -1 ≤ t by omega)]; rfl)
        rw [Hma.out]
        rw [Haa.out] at y1 ⊢
        go_wp2_with (fail)
        exact bodyPost_ret (v := .int .i64 30) (by simp [results, Try.results11, go_sem]; try first | rfl | assumption | omega) rfl ⟨by rw [HRF.out HF.out], hbw⟩
      · have HKF : Hid (Q = (F && stsB M (x.ms.drop (k + 1)) (x.ac.drop (k + 1)))) := Lib.hid (by rw [HKS.out, decide_eq_true (show -1 ≤ t by omega)]; rfl)
        rw [Hma.out]
        rw [Haa.out] at y1 ⊢
        go_wp2_with (fail)
        refine Hc.out.mono ?_
        rintro e w2 ⟨rfl, hb2⟩
        cases F
        · have HF : Hid (R = false) := Lib.hid (by rw [HRQ.out, HKF.out]; rfl)
          go_wp2_with (fail)
          exact bodyPost_ret (v := .int .i64 30) (by simp [results, Try.results11, go_sem]; try first | rfl | assumption | omega) rfl ⟨by rw [HRF.out HF.out], hbw.trans (hb2.mono hbw.size)⟩
        · have HN2 : Hid (Q = stsB M (x.ms.drop (k + 1)) (x.ac.drop (k + 1))) := Lib.hid (by rw [HKF.out]; rfl)
          go_wp2_with (fail)
          exact ⟨⟨k + 1, by omega, by simp, HN2, hbr.trans (hb2.mono hbr.size)⟩, by simp [intOf]; omega⟩
    · obtain rfl : k = M := by omega
      have hkI : ¬ (k : Int) < (k : Int) := by omega
      have HF : Hid (R = true) := Lib.hid (by rw [HRQ.out, HK.out, List.drop_eq_nil_of_le (by rw [HM.out]; exact Nat.le_refl _)]; rfl)
      go_wp2_with (fail)
      exact bodyPost_ret (v := .int .i64 0) (by simp [results, Try.results11, go_sem]; try first | rfl | assumption | omega) rfl ⟨by rw [HRT.out HF.out], hbw⟩
end Go.Proofs.Ytngbfjimmdkfeaa

