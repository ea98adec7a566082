/- Texts of layer 2 joined: Pl Rdr Rdi Eq4 Rdc. -/
import Derived.Test.YtkdfobnkebkpfaaJC
import Derived.Test.YtkdfobnkebkpfaaJA
import Derived.Outline
import Derived.Laws.StructEq
set_option linter.unusedVariables false
set_option linter.unusedSimpArgs false
/- Reading an expression, as plain functions on what is left of the text. -/
namespace Go.Proofs.Ytkdfobnkebkpfaa
open Go.RowKit

/-- What reading comes to: a value and what is left; or it gives up there. -/
inductive Rd (α : Type) where
  | ok (v : α) (r : List UInt8)
  | bad (r : List UInt8)

def Rd.bind {α β : Type} (x : Rd α) (f : α → List UInt8 → Rd β) : Rd β :=
  match x with
  | .ok v r => f v r
  | .bad r => .bad r
@[simp] theorem Rd.bind_ok {α β : Type} (v : α) (r : List UInt8) (f : α → List UInt8 → Rd β) : (Rd.ok v r).bind f = f v r := rfl
@[simp] theorem Rd.bind_bad {α β : Type} (r : List UInt8) (f : α → List UInt8 → Rd β) : (Rd.bad r : Rd α).bind f = .bad r := rfl

def hexV (c : UInt8) : Option UInt8 :=
  if 48 ≤ c.toNat ∧ c.toNat ≤ 57 then some (c - 48) else if 97 ≤ c.toNat ∧ c.toNat ≤ 102 then some (c - 97 + 10) else if 65 ≤ c.toNat ∧ c.toNat ≤ 70 then some (c - 65 + 10) else none
def digitP : List UInt8 → Rd UInt8
  | [] => .bad []
  | c :: r => match hexV c with
    | some v => .ok v r
    | none => .bad (c :: r)
def barB (barred : List UInt8) (c : UInt8) : Bool := decide (0 ≤ Lib.indexByte barred c)
def outs : List UInt8 := [92, 124, 42, 43, 63, 40, 41, 91, 93, 46]
def escP : List UInt8 → Rd UInt8
  | [] => .bad []
  | c :: r => if c = 110 then .ok 10 r else if c = 116 then .ok 9 r else if c = 114 then .ok 13 r
    else if c = 120 then (match digitP r with
      | .bad b => .bad b
      | .ok h r1 => match digitP r1 with
        | .bad b => .bad b
        | .ok l r2 => .ok (UInt8.ofNat (16 * h.toNat + l.toNat)) r2)
    else if barB specials c then .ok c r else .bad (c :: r)
def letP (barred : List UInt8) : List UInt8 → Rd UInt8
  | [] => .bad []
  | c :: r => if c = 92 then escP r else if barB barred c then .bad (c :: r) else .ok c r
def headIs (c : UInt8) : List UInt8 → Bool
  | [] => false
  | x :: _ => x == c
def itemP (r : List UInt8) : Rd Sp :=
  match letP specials r with
  | .bad b => .bad b
  | .ok lo r1 => if headIs 45 r1 then (match letP specials r1.tail with
      | .bad b => .bad b
      | .ok hi r3 => if hi.toNat < lo.toNat then .bad r1.tail else .ok ⟨lo, hi⟩ r3)
    else .ok ⟨lo, lo⟩ r1
def itemsP : Nat → List UInt8 → List Sp → Rd (List Sp)
  | 0, r, _ => .bad r
  | F + 1, r, l => if headIs 93 r then .ok l r.tail else
    (itemP r).bind fun s r1 => itemsP F r1 (l ++ [s])
def allB (l : List Sp) : Bool := (List.range 256).all (inSp l)
/-- The bytes of a class. -/
def setM (x : List Sp × Bool) : Nat → Bool := fun c => if x.2 then !inSp x.1 c else inSp x.1 c
def classE (nt : Bool) (l : List Sp) (r : List UInt8) : Rd (List Sp × Bool) := if nt && allB l then .bad (93 :: r) else .ok (l, nt) r
def classP (r : List UInt8) : Rd (List Sp × Bool) :=
  (itemP (if headIs 94 r then r.tail else r)).bind fun s r1 => (itemsP (r1.length + 1) r1 [s]).bind (classE (headIs 94 r))

/-- An expression. -/
structure Ex where
  h : Hd
  k : Fo
def foX : List Ex → Fo
  | [] => .nil
  | x :: r => .cons x.h x.k (foX r)
def setX (l : List Sp) : Ex := ⟨⟨2, l⟩, .nil⟩
def oneX (c : UInt8) : Ex := setX [⟨c, c⟩]
def joinX (kind : Int) (l : List Ex) : Ex :=
  match l with
  | [] => ⟨⟨1, []⟩, .nil⟩
  | [x] => x
  | l => ⟨⟨kind, []⟩, foX l⟩
def reps : List UInt8 := [42, 43, 63]
def repsP : Ex → List UInt8 → Ex × List UInt8
  | x, [] => (x, [])
  | x, c :: r => if 0 ≤ Lib.indexByte reps c then repsP ⟨⟨5 + Lib.indexByte reps c, []⟩, .cons x.h x.k .nil⟩ r else (x, c :: r)

/-- What stands behind a (, up to its ). -/
def closeP (x : Ex) (r : List UInt8) : Rd Ex := if headIs 41 r then .ok x r.tail else .bad r
mutual
def altsP : Nat → List UInt8 → Rd Ex
  | 0, r => .bad r
  | F + 1, r => (altP F r).bind fun x r1 => moreP F r1 [x]
def moreP : Nat → List UInt8 → List Ex → Rd Ex
  | 0, r, _ => .bad r
  | F + 1, r, l => if headIs 124 r then (altP F r.tail).bind fun x r1 => moreP F r1 (l ++ [x]) else .ok (joinX 4 l) r
def altP : Nat → List UInt8 → Rd Ex
  | 0, r => .bad r
  | F + 1, r => piecesP F r []
def piecesP : Nat → List UInt8 → List Ex → Rd Ex
  | 0, r, _ => .bad r
  | F + 1, r, l => if r.isEmpty || headIs 124 r || headIs 41 r then .ok (joinX 3 l) r else (pieceP F r).bind fun x r1 => piecesP F r1 (l ++ [x])
def pieceP : Nat → List UInt8 → Rd Ex
  | 0, r => .bad r
  | F + 1, r => (atomP F r).bind fun x r1 => .ok (repsP x r1).1 (repsP x r1).2
def atomP : Nat → List UInt8 → Rd Ex
  | 0, r => .bad r
  | F + 1, r => if headIs 40 r then (altsP F r.tail).bind closeP
    else if headIs 46 r then .ok (setX (spP (setM ([⟨10, 10⟩], true)) 256)) r.tail
    else if headIs 91 r then (classP r.tail).bind fun x r1 => .ok (setX (spP (setM x) 256)) r1
    else (letP outs r).bind fun c r1 => .ok (setX (spP (setM ([⟨c, c⟩], false)) 256)) r1
end

/-- What stands from a place on. -/
structure Suf (s : ByteArray) (a : Nat) (r : List UInt8) : Prop where
  le : a ≤ s.size
  eq : s.data.toList.drop a = r
theorem dlen (s : ByteArray) : s.data.toList.length = s.size := by rw [Array.length_toList]; rfl
theorem Suf.len {s : ByteArray} {a : Nat} {r : List UInt8} (h : Suf s a r) : a + r.length = s.size := by
  have := congrArg List.length h.eq
  rw [List.length_drop, dlen] at this
  have := h.le
  omega
theorem Suf.nil {s : ByteArray} {a : Nat} (h : Suf s a []) : a = s.size := by have := h.len; simpa using this
theorem Suf.cons {s : ByteArray} {a : Nat} {c : UInt8} {r : List UInt8} (h : Suf s a (c :: r)) : ∃ hlt : a < s.size, s[a] = c ∧ Suf s (a + 1) r := by
  have hl := h.len
  simp only [List.length_cons] at hl
  have hlt : a < s.size := by omega
  refine ⟨hlt, ?_, by omega, ?_⟩
  · have := h.eq
    rw [List.drop_eq_getElem_cons (by rw [dlen]; exact hlt)] at this
    exact (List.cons.inj this).1
  · have := h.eq
    rw [List.drop_eq_getElem_cons (by rw [dlen]; exact hlt)] at this
    exact (List.cons.inj this).2
theorem Suf.back {s : ByteArray} {a : Nat} {r : List UInt8} (h : Suf s (a + 1) r) : ∃ hlt : a < s.size, Suf s a (s[a] :: r) := by
  have hlt : a < s.size := by have := h.le; omega
  refine ⟨hlt, by omega, ?_⟩
  rw [List.drop_eq_getElem_cons (by rw [dlen]; exact hlt), h.eq]
  rfl
theorem Suf.head {s : ByteArray} {a : Nat} {r : List UInt8} (h : Suf s a r) : (a = s.size ∧ r = []) ∨ ∃ (hlt : a < s.size) (r1 : List UInt8), r = s[a] :: r1 ∧ Suf s (a + 1) r1 := by
  cases r with
  | nil => exact .inl ⟨h.nil, rfl⟩
  | cons c r => obtain ⟨hlt, e, h2⟩ := h.cons; exact .inr ⟨hlt, r, by rw [e], h2⟩
end Go.Proofs.Ytkdfobnkebkpfaa

/- regex.reader: next, take, digit. -/
namespace Go.Proofs.Ytkdfobnkebkpfaa
open Go.RowKit Go.Shelf

attribute [local go_sem] Oper.semAt_some

/-- The reader stands at a place of its text. -/
def At (w : World) (rb : Nat) (s : ByteArray) (a : Nat) : Prop := Blk w rb 60 [.string s, .int .i64 (a : Int)]
/-- A panic with a place. -/
def flt (a : Nat) : Ending := .panicked [{ v := .iface 58 (.int .i64 (a : Int)), recovered := false }]
/-- What a call of the reader comes to. -/
def Ans {α : Type} (V : α → World → Value → Prop) (w : World) (rb : Nat) (s : ByteArray) (x : Rd α) (e : Ending) (w' : World) : Prop :=
  match x with
  | .ok v r => ∃ a val, Suf s a r ∧ e = .returned val ∧ V v w' val ∧ At w' rb s a ∧ w.grownBy w' (some rb)
  | .bad r => ∃ a, Suf s a r ∧ e = flt a ∧ w.grownBy w' (some rb)
def u8V (v : UInt8) (_ : World) (val : Value) : Prop := val = .int .u8 (v.toNat : Int)

theorem flt_eq {x : Int} {a : Nat} (h : x = (a : Int)) : Ending.panicked [{ v := .iface 58 (.int .i64 x), recovered := false }] = flt a := by rw [h]; rfl
theorem Ans.cast {α : Type} {V : α → World → Value → Prop} {w : World} {rb : Nat} {s : ByteArray} {x : Rd α} {e e' : Ending} {w' : World} (h : e' = e) (k : Ans V w rb s x e w') : Ans V w rb s x e' w' := by rw [h]; exact k

theorem Ans.bad' {α : Type} {V : α → World → Value → Prop} {w : World} {rb : Nat} {s : ByteArray} {x : Rd α} {w' : World} {r : List UInt8} {a : Nat} (hx : x = .bad r) (hS : Suf s a r) (hg : w.grownBy w' (some rb)) : Ans V w rb s x (.panicked [{ v := .iface 58 (.int .i64 (a : Int)), recovered := false }]) w' := by rw [hx]; exact ⟨a, hS, rfl, hg⟩
theorem Ans.ok' {α : Type} {V : α → World → Value → Prop} {w : World} {rb : Nat} {s : ByteArray} {x : Rd α} {w' : World} {r : List UInt8} {a : Nat} {v : α} {val : Value} (hx : x = .ok v r) (hS : Suf s a r) (hV : V v w' val) (hA : At w' rb s a) (hg : w.grownBy w' (some rb)) : Ans V w rb s x (.returned val) w' := by rw [hx]; exact ⟨a, val, hS, rfl, hV, hA, hg⟩

theorem At.cells {w : World} {rb : Nat} {s : ByteArray} {a : Nat} (h : At w rb s a) : w.cell? ⟨rb, 0, none⟩ = some (.string s) ∧ w.cell? ⟨rb, 1, none⟩ = some (.int .i64 (a : Int)) := ⟨h.cell 0, h.cell 1⟩
theorem At.set {w : World} {rb : Nat} {s : ByteArray} {a : Nat} (h : At w rb s a) (k : Nat) (v : Value) (hv : v = .int .i64 (k : Int)) : At (w.setCell ⟨rb, 1, none⟩ v) rb s k := by
  subst hv; exact Blk.set h 1 _
theorem At.drewN {w : World} {rb : Nat} {s : ByteArray} {a : Nat} (h : At w rb s a) (k : Nat) : At (w.drewN k) rb s a := h
theorem grownBy_drewN (w : World) (k : Nat) (r : Option Nat) : w.grownBy (w.drewN k) r := ⟨rfl, rfl, rfl, Nat.le_refl _, fun _ _ _ => rfl⟩
theorem grownBy_rb {a b c : World} {r : Option Nat} (h : a.grownBy b r) (k : b.grownBy c r) : a.grownBy c r := grownBy_trans h k (fun _ e => .inl e)
theorem grownBy_refl (w : World) (r : Option Nat) : w.grownBy w r := ⟨rfl, rfl, rfl, Nat.le_refl _, fun _ _ _ => rfl⟩

set_option maxRecDepth 100000 in
set_option maxHeartbeats 400000 in
theorem next_end (w : World) (rb : Nat) (s : ByteArray) (a : Nat) (hA : At w rb s a) (ha : a = s.size) (hs : s.size ≤ 4096) :
    Calls Try.prog 94 #[.pointer (some ⟨rb, 0, none⟩)] w fun e w' => e = flt a ∧ w.grownBy w' (some rb) := by
  obtain ⟨c0, c1⟩ := hA.cells
  have hq : ((a : Int) == (s.size : Int)) = true := by simp [ha]
  have hF : Hid (∀ W : World, flt a = .panicked [{ v := .iface 58 (.int .i64 (a : Int)), recovered := false }]) := Lib.hid (fun _ => rfl)
  clear ha
  go_enter Try.func94, Try.ntmps94
  go_wp2_with (fail)
  go_quiet (fail)
  go_wp2_with (fail)
  exact ⟨rfl, rfl, grownBy_drewN w _ _⟩

set_option maxRecDepth 100000 in
set_option maxHeartbeats 400000 in
theorem next_ok (w : World) (rb : Nat) (s : ByteArray) (a : Nat) (hA : At w rb s a) (ha : a < s.size) (hs : s.size ≤ 4096) :
    Calls Try.prog 94 #[.pointer (some ⟨rb, 0, none⟩)] w fun e w' => e = .returned (.int .u8 (s[a].toNat : Int)) ∧ At w' rb s (a + 1) ∧ w.grownBy w' (some rb) := by
  obtain ⟨c0, c1⟩ := hA.cells
  have hq : ((a : Int) == (s.size : Int)) = false := by simp; omega
  have hlt := hA.lt
  have f1 := hA.frozen 1
  go_enter Try.func94, Try.ntmps94
  go_wp2_with (fail)
  go_quiet (fail)
  go_wp2_with (fail)
  have hA2 := (hA.drewN nq).set (a + 1) (.int .i64 ((a : Int) + 1)) (by simp)
  have hg2 := grownBy_rb (grownBy_drewN w nq (some rb)) (grownBy_set (w.drewN nq) rb 1 (.int .i64 ((a : Int) + 1)))
  have d1 : ((w.drewN nq).setCell ⟨rb, 1, none⟩ (.int .i64 ((a : Int) + 1))).cell? ⟨rb, 1, none⟩ = some (.int .i64 ((a : Int) + 1)) := by
    have := hA2.cells.2
    rw [this]; simp
  have d0 := hA2.cells.1
  generalize (w.drewN nq).setCell ⟨rb, 1, none⟩ (.int .i64 ((a : Int) + 1)) = W at hA2 hg2 d0 d1 ⊢
  clear c0 c1 hlt f1 hq hA
  have hi : (a : Int) < (s.size : Int) := by omega
  have hw1 : IntKind.i64.wrap ((a : Int) + 1 - 1) = (a : Int) := by rw [IntKind.wrap_i64]; omega
  go_quiet (fail)
  go_wp2_with (fail)
  go_ret
  exact ⟨rfl, hA2.drewN _, grownBy_rb hg2 (grownBy_drewN _ _ _)⟩

theorem headIs_lt {s : ByteArray} {a : Nat} {r : List UInt8} {c : UInt8} (hS : Suf s a r) (h : headIs c r = true) : ∃ hlt : a < s.size, s[a] = c ∧ Suf s (a + 1) r.tail := by
  rcases hS.head with ⟨_, rfl⟩ | ⟨hlt, r1, rfl, h2⟩
  · cases h
  · exact ⟨hlt, by simpa [headIs] using h, h2⟩

set_option maxRecDepth 100000 in
set_option maxHeartbeats 400000 in
theorem take_yes (w : World) (rb : Nat) (s : ByteArray) (a : Nat) (r : List UInt8) (c : UInt8) (cv : Int) (hcv : cv = (c.toNat : Int)) (hA : At w rb s a) (hS : Suf s a r) (hs : s.size ≤ 4096) (hh : headIs c r = true) :
    Calls Try.prog 57 #[.pointer (some ⟨rb, 0, none⟩), .int .u8 cv] w fun e w' => e = .returned (.bool true) ∧ At w' rb s (a + 1) ∧ w.grownBy w' (some rb) := by
  obtain ⟨c0, c1⟩ := hA.cells
  obtain ⟨ha, hc, _⟩ := headIs_lt hS hh
  have hq : ((a : Int) == (s.size : Int)) = false := by simp; omega
  have hlt := hA.lt
  have f1 := hA.frozen 1
  have hi : (a : Int) < (s.size : Int) := by omega
  have hn : ((s[a].toNat : Int) != cv) = false := by rw [hcv, hc]; simp
  clear hS hc hcv hh
  go_enter Try.func57, Try.ntmps57
  go_wp2_with (fail)
  go_quiet (fail)
  go_wp2_with (fail)
  have hA2 := (hA.drewN nq).set (a + 1) (.int .i64 ((a : Int) + 1)) (by simp)
  have hg2 := grownBy_rb (grownBy_drewN w nq (some rb)) (grownBy_set (w.drewN nq) rb 1 (.int .i64 ((a : Int) + 1)))
  go_ret
  exact ⟨rfl, hA2, hg2⟩

set_option maxRecDepth 100000 in
set_option maxHeartbeats 400000 in
theorem take_no (w : World) (rb : Nat) (s : ByteArray) (a : Nat) (r : List UInt8) (c : UInt8) (cv : Int) (hcv : cv = (c.toNat : Int)) (hA : At w rb s a) (hS : Suf s a r) (hs : s.size ≤ 4096) (hh : headIs c r = false) :
    Calls Try.prog 57 #[.pointer (some ⟨rb, 0, none⟩), .int .u8 cv] w fun e w' => e = .returned (.bool false) ∧ At w' rb s a ∧ w.grownBy w' (some rb) := by
  obtain ⟨c0, c1⟩ := hA.cells
  rcases hS.head with ⟨he, rfl⟩ | ⟨ha, r1, rfl, h2⟩
  · have hq : ((a : Int) == (s.size : Int)) = true := by simp [he]
    clear he hcv hS
    go_enter Try.func57, Try.ntmps57
    go_wp2_with (fail)
    go_quiet (fail)
    go_wp2_with (fail)
    go_ret
    exact ⟨rfl, hA.drewN _, grownBy_drewN _ _ _⟩
  · have hq : ((a : Int) == (s.size : Int)) = false := by simp; omega
    have hi : (a : Int) < (s.size : Int) := by omega
    have hn : ((s[a].toNat : Int) != cv) = true := by
      rw [hcv]
      simp only [headIs, beq_eq_false_iff_ne, ne_eq] at hh
      have : s[a].toNat ≠ c.toNat := fun e => hh (UInt8.toNat_inj.1 e)
      simp; omega
    clear hS hcv hh h2
    go_enter Try.func57, Try.ntmps57
    go_wp2_with (fail)
    go_quiet (fail)
    go_wp2_with (fail)
    go_ret
    exact ⟨rfl, hA.drewN _, grownBy_drewN _ _ _⟩

theorem ret_u8 {a b : Int} (h : a = b) : Ending.returned (.int .u8 a) = .returned (.int .u8 b) := by rw [h]

set_option maxRecDepth 100000 in
set_option maxHeartbeats 1000000 in
theorem digit_any (w : World) (rb : Nat) (s : ByteArray) (a : Nat) (r : List UInt8) (hA : At w rb s a) (hS : Suf s a r) (hs : s.size ≤ 4096) :
    Calls Try.prog 98 #[.pointer (some ⟨rb, 0, none⟩)] w (Ans u8V w rb s (digitP r)) := by
  rcases hS.head with ⟨he, rfl⟩ | ⟨ha, r1, rfl, h2⟩
  · have hn := next_end w rb s a hA he hs
    have HP : Hid (∀ w', w.grownBy w' (some rb) → Ans u8V w rb s (digitP []) (flt a) w') := Lib.hid (fun w' hg => ⟨a, hS, rfl, hg⟩)
    clear he hS
    go_enter Try.func98, Try.ntmps98
    go_wp2_with (go_at_call 94; (with_reducible refine hn.mono ?_); rintro e w2 ⟨he, hg⟩; unfold flt at he; subst he)
    exact ⟨rfl, HP.out w2 hg⟩
  · have hn := next_ok w rb s a hA ha hs
    obtain ⟨c, hc⟩ : ∃ c, Hid (s[a] = c) := ⟨_, Lib.hid rfl⟩
    rw [hc.out] at hn hS ⊢
    have hu : c.toNat < 256 := c.toNat_lt
    have HV : Hid (∀ v w' , hexV c = some v → At w' rb s (a + 1) → w.grownBy w' (some rb) → Ans u8V w rb s (digitP (c :: r1)) (.returned (.int .u8 (v.toNat : Int))) w') := Lib.hid (fun v w' hv hA' hg => by
      simp only [digitP, hv]; exact ⟨a + 1, _, h2, rfl, rfl, hA', hg⟩)
    have HB : Hid (∀ w', hexV c = none → w.grownBy w' (some rb) → Ans u8V w rb s (digitP (c :: r1)) (flt a) w') := Lib.hid (fun w' hv hg => by
      simp only [digitP, hv]; exact ⟨a, hS, rfl, hg⟩)
    clear hS
    have n1 : (48 : Int) ≤ (c.toNat : Int) ∧ (c.toNat : Int) ≤ 57 ∨ (97 : Int) ≤ (c.toNat : Int) ∧ (c.toNat : Int) ≤ 102 ∨ (65 : Int) ≤ (c.toNat : Int) ∧ (c.toNat : Int) ≤ 70 ∨ ((¬ ((48 : Int) ≤ (c.toNat : Int)) ∨ ¬ (c.toNat : Int) ≤ 57) ∧ (¬ ((97 : Int) ≤ (c.toNat : Int)) ∨ ¬ (c.toNat : Int) ≤ 102) ∧ (¬ ((65 : Int) ≤ (c.toNat : Int)) ∨ ¬ (c.toNat : Int) ≤ 70)) := by omega
    rcases n1 with ⟨p1, p2⟩ | ⟨p1, p2⟩ | ⟨p1, p2⟩ | ⟨p1, p2, p3⟩
    · have hv : Hid (hexV c = some (c - 48)) := Lib.hid (by unfold hexV; rw [if_pos ⟨by omega, by omega⟩])
      have ht : Hid (((c - 48).toNat : Int) = (c.toNat : Int) - 48) := Lib.hid (by
        rw [UInt8.toNat_sub_of_le _ _ (by rw [UInt8.le_iff_toNat_le]; show 48 ≤ c.toNat; omega)]; show ((c.toNat - 48 : Nat) : Int) = _; omega)
      go_enter Try.func98, Try.ntmps98
      go_wp2_with (go_at_call 94; (with_reducible refine hn.mono ?_); rintro e w2 ⟨rfl, hA2, hg⟩)
      go_ret
      rw [← ht.out]
      exact HV.out _ _ hv.out hA2 hg
    · have hv : Hid (hexV c = some (c - 97 + 10)) := Lib.hid (by unfold hexV; rw [if_neg (by omega), if_pos ⟨by omega, by omega⟩])
      have ht : Hid (((c - 97 + 10).toNat : Int) = (c.toNat : Int) - 97 + 10) := Lib.hid (by
        rw [UInt8.toNat_add, UInt8.toNat_sub_of_le _ _ (by rw [UInt8.le_iff_toNat_le]; show 97 ≤ c.toNat; omega)]; show (((c.toNat - 97 + 10) % 256 : Nat) : Int) = _; omega)
      have q1 : ¬ (c.toNat : Int) ≤ 57 := by omega
      go_enter Try.func98, Try.ntmps98
      go_wp2_with (go_at_call 94; (with_reducible refine hn.mono ?_); rintro e w2 ⟨rfl, hA2, hg⟩)
      go_ret
      rw [← ht.out]
      exact HV.out _ _ hv.out hA2 hg
    · have hv : Hid (hexV c = some (c - 65 + 10)) := Lib.hid (by unfold hexV; rw [if_neg (by omega), if_neg (by omega), if_pos ⟨by omega, by omega⟩])
      have ht : Hid (((c - 65 + 10).toNat : Int) = (c.toNat : Int) - 65 + 10) := Lib.hid (by
        rw [UInt8.toNat_add, UInt8.toNat_sub_of_le _ _ (by rw [UInt8.le_iff_toNat_le]; show 65 ≤ c.toNat; omega)]; show (((c.toNat - 65 + 10) % 256 : Nat) : Int) = _; omega)
      have q1 : ¬ (c.toNat : Int) ≤ 57 := by omega
      have q2 : ¬ (97 : Int) ≤ (c.toNat : Int) := by omega
      go_enter Try.func98, Try.ntmps98
      go_wp2_with (go_at_call 94; (with_reducible refine hn.mono ?_); rintro e w2 ⟨rfl, hA2, hg⟩)
      go_ret
      rw [← ht.out]
      exact HV.out _ _ hv.out hA2 hg
    · have hv : Hid (hexV c = none) := Lib.hid (by unfold hexV; rw [if_neg (by omega), if_neg (by omega), if_neg (by omega)])
      rcases p1 with p1 | p1 <;> rcases p2 with p2 | p2 <;> rcases p3 with p3 | p3
      all_goals first | (exfalso; omega) | skip
      all_goals
        go_enter Try.func98, Try.ntmps98
        go_wp2_with (go_at_call 94; (with_reducible refine hn.mono ?_); rintro e w2 ⟨rfl, hA2, hg⟩; obtain ⟨d0, d1⟩ := hA2.cells)
        refine ⟨rfl, Ans.cast ?_ (HB.out w2 hv.out hg)⟩
        refine flt_eq ?_
        omega

theorem spec_arg (c : UInt8) : Lib.indexByte (ByteArray.mk #[92, 124, 42, 43, 63, 40, 41, 91, 93, 46, 94, 45]).data.toList (c.toNat : Int).toNat.toUInt8 = Lib.indexByte specials c := by
  rw [Int.toNat_natCast, show c.toNat.toUInt8 = c from by simp]; rfl

/-- What a call of the reader answers, whichever it is: for a caller. -/
theorem Ans.parts {α : Type} {V : α → World → Value → Prop} {w : World} {rb : Nat} {s : ByteArray} {x : Rd α} {e : Ending} {w' : World} (h : Ans V w rb s x e w') :
    (∃ v r a val, x = .ok v r ∧ Suf s a r ∧ e = .returned val ∧ V v w' val ∧ At w' rb s a ∧ w.grownBy w' (some rb)) ∨ (∃ r a, x = .bad r ∧ Suf s a r ∧ e = .panicked [{ v := .iface 58 (.int .i64 (a : Int)), recovered := false }] ∧ w.grownBy w' (some rb)) := by
  cases x with
  | ok v r => obtain ⟨a, val, h1, h2, h3, h4, h5⟩ := h; exact .inl ⟨v, r, a, val, rfl, h1, h2, h3, h4, h5⟩
  | bad r => obtain ⟨a, h1, h2, h3⟩ := h; exact .inr ⟨r, a, rfl, h1, h2, h3⟩

set_option maxRecDepth 100000 in
theorem or_nib : ∀ h : Fin 16, ∀ l : Fin 16, bits .or .u8 (((h.val : Nat) : Int) * 16) ((l.val : Nat) : Int) = ((16 * h.val + l.val : Nat) : Int) := by decide
theorem or_low (h l : Nat) (hh : h < 16) (hl : l < 16) : bits .or .u8 ((h : Int) * 16) (l : Int) = ((16 * h + l : Nat) : Int) := or_nib ⟨h, hh⟩ ⟨l, hl⟩
theorem hexV_lt {c v : UInt8} (h : hexV c = some v) : v.toNat < 16 := by
  unfold hexV at h
  have hu : c.toNat < 256 := c.toNat_lt
  split at h
  · rename_i hc
    cases h
    rw [UInt8.toNat_sub_of_le _ _ (by rw [UInt8.le_iff_toNat_le]; exact hc.1)]
    show c.toNat - 48 < 16
    omega
  · split at h
    · rename_i hc
      cases h
      rw [UInt8.toNat_add, UInt8.toNat_sub_of_le _ _ (by rw [UInt8.le_iff_toNat_le]; exact hc.1)]
      show (c.toNat - 97 + 10) % 256 < 16
      omega
    · split at h
      · rename_i hc
        cases h
        rw [UInt8.toNat_add, UInt8.toNat_sub_of_le _ _ (by rw [UInt8.le_iff_toNat_le]; exact hc.1)]
        show (c.toNat - 65 + 10) % 256 < 16
        omega
      · cases h
theorem digitP_lt {r r' : List UInt8} {v : UInt8} (h : digitP r = .ok v r') : v.toNat < 16 := by
  cases r with
  | nil => cases h
  | cons c r =>
    simp only [digitP] at h
    split at h
    · rename_i hv; cases h; exact hexV_lt hv
    · cases h
theorem shl4 (h : UInt8) (hh : h.toNat < 16) : IntKind.u8.wrap ((h.toNat : Int) * 2 ^ 4) = ((16 * h.toNat : Nat) : Int) := by
  rw [IntKind.wrap_u8]; omega

set_option maxRecDepth 100000 in
set_option maxHeartbeats 1000000 in
theorem escape_any (w : World) (rb : Nat) (s : ByteArray) (a : Nat) (r : List UInt8) (hA : At w rb s a) (hS : Suf s a r) (hs : s.size ≤ 4096) :
    Calls Try.prog 95 #[.pointer (some ⟨rb, 0, none⟩)] w (Ans u8V w rb s (escP r)) := by
  rcases hS.head with ⟨he, rfl⟩ | ⟨ha, r1, rfl, h2⟩
  · have hn := next_end w rb s a hA he hs
    have HP : Hid (∀ w', w.grownBy w' (some rb) → Ans u8V w rb s (escP []) (flt a) w') := Lib.hid (fun w' hg => ⟨a, hS, rfl, hg⟩)
    clear he hS
    go_enter Try.func95, Try.ntmps95
    go_wp2_with (go_at_call 94; (with_reducible refine hn.mono ?_); rintro e w2 ⟨he, hg⟩; unfold flt at he; subst he)
    exact ⟨rfl, HP.out w2 hg⟩
  · have hn := next_ok w rb s a hA ha hs
    obtain ⟨c, hc⟩ : ∃ c, Hid (s[a] = c) := ⟨_, Lib.hid rfl⟩
    rw [hc.out] at hn hS ⊢
    have hu : c.toNat < 256 := c.toNat_lt
    have hV : ∀ v w' , escP (c :: r1) = .ok v r1 → At w' rb s (a + 1) → w.grownBy w' (some rb) → Ans u8V w rb s (escP (c :: r1)) (.returned (.int .u8 (v.toNat : Int))) w' := fun v w' hv hA' hg => by
      rw [hv]; exact ⟨a + 1, _, h2, rfl, rfl, hA', hg⟩
    have HV := Lib.hid hV
    have HB : Hid (∀ w', escP (c :: r1) = .bad (c :: r1) → w.grownBy w' (some rb) → Ans u8V w rb s (escP (c :: r1)) (flt a) w') := Lib.hid (fun w' hv hg => by
      rw [hv]; exact ⟨a, hS, rfl, hg⟩)
    have hne : ∀ k : Nat, k < 256 → ¬ c = UInt8.ofNat k → ¬ (c.toNat : Int) = (k : Int) := fun k hk h e => h (UInt8.toNat_inj.1 (by simp; omega))
    clear hS hV
    by_cases h110 : c = 110
    · subst h110
      go_enter Try.func95, Try.ntmps95
      go_wp2_with (go_at_call 94; (with_reducible refine hn.mono ?_); rintro e w2 ⟨rfl, hA2, hg⟩)
      go_ret
      exact HV.out 10 w2 rfl hA2 hg
    by_cases h116 : c = 116
    · subst h116
      go_enter Try.func95, Try.ntmps95
      go_wp2_with (go_at_call 94; (with_reducible refine hn.mono ?_); rintro e w2 ⟨rfl, hA2, hg⟩)
      go_ret
      exact HV.out 9 w2 rfl hA2 hg
    by_cases h114 : c = 114
    · subst h114
      go_enter Try.func95, Try.ntmps95
      go_wp2_with (go_at_call 94; (with_reducible refine hn.mono ?_); rintro e w2 ⟨rfl, hA2, hg⟩)
      go_ret
      exact HV.out 13 w2 rfl hA2 hg
    have n110 := hne 110 (by omega) h110
    have n116 := hne 116 (by omega) h116
    have n114 := hne 114 (by omega) h114
    by_cases h120 : c = 120
    · subst h120
      have hE : Hid (escP (120 :: r1) = match digitP r1 with
        | .bad b => .bad b
        | .ok h r1 => match digitP r1 with
          | .bad b => .bad b
          | .ok l r2 => .ok (UInt8.ofNat (16 * h.toNat + l.toNat)) r2) := Lib.hid rfl
      clear n110 n116 n114 h110 h116 h114 hne HV HB
      go_enter Try.func95, Try.ntmps95
      go_wp2_with (go_at_call 94; (with_reducible refine hn.mono ?_); rintro e w2 ⟨rfl, hA2, hg⟩)
      refine (digit_any w2 rb s (a + 1) r1 hA2 h2 hs).mono ?_
      rintro e w3 hans
      rcases hans.parts with ⟨hv, r2, a3, val, hd, hS3, rfl, hval, hA3, hg3⟩ | ⟨r2, a3, hd, hS3, rfl, hg3⟩
      · unfold u8V at hval
        subst hval
        have hv16 : hv.toNat < 16 := digitP_lt hd
        have hsh := shl4 hv hv16
        have HD := Lib.hid hd
        clear hd hans
        go_wp2_with (fail)
        refine (digit_any w3 rb s a3 r2 hA3 hS3 hs).mono ?_
        rintro e w4 hans
        rcases hans.parts with ⟨lv, r4, a4, val, hd, hS4, rfl, hval, hA4, hg4⟩ | ⟨r4, a4, hd, hS4, rfl, hg4⟩
        · unfold u8V at hval
          subst hval
          have hor := Lib.hid (or_low hv.toNat lv.toNat hv16 (digitP_lt hd))
          go_wp2_with (fail)
          go_ret
          rw [hor.out]
          refine Ans.ok' (v := UInt8.ofNat (16 * hv.toNat + lv.toNat)) (by rw [hE.out, HD.out]; simp only [hd]) hS4 ?_ hA4 (grownBy_rb (grownBy_rb hg hg3) hg4)
          have := digitP_lt hd
          unfold u8V
          rw [UInt8.toNat_ofNat', Nat.mod_eq_of_lt (show 16 * hv.toNat + lv.toNat < 2 ^ 8 by omega)]
          rfl
        · go_wp2_with (fail)
          exact ⟨rfl, Ans.bad' (by rw [hE.out, HD.out]; simp only [hd]) hS4 (grownBy_rb (grownBy_rb hg hg3) hg4)⟩
      · go_wp2_with (fail)
        exact ⟨rfl, Ans.bad' (by rw [hE.out, hd]) hS3 (grownBy_rb hg hg3)⟩
    have n120 := hne 120 (by omega) h120
    have hidx := Lib.hid (spec_arg c)
    by_cases hb : 0 ≤ Lib.indexByte specials c
    · have hE : Hid (escP (c :: r1) = .ok c r1) := Lib.hid (by simp [escP, h110, h116, h114, h120, barB, hb])
      have hb2 : ¬ Lib.indexByte specials c < 0 := by omega
      clear h110 h116 h114 h120 hne
      go_enter Try.func95, Try.ntmps95
      go_wp2_with (first | (go_at_call 94; (with_reducible refine hn.mono ?_); rintro e w2 ⟨rfl, hA2, hg⟩) | (go_at_call 81; (with_reducible refine (Try.strings_IndexByte _ _ _).mono ?_); rintro e w3 ⟨rfl, hww⟩; subst w3; rw [hidx.out]))
      go_ret
      exact HV.out c w2 hE.out hA2 hg
    · have hE : Hid (escP (c :: r1) = .bad (c :: r1)) := Lib.hid (by simp [escP, h110, h116, h114, h120, barB, hb])
      have hb2 : Lib.indexByte specials c < 0 := by omega
      clear h110 h116 h114 h120 hne hb
      go_enter Try.func95, Try.ntmps95
      go_wp2_with (first | (go_at_call 94; (with_reducible refine hn.mono ?_); rintro e w2 ⟨rfl, hA2, hg⟩; obtain ⟨d0, d1⟩ := hA2.cells) | (go_at_call 81; (with_reducible refine (Try.strings_IndexByte _ _ _).mono ?_); rintro e w3 ⟨rfl, hww⟩; subst w3; rw [hidx.out]))
      refine ⟨rfl, Ans.cast ?_ (HB.out w2 hE.out hg)⟩
      refine flt_eq ?_
      omega

set_option maxRecDepth 100000 in
set_option maxHeartbeats 1000000 in
theorem letter_any (w : World) (rb : Nat) (s : ByteArray) (a : Nat) (r : List UInt8) (bar : ByteArray) (hA : At w rb s a) (hS : Suf s a r) (hs : s.size ≤ 4096) :
    Calls Try.prog 87 #[.pointer (some ⟨rb, 0, none⟩), .string bar] w (Ans u8V w rb s (letP bar.data.toList r)) := by
  rcases hS.head with ⟨he, rfl⟩ | ⟨ha, r1, rfl, h2⟩
  · have hn := next_end w rb s a hA he hs
    have HP : Hid (∀ w', w.grownBy w' (some rb) → Ans u8V w rb s (letP bar.data.toList []) (flt a) w') := Lib.hid (fun w' hg => ⟨a, hS, rfl, hg⟩)
    clear he hS
    go_enter Try.func87, Try.ntmps87
    go_wp2_with (go_at_call 94; (with_reducible refine hn.mono ?_); rintro e w2 ⟨he, hg⟩; unfold flt at he; subst he)
    exact ⟨rfl, HP.out w2 hg⟩
  · have hn := next_ok w rb s a hA ha hs
    obtain ⟨c, hc⟩ : ∃ c, Hid (s[a] = c) := ⟨_, Lib.hid rfl⟩
    rw [hc.out] at hn hS ⊢
    have hu : c.toNat < 256 := c.toNat_lt
    have HS := Lib.hid hS
    clear hS
    by_cases h92 : c = 92
    · subst h92
      have hE : Hid (letP bar.data.toList (92 :: r1) = escP r1) := Lib.hid rfl
      go_enter Try.func87, Try.ntmps87
      go_wp2_with (go_at_call 94; (with_reducible refine hn.mono ?_); rintro e w2 ⟨rfl, hA2, hg⟩)
      refine (escape_any w2 rb s (a + 1) r1 hA2 h2 hs).mono ?_
      rintro e w3 hans
      rcases hans.parts with ⟨v, r2, a3, val, hd, hS3, rfl, hval, hA3, hg3⟩ | ⟨r2, a3, hd, hS3, rfl, hg3⟩
      · have HD := Lib.hid hd
        clear hd hans
        go_wp2_with (fail)
        go_ret
        exact Ans.ok' (by rw [hE.out, HD.out]) hS3 hval hA3 (grownBy_rb hg hg3)
      · go_wp2_with (fail)
        exact ⟨rfl, Ans.bad' (by rw [hE.out, hd]) hS3 (grownBy_rb hg hg3)⟩
    have n92 : ¬ (c.toNat : Int) = 92 := fun e => h92 (UInt8.toNat_inj.1 (by show c.toNat = 92; omega))
    have hidx : Hid (Lib.indexByte bar.data.toList (c.toNat : Int).toNat.toUInt8 = Lib.indexByte bar.data.toList c) := Lib.hid (by rw [Int.toNat_natCast, show c.toNat.toUInt8 = c from by simp])
    by_cases hb : 0 ≤ Lib.indexByte bar.data.toList c
    · have hE : Hid (letP bar.data.toList (c :: r1) = .bad (c :: r1)) := Lib.hid (by simp [letP, h92, barB, hb])
      clear h92
      go_enter Try.func87, Try.ntmps87
      go_wp2_with (first | (go_at_call 94; (with_reducible refine hn.mono ?_); rintro e w2 ⟨rfl, hA2, hg⟩; obtain ⟨d0, d1⟩ := hA2.cells) | (go_at_call 81; (with_reducible refine (Try.strings_IndexByte _ _ _).mono ?_); rintro e w3 ⟨rfl, hww⟩; subst w3; rw [hidx.out]))
      refine ⟨rfl, Ans.cast ?_ (Ans.bad' (a := a) hE.out HS.out hg)⟩
      refine flt_eq ?_
      omega
    · have hE : Hid (letP bar.data.toList (c :: r1) = .ok c r1) := Lib.hid (by simp [letP, h92, barB, hb])
      clear h92
      go_enter Try.func87, Try.ntmps87
      go_wp2_with (first | (go_at_call 94; (with_reducible refine hn.mono ?_); rintro e w2 ⟨rfl, hA2, hg⟩; obtain ⟨d0, d1⟩ := hA2.cells) | (go_at_call 81; (with_reducible refine (Try.strings_IndexByte _ _ _).mono ?_); rintro e w3 ⟨rfl, hww⟩; subst w3; rw [hidx.out]))
      go_ret
      exact Ans.ok' hE.out h2 rfl hA2 hg
end Go.Proofs.Ytkdfobnkebkpfaa

/- regex.reader.item; ofSet; joined. -/
namespace Go.Proofs.Ytkdfobnkebkpfaa
open Go.RowKit Go.Shelf

attribute [local go_sem] Oper.semAt_some

def spV (x : Sp) (_ : World) (val : Value) : Prop := val = .agg #[.int .u8 (x.lo.toNat : Int), .int .u8 (x.hi.toNat : Int)]
theorem At.alloc {w : World} {rb : Nat} {s : ByteArray} {a : Nat} (h : At w rb s a) (o : Obj) : At (w.alloc o) rb s a := Blk.alloc h o
theorem grow_new {w w' : World} {r : Option Nat} {b : Nat} (h : w.grownBy w' r) (hb : w.heap.size ≤ b) (j : Nat) (v : Value) : w.grownBy (w'.setCell ⟨b, j, none⟩ v) r :=
  grownBy_trans h (grownBy_set w' b j v) (fun i e => .inr (by cases e; exact hb))
theorem Sps.setOther {w : World} {a : Option Addr} {cap b' j : Nat} {l : List Sp} (h : Sps w a cap l) (hne : ∀ b off, a = some ⟨b, off, none⟩ → b ≠ b') (v : Value) : Sps (w.setCell ⟨b', j, none⟩ v) a cap l :=
  ⟨h.le, h.max, h.nil_, h.at_, fun b off e i hi => by
    have hc : ∀ o, (w.setCell ⟨b', j, none⟩ v).cell? ⟨b, o, none⟩ = w.cell? ⟨b, o, none⟩ := fun o => by
      simp only [World.cell?]
      rw [Below.heap_setCell _ _ _ _ (by simpa using hne b off e)]
    exact ⟨(hc _).trans (h.cell b off e i hi).1, (hc _).trans (h.cell b off e i hi).2⟩⟩
theorem specials_arg : (ByteArray.mk #[92, 124, 42, 43, 63, 40, 41, 91, 93, 46, 94, 45]).data.toList = specials := rfl

set_option maxRecDepth 100000 in
set_option maxHeartbeats 1000000 in
theorem item_any (w : World) (rb : Nat) (s : ByteArray) (a : Nat) (r : List UInt8) (hA : At w rb s a) (hS : Suf s a r) (hs : s.size ≤ 4096) :
    Calls Try.prog 93 #[.pointer (some ⟨rb, 0, none⟩)] w (Ans spV w rb s (itemP r)) := by
  have hrb := hA.lt
  have hE : Hid (itemP r = match letP specials r with
    | .bad b => .bad b
    | .ok lo r1 => if headIs 45 r1 then (match letP specials r1.tail with
        | .bad b => .bad b
        | .ok hi r3 => if hi.toNat < lo.toNat then .bad r1.tail else .ok ⟨lo, hi⟩ r3)
      else .ok ⟨lo, lo⟩ r1) := Lib.hid rfl
  have hB0 := Blk.new w 52 #[.int .u8 0, .int .u8 0]
  have hg0 := World.grownBy_alloc w (.cells #[.int .u8 0, .int .u8 0] 52) (some rb)
  have hl := letter_any _ rb s a r (ByteArray.mk #[92, 124, 42, 43, 63, 40, 41, 91, 93, 46, 94, 45]) (hA.alloc (.cells #[.int .u8 0, .int .u8 0] 52)) hS hs
  rw [specials_arg] at hl
  have Hne : Hid (w.heap.size ≠ rb) := Lib.hid (by omega)
  clear hS hA
  go_enter Try.func93, Try.ntmps93
  go_wp2_with (fail)
  refine hl.mono ?_
  rintro e w1 hans
  rcases hans.parts with ⟨lo, r1, a1, val, hd, hS1, rfl, hval, hA1, hg1⟩ | ⟨r1, a1, hd, hS1, rfl, hg1⟩
  · have HD := Lib.hid hd
    unfold u8V at hval
    subst hval
    have hB1 := hB0.kept hg1 (by have := Hne.out; simp; omega)
    have hg01 := grownBy_rb hg0 hg1
    clear hd hans hl hB0 hg0 hg1
    by_cases hh : headIs 45 r1 = true
    · obtain ⟨hlt1, hc1, hS2⟩ := headIs_lt hS1 hh
      have ht := take_yes w1 rb s a1 r1 45 45 rfl hA1 hS1 hs hh
      have HH := Lib.hid hh
      clear hh hc1
      go_wp2_with (go_at_call 57; (with_reducible refine ht.mono ?_); rintro e w2 ⟨rfl, hA2, hg2⟩; obtain ⟨d0, d1⟩ := hA2.cells)
      have hl2 := letter_any _ rb s (a1 + 1) r1.tail (ByteArray.mk #[92, 124, 42, 43, 63, 40, 41, 91, 93, 46, 94, 45]) hA2 hS2 hs
      rw [specials_arg] at hl2
      have hB2 := hB1.kept hg2 (by have := Hne.out; simp; omega)
      have hg02 := grownBy_rb hg01 hg2
      clear ht hg2 hB1 hg01 d0 d1
      refine hl2.mono ?_
      rintro e w3 hans
      rcases hans.parts with ⟨hi, r3, a3, val, hd, hS3, rfl, hval, hA3, hg3⟩ | ⟨r3, a3, hd, hS3, rfl, hg3⟩
      · have HD3 := Lib.hid hd
        unfold u8V at hval
        subst hval
        have hB3 := hB2.kept hg3 (by have := Hne.out; simp; omega)
        have hg03 := grownBy_rb hg02 hg3
        clear hd hans hl2 hB2 hg02 hg3
        by_cases hlt : hi.toNat < lo.toNat
        · have hI : (hi.toNat : Int) < (lo.toNat : Int) := by omega
          go_wp2_with (fail)
          exact ⟨rfl, Ans.bad' (by rw [hE.out, HD.out]; simp only [HH.out, HD3.out, if_pos hlt, if_true]) hS2 hg03⟩
        · have hI : ¬ (hi.toNat : Int) < (lo.toNat : Int) := by omega
          have b0 := hB3.cell 0
          have b1 := hB3.cell 1
          have f0 := hB3.frozen 0
          have f1 := hB3.frozen 1
          have hblt := hB3.lt
          simp only [List.getElem?_cons_zero, List.getElem?_cons_succ] at b0 b1
          have hA4 : At ((w3.setCell ⟨w.heap.size, 0, none⟩ (.int .u8 (lo.toNat : Int))).setCell ⟨w.heap.size, 1, none⟩ (.int .u8 (hi.toNat : Int))) rb s a3 := (Blk.setOther hA3 (by have := Hne.out; omega) _).setOther (by have := Hne.out; omega) _
          go_wp2_with (fail)
          have hF := (hB3.set 0 (.int .u8 (lo.toNat : Int))).set 1 (.int .u8 (hi.toNat : Int))
          have g0 := hF.cell 0
          have g1 := hF.cell 1
          have hg04 := grow_new (grow_new hg03 (Nat.le_refl _) 0 (.int .u8 (lo.toNat : Int))) (Nat.le_refl _) 1 (.int .u8 (hi.toNat : Int))
          generalize (w3.setCell ⟨w.heap.size, 0, none⟩ (.int .u8 (lo.toNat : Int))).setCell ⟨w.heap.size, 1, none⟩ (.int .u8 (hi.toNat : Int)) = WF at hF hA4 hg04 g0 g1 ⊢
          simp only [List.set_cons_zero, List.set_cons_succ, List.getElem?_cons_zero, List.getElem?_cons_succ] at g0 g1
          refine bodyPost_ret (v := .agg #[.int .u8 (lo.toNat : Int), .int .u8 (hi.toNat : Int)]) ?_ rfl (Ans.ok' (v := Sp.mk lo hi) ?_ hS3 rfl hA4 hg04)
          · simp [results, Try.f93, go_sem, g0, g1]
          · rw [hE.out, HD.out]; simp only [HH.out, HD3.out, if_neg hlt, if_true]
      · have HD3 := Lib.hid hd
        have hg03 := grownBy_rb hg02 hg3
        clear hd hans
        go_wp2_with (fail)
        exact ⟨rfl, Ans.bad' (by rw [hE.out, HD.out]; simp only [HH.out, HD3.out, if_true]) hS3 hg03⟩
    · rw [Bool.not_eq_true] at hh
      have ht := take_no w1 rb s a1 r1 45 45 rfl hA1 hS1 hs hh
      have HH := Lib.hid hh
      clear hh
      go_wp2_with (go_at_call 57; (with_reducible refine ht.mono ?_); rintro e w2 ⟨rfl, hA2, hg2⟩; have hB2 := hB1.kept hg2 (by have := Hne.out; simp; omega); have b0 := hB2.cell 0; have b1 := hB2.cell 1; have f0 := hB2.frozen 0; have f1 := hB2.frozen 1; have hblt := hB2.lt; simp only [List.getElem?_cons_zero, List.getElem?_cons_succ] at b0 b1)
      have hg02 := grownBy_rb hg01 hg2
      have hA4 : At ((w2.setCell ⟨w.heap.size, 0, none⟩ (.int .u8 (lo.toNat : Int))).setCell ⟨w.heap.size, 1, none⟩ (.int .u8 (lo.toNat : Int))) rb s a1 := (Blk.setOther hA2 (by have := Hne.out; omega) _).setOther (by have := Hne.out; omega) _
      have hF := (hB2.set 0 (.int .u8 (lo.toNat : Int))).set 1 (.int .u8 (lo.toNat : Int))
      have g0 := hF.cell 0
      have g1 := hF.cell 1
      have hg04 := grow_new (grow_new hg02 (Nat.le_refl _) 0 (.int .u8 (lo.toNat : Int))) (Nat.le_refl _) 1 (.int .u8 (lo.toNat : Int))
      generalize (w2.setCell ⟨w.heap.size, 0, none⟩ (.int .u8 (lo.toNat : Int))).setCell ⟨w.heap.size, 1, none⟩ (.int .u8 (lo.toNat : Int)) = WF at hF hA4 hg04 g0 g1 ⊢
      simp only [List.set_cons_zero, List.set_cons_succ, List.getElem?_cons_zero, List.getElem?_cons_succ] at g0 g1
      refine bodyPost_ret (v := .agg #[.int .u8 (lo.toNat : Int), .int .u8 (lo.toNat : Int)]) ?_ rfl (Ans.ok' (v := Sp.mk lo lo) ?_ hS1 rfl hA4 hg04)
      · simp [results, Try.f93, go_sem, g0, g1]
      · rw [hE.out, HD.out]; simp only [HH.out, Bool.false_eq_true, if_false]
  · have hg01 := grownBy_rb hg0 hg1
    go_wp2_with (fail)
    exact ⟨rfl, Ans.bad' (by rw [hE.out, hd]) hS1 hg01⟩

set_option maxRecDepth 100000 in
set_option maxHeartbeats 1000000 in
theorem ofSet_any (w : World) (f : Nat → BitVec 64) (p : Nat → Bool) (hf : ∀ c, hasW f c = p c) :
    Calls Try.prog 84 #[.agg (wds f).toArray] w fun e w' => ∃ a cap, e = .returned (itemV ⟨2, spP p 256⟩ a cap none 0 0) ∧ Sps w' a cap (spP p 256) ∧ (∀ b off, a = some ⟨b, off, none⟩ → w.heap.size ≤ b) ∧ Below w.heap.size w w' := by
  have hsp := spans_any ((w.alloc (.cells (wds f).toArray 55)).alloc (.cells #[.int .i64 0, .slice none 0 0, .slice none 0 0] 25)) f
  have hfin : ∀ c, spK f c = spP p c := spK_P hf
  have hB0 := (Blk.new (w.alloc (.cells (wds f).toArray 55)) 25 #[.int .i64 0, .slice none 0 0, .slice none 0 0])
  rw [World.size_alloc] at hB0
  have hb0 : Below w.heap.size w ((w.alloc (.cells (wds f).toArray 55)).alloc (.cells #[.int .i64 0, .slice none 0 0, .slice none 0 0] 25)) := ((Below.refl _ w).alloc (Nat.le_refl _) _).alloc (by simp) _
  have hk := hfin 256
  rw [hk] at hsp
  have Hk := Lib.hid hk
  clear hf hfin hk
  unfold wds at hsp hB0 hb0 ⊢
  obtain ⟨SP, HSP⟩ : ∃ SP, Hid (spP p 256 = SP) := ⟨_, Lib.hid rfl⟩
  rw [HSP.out] at hsp ⊢
  obtain ⟨N, HN⟩ : ∃ N, Hid (SP.length = N) := ⟨_, Lib.hid rfl⟩
  go_enter Try.func84, Try.ntmps84
  go_wp2_with (go_at_call 39; (with_reducible refine hsp.mono ?_); rintro e w2 ⟨⟨a2, c2, rfl, hs2, hloc⟩, hb2⟩; have hB2 := hB0.below hb2 hB0.lt; have b0 := hB2.cell 0; have b1 := hB2.cell 1; have b2 := hB2.cell 2; have f0 := hB2.frozen 0; have f1 := hB2.frozen 1; have f2 := hB2.frozen 2; have hblt := hB2.lt; simp only [List.getElem?_cons_zero, List.getElem?_cons_succ] at b0 b1 b2)
  have hF := ((hB2.set 0 (.int .i64 2)).set 1 (.slice a2 SP.length c2)).set 2 (.slice none 0 0)
  have hbF := (((hb0.trans (hb2.mono hb0.size)).setCell (p := ⟨w.heap.size + 1, 0, none⟩) (by simp) (.int .i64 2)).setCell (p := ⟨w.heap.size + 1, 1, none⟩) (by simp) (.slice a2 SP.length c2)).setCell (p := ⟨w.heap.size + 1, 2, none⟩) (by simp) (.slice none 0 0)
  have hsF := ((hs2.setOther (b' := w.heap.size + 1) (j := 0) (fun b off e => by have := hloc b off e; simp at this; omega) (.int .i64 2)).setOther (b' := w.heap.size + 1) (j := 1) (fun b off e => by have := hloc b off e; simp at this; omega) (.slice a2 SP.length c2)).setOther (b' := w.heap.size + 1) (j := 2) (fun b off e => by have := hloc b off e; simp at this; omega) (.slice none 0 0)
  generalize ((w2.setCell ⟨w.heap.size + 1, 0, none⟩ (.int .i64 2)).setCell ⟨w.heap.size + 1, 1, none⟩ (.slice a2 SP.length c2)).setCell ⟨w.heap.size + 1, 2, none⟩ (.slice none 0 0) = WF at hF hbF hsF ⊢
  have g0 := hF.cell 0
  have g1 := hF.cell 1
  have g2 := hF.cell 2
  simp only [List.set_cons_zero, List.set_cons_succ, List.getElem?_cons_zero, List.getElem?_cons_succ] at g0 g1 g2
  refine bodyPost_ret (v := itemV ⟨2, SP⟩ a2 c2 none 0 0) ?_ rfl ⟨a2, c2, rfl, hsF, fun b off e => by have := hloc b off e; simp at this; omega, hbF⟩
  simp [results, Try.f84, go_sem, g0, g1, g2]
end Go.Proofs.Ytkdfobnkebkpfaa

/- Two sets of bytes compared. -/
namespace Go.Proofs.Ytkdfobnkebkpfaa
open Go.RowKit

theorem run_eq4 (w : World) (a b c d : Int) :
    (Op.equalIn 10000 55 (.agg #[.int .u64 a, .int .u64 b, .int .u64 c, .int .u64 d]) (.agg #[.int .u64 0, .int .u64 0, .int .u64 0, .int .u64 0])).run Try.prog w = .ok (a == 0 && (b == 0 && (c == 0 && d == 0))) w := by
  show (Op.equalIn (9998 + 1 + 1) _ _ _).run _ _ = _
  rw [Op.equalIn]
  have hsz : (sizeOf 53).run Try.prog w = .ok 1 w := by kernel_rfl
  have he : ∀ x y : Int, (Op.equalIn (9998 + 1) 53 (.int .u64 x) (.int .u64 y)).run Try.prog w = .ok (x == y) w := fun x y => run_equalIn_int w 9998 53 .u64 .u64 x y Try.underlying53
  simp only [Sem.run_bind, run_underlying Try.underlying55, Result.andThen_ok, hsz]
  simp [List.range', part, hsz, he]
  by_cases ha : a = 0 <;> by_cases hb : b = 0 <;> by_cases hc : c = 0 <;> by_cases hd : d = 0 <;> simp [ha, hb, hc, hd]
end Go.Proofs.Ytkdfobnkebkpfaa

/- regex.reader.class. -/
namespace Go.Proofs.Ytkdfobnkebkpfaa
open Go.RowKit Go.Shelf

attribute [local go_sem] Oper.semAt_some

theorem tail_lt {r : List UInt8} {c : UInt8} (h : headIs c r = true) : r.tail.length + 1 = r.length := by
  cases r with
  | nil => cases h
  | cons x r => simp
theorem escP_lt {r r' : List UInt8} {v : UInt8} (h : escP r = .ok v r') : r'.length < r.length := by
  have hd : ∀ {r r' : List UInt8} {v : UInt8}, digitP r = .ok v r' → r'.length < r.length := by
    intro r r' v h
    cases r with
    | nil => cases h
    | cons c r =>
      simp only [digitP] at h
      split at h
      · cases h; simp
      · cases h
  cases r with
  | nil => cases h
  | cons c r =>
    simp only [escP] at h
    split at h
    · cases h; simp
    split at h
    · cases h; simp
    split at h
    · cases h; simp
    split at h
    · split at h
      · cases h
      · rename_i h1 r1 e1
        split at h
        · cases h
        · rename_i l1 r2 e2
          cases h
          have := hd e1
          have := hd e2
          simp; omega
    split at h
    · cases h; simp
    · cases h
theorem letP_lt {bar r r' : List UInt8} {v : UInt8} (h : letP bar r = .ok v r') : r'.length < r.length := by
  cases r with
  | nil => cases h
  | cons c r =>
    simp only [letP] at h
    split at h
    · have := escP_lt h; simp; omega
    split at h
    · cases h
    · cases h; simp
theorem itemP_lt {r r' : List UInt8} {v : Sp} (h : itemP r = .ok v r') : r'.length < r.length := by
  unfold itemP at h
  split at h
  · cases h
  · rename_i lo r1 e1
    have h1 := letP_lt e1
    split at h
    · rename_i hh
      have ht := tail_lt hh
      split at h
      · cases h
      · rename_i hi r3 e3
        have h3 := letP_lt e3
        split at h
        · cases h
        · cases h; omega
    · cases h; exact h1

def clV (x : List Sp × Bool) (_ : World) (val : Value) : Prop := ∃ f, val = .agg (wds f).toArray ∧ ∀ c, hasW f c = setM x c

/-- No byte is left, just if the four words are nothing. -/
theorem all_zero (f : Nat → BitVec 64) (l : List Sp) (hf : ∀ c, hasW f c = !inSp l c) : allB l = true ↔ (f 0 = 0 ∧ f 1 = 0 ∧ f 2 = 0 ∧ f 3 = 0) := by
  unfold allB
  rw [List.all_eq_true]
  constructor
  · intro h
    have hz : ∀ q, q < 4 → f q = 0 := by
      intro q hq
      apply BitVec.eq_of_getLsbD_eq
      intro i hi
      have := hf (64 * q + i)
      unfold hasW at this
      rw [show (64 * q + i) / 64 = q from by omega, show (64 * q + i) % 64 = i from by omega, h (64 * q + i) (by simp; omega)] at this
      simpa using this
    exact ⟨hz 0 (by omega), hz 1 (by omega), hz 2 (by omega), hz 3 (by omega)⟩
  · rintro ⟨h0, h1, h2, h3⟩ c hc
    have hc : c < 256 := by simpa using hc
    have := hf c
    unfold hasW at this
    have hq : f (c / 64) = 0 := by
      have : c / 64 = 0 ∨ c / 64 = 1 ∨ c / 64 = 2 ∨ c / 64 = 3 := by omega
      rcases this with e | e | e | e <;> rw [e] <;> assumption
    rw [hq] at this
    simpa using this

theorem blk_put4 {w : World} {b : Nat} {e : TypeId} {c0 c1 c2 c3 : Value} (h : Blk w b e [c0, c1, c2, c3]) (v0 v1 v2 v3 : Value) :
    Blk ((((w.setCell ⟨b, 0, none⟩ v0).setCell ⟨b, 1, none⟩ v1).setCell ⟨b, 2, none⟩ v2).setCell ⟨b, 3, none⟩ v3) b e [v0, v1, v2, v3] := (((h.set 0 v0).set 1 v1).set 2 v2).set 3 v3
theorem At.put4 {w : World} {b rb a : Nat} {s : ByteArray} (h : At w rb s a) (hne : rb ≠ b) (v0 v1 v2 v3 : Value) : At ((((w.setCell ⟨b, 0, none⟩ v0).setCell ⟨b, 1, none⟩ v1).setCell ⟨b, 2, none⟩ v2).setCell ⟨b, 3, none⟩ v3) rb s a :=
  (((Blk.setOther h hne v0).setOther hne v1).setOther hne v2).setOther hne v3
theorem grow_put4 {w w' : World} {b : Nat} {r : Option Nat} (h : w.grownBy w' r) (hb : w.heap.size ≤ b) (v0 v1 v2 v3 : Value) : w.grownBy ((((w'.setCell ⟨b, 0, none⟩ v0).setCell ⟨b, 1, none⟩ v1).setCell ⟨b, 2, none⟩ v2).setCell ⟨b, 3, none⟩ v3) r :=
  grow_new (grow_new (grow_new (grow_new h hb 0 v0) hb 1 v1) hb 2 v2) hb 3 v3
theorem wds_list (f : Nat → BitVec 64) : wds f = [.int .u64 ((f 0).toNat : Int), .int .u64 ((f 1).toNat : Int), .int .u64 ((f 2).toNat : Int), .int .u64 ((f 3).toNat : Int)] := rfl

set_option maxRecDepth 100000 in
set_option maxHeartbeats 1000000 in
theorem class_any (w : World) (rb : Nat) (s : ByteArray) (a : Nat) (r : List UInt8) (hA : At w rb s a) (hS : Suf s a r) (hs : s.size ≤ 4096) :
    Calls Try.prog 86 #[.pointer (some ⟨rb, 0, none⟩)] w (Ans clV w rb s (classP r)) := by
  have hrb := hA.lt
  have hB0 := Blk.new w 55 #[.int .u64 0, .int .u64 0, .int .u64 0, .int .u64 0]
  have hg0 := World.grownBy_alloc w (.cells #[.int .u64 0, .int .u64 0, .int .u64 0, .int .u64 0] 55) (some rb)
  have hA0 := hA.alloc (.cells #[.int .u64 0, .int .u64 0, .int .u64 0, .int .u64 0] 55)
  obtain ⟨nt, hnt⟩ : ∃ nt, Hid (headIs 94 r = nt) := ⟨_, Lib.hid rfl⟩
  have ht : ∃ a1, Suf s a1 (if nt then r.tail else r) ∧ Calls Try.prog 57 #[.pointer (some ⟨rb, 0, none⟩), .int .u8 94] (w.alloc (.cells #[.int .u64 0, .int .u64 0, .int .u64 0, .int .u64 0] 55)) fun e w' => e = .returned (.bool nt) ∧ At w' rb s a1 ∧ World.grownBy (w.alloc (.cells #[.int .u64 0, .int .u64 0, .int .u64 0, .int .u64 0] 55)) w' (some rb) := by
    have h := hnt.out
    cases nt with
    | true => exact ⟨a + 1, (headIs_lt hS h).2.2, take_yes _ rb s a r 94 94 rfl hA0 hS hs h⟩
    | false => exact ⟨a, hS, take_no _ rb s a r 94 94 rfl hA0 hS hs h⟩
  obtain ⟨a1, hS1, ht⟩ := ht
  have hE : Hid (classP r = (itemP (if nt then r.tail else r)).bind fun s r1 => (itemsP (r1.length + 1) r1 [s]).bind (classE nt)) := Lib.hid (by
    unfold classP; rw [hnt.out])
  generalize (if nt then r.tail else r) = r0 at hS1 hE
  clear hS hA hA0 hnt
  go_enter Try.func86, Try.ntmps86
  go_wp2_with (go_at_call 57; (with_reducible refine ht.mono ?_); rintro e w2 ⟨rfl, hA2, hg2⟩)
  have hB2 := hB0.kept hg2 (by simp; omega)
  have hg02 := grownBy_rb hg0 hg2
  have hi := item_any w2 rb s a1 r0 hA2 hS1 hs
  clear ht hB0 hg0 hg2
  refine hi.mono ?_
  rintro e w3 hans
  rcases hans.parts with ⟨sp, r3, a3, val, hd, hS3, rfl, hval, hA3, hg3⟩ | ⟨r3, a3, hd, hS3, rfl, hg3⟩
  · have HD := Lib.hid hd
    unfold spV at hval
    subst hval
    have hB3 := hB2.kept hg3 (by simp; omega)
    have hg03 := grownBy_rb hg02 hg3
    clear hd hans hi hB2 hg02 hg3
    go_wp2_with (fail)
    have hE2 : Hid (classP r = (itemsP (r3.length + 1) r3 [sp]).bind (classE nt)) := Lib.hid (by rw [hE.out, HD.out, Rd.bind_ok])
    obtain ⟨X, HX⟩ : ∃ X, Hid (itemsP (r3.length + 1) r3 [sp] = X) := ⟨_, Lib.hid rfl⟩
    rw [HX.out] at hE2
    have hlen3 := hS3.len
    go_loopw [4] (fun lv wr => ∃ (l : List Sp) (r1 : List UInt8) (a' : Nat) (A : Option Addr) (C F : Nat), Suf s a' r1 ∧ At wr rb s a' ∧ lv = .slice A l.length C ∧ wr.ownsRow (w.heap.size + 1) 52 2 (.slice A l.length C) l.length (rowS l) ∧ w.grownBy wr (some rb) ∧ Blk wr w.heap.size 55 [.int .u64 0, .int .u64 0, .int .u64 0, .int .u64 0] ∧ itemsP F r1 l = X ∧ r1.length + 1 ≤ F ∧ l.length + r1.length ≤ 4097) (fun _ wr => s.size - (match wr.cell? ⟨rb, 1, none⟩ with | some v => (intOf v).toNat | none => 0))
    case atStart =>
      refine ⟨[sp], r3, a3, some ⟨w3.heap.size, 0, none⟩, 1, r3.length + 1, hS3, hA3.alloc _, rfl, ?_, ?_, hB3.alloc _, HX.out, Nat.le_refl _, by simp; omega⟩
      · exact World.ownsRow_lit (base := w.heap.size + 1) (e := 52) (size := 2) w3 #[.int .u8 (sp.lo.toNat : Int), .int .u8 (sp.hi.toNat : Int)] 1 hB3.lt (by unfold maxLen; omega) rfl
      · exact grownBy_rb hg03 (World.grownBy_alloc w3 _ _)
    case round =>
      obtain ⟨l, r1, a', A, C, F, hSr, hAr, rfl, hown, hgr, hBr, hX, hF, hll⟩ := hrel
      have Hown := Lib.hid hown
      have HXr := Lib.hid hX
      have hlenr := hSr.len
      have hAc := hAr.cells.2
      have hrbr := hAr.lt
      clear hown hX hB3 hg03 hA3
      cases F with
      | zero => omega
      | succ F =>
      by_cases hh : headIs 93 r1 = true
      · obtain ⟨hlt1, hc1, hS2⟩ := headIs_lt hSr hh
        have ht := take_yes wr rb s a' r1 93 93 rfl hAr hSr hs hh
        have hXe : Hid (X = .ok l r1.tail) := Lib.hid (by rw [← HXr.out]; simp only [itemsP, hh, if_true])
        rw [hXe.out] at hE2
        have hS1' : Hid (Suf s a' (93 :: r1.tail)) := Lib.hid (by
          have : r1 = 93 :: r1.tail := by
            cases r1 with
            | nil => cases hh
            | cons x y => simp only [headIs, beq_iff_eq] at hh; rw [hh]; rfl
          rw [← this]; exact hSr)
        clear hh hc1 hAc
        have hneA : (Value.slice A l.length C).ownBlock ≠ some rb := by
          intro e
          have := own_ge Hown.out e
          omega
        have HneA := Lib.hid hneA
        clear hneA
        go_wp2_with (go_at_call 57; (with_reducible refine ht.mono ?_); rintro e w4 ⟨rfl, hA4, hg4⟩)
        have hsp := Sps.of_own (Hown.out.kept hg4 (.inr HneA.out)) rfl
        have hg04 := grownBy_rb hgr hg4
        have hB4 := hBr.kept hg4 (by simp; omega)
        refine (setOf_any A l.length C l w4 hsp rfl).mono ?_
        rintro e w5 ⟨⟨f, rfl, hf⟩, hb5⟩
        have hA5 := Blk.below hA4 hb5 hA4.lt
        have hB5 := hB4.below hb5 hB4.lt
        have hg05 := grownBy_rb hg04 (below_grownBy hb5 (some rb))
        have Hf := Lib.hid hf
        clear hf hsp hb5 hg04 hB4 hA4 hg4 hBr hgr hAr ht
        cases nt with
        | false =>
          have z0 := hB5.cell 0
          have z1 := hB5.cell 1
          have z2 := hB5.cell 2
          have z3 := hB5.cell 3
          have f0 := hB5.frozen 0
          have f1 := hB5.frozen 1
          have f2 := hB5.frozen 2
          have f3 := hB5.frozen 3
          have hbl := hB5.lt
          have hrl := Blk.lt hA5
          simp only [List.getElem?_cons_zero, List.getElem?_cons_succ] at z0 z1 z2 z3
          unfold wds
          go_wp2_with (fail)
          have hF := (blk_put4 hB5 (.int .u64 ((f 0).toNat : Int)) (.int .u64 ((f 1).toNat : Int)) (.int .u64 ((f 2).toNat : Int)) (.int .u64 ((f 3).toNat : Int))).alloc (.cells #[.int .u64 ((f 0).toNat : Int), .int .u64 ((f 1).toNat : Int), .int .u64 ((f 2).toNat : Int), .int .u64 ((f 3).toNat : Int)] 55)
          have hAF := (At.put4 hA5 (b := w.heap.size) (by omega) (.int .u64 ((f 0).toNat : Int)) (.int .u64 ((f 1).toNat : Int)) (.int .u64 ((f 2).toNat : Int)) (.int .u64 ((f 3).toNat : Int))).alloc (.cells #[.int .u64 ((f 0).toNat : Int), .int .u64 ((f 1).toNat : Int), .int .u64 ((f 2).toNat : Int), .int .u64 ((f 3).toNat : Int)] 55)
          have hgF := grownBy_rb (grow_put4 hg05 (Nat.le_refl w.heap.size) (.int .u64 ((f 0).toNat : Int)) (.int .u64 ((f 1).toNat : Int)) (.int .u64 ((f 2).toNat : Int)) (.int .u64 ((f 3).toNat : Int))) (World.grownBy_alloc _ (.cells #[.int .u64 ((f 0).toNat : Int), .int .u64 ((f 1).toNat : Int), .int .u64 ((f 2).toNat : Int), .int .u64 ((f 3).toNat : Int)] 55) (some rb))
          generalize World.alloc _ _ = WF at hF hAF hgF ⊢
          have g0 := hF.cell 0
          have g1 := hF.cell 1
          have g2 := hF.cell 2
          have g3 := hF.cell 3
          simp only [List.getElem?_cons_zero, List.getElem?_cons_succ] at g0 g1 g2 g3
          refine bodyPost_ret (v := .agg (wds f).toArray) ?_ rfl (Ans.ok' (v := (l, false)) (by rw [hE2.out, Rd.bind_ok]; simp [classE]) hS2 ⟨f, rfl, fun c => by rw [Hf.out]; rfl⟩ hAF hgF)
          simp [results, Try.f86, go_sem, g0, g1, g2, g3, wds]
        | true =>
          have hB6 := Blk.new w5 55 #[.int .u64 ((f 0).toNat : Int), .int .u64 ((f 1).toNat : Int), .int .u64 ((f 2).toNat : Int), .int .u64 ((f 3).toNat : Int)]
          have ho := others_any (w5.alloc (.cells #[.int .u64 ((f 0).toNat : Int), .int .u64 ((f 1).toNat : Int), .int .u64 ((f 2).toNat : Int), .int .u64 ((f 3).toNat : Int)] 55)) f
          obtain ⟨v, hvd⟩ : ∃ v, Hid (v = fun i => ~~~ f i) := ⟨_, Lib.hid rfl⟩
          rw [← hvd.out] at ho
          have hv : ∀ c, hasW v c = !inSp l c := fun c => by rw [hvd.out, hasW_not, Hf.out]
          have hz := all_zero v l hv
          have Hv := Lib.hid hv
          clear hv
          unfold wds at ho ⊢
          have hA6 := At.alloc hA5 (.cells #[.int .u64 ((f 0).toNat : Int), .int .u64 ((f 1).toNat : Int), .int .u64 ((f 2).toNat : Int), .int .u64 ((f 3).toNat : Int)] 55)
          have hB56 := hB5.alloc (.cells #[.int .u64 ((f 0).toNat : Int), .int .u64 ((f 1).toNat : Int), .int .u64 ((f 2).toNat : Int), .int .u64 ((f 3).toNat : Int)] 55)
          have hg06 := grownBy_rb hg05 (World.grownBy_alloc w5 (.cells #[.int .u64 ((f 0).toNat : Int), .int .u64 ((f 1).toNat : Int), .int .u64 ((f 2).toNat : Int), .int .u64 ((f 3).toNat : Int)] 55) (some rb))
          have hw5 := hB5.lt
          have HW5 := Lib.hid hw5
          have hq : ∀ W : World, (Op.equalIn 10000 55 (.agg #[.int .u64 ((v 0).toNat : Int), .int .u64 ((v 1).toNat : Int), .int .u64 ((v 2).toNat : Int), .int .u64 ((v 3).toNat : Int)]) (.agg #[.int .u64 0, .int .u64 0, .int .u64 0, .int .u64 0])).run Try.prog W = .ok (allB l) W := by
            intro W
            rw [run_eq4]
            congr 1
            rw [Bool.eq_iff_iff, hz]
            simp only [Bool.and_eq_true, beq_iff_eq]
            have e : ∀ x : BitVec 64, ((x.toNat : Int) = 0) ↔ x = 0 := fun x => ⟨fun h => BitVec.eq_of_toNat_eq (by simp; omega), fun h => by subst h; rfl⟩
            rw [e, e, e, e]
          clear hz
          obtain ⟨Z, hZ⟩ : ∃ Z, Hid (allB l = Z) := ⟨_, Lib.hid rfl⟩
          rw [hZ.out] at hq
          cases Z with
          | true =>
            go_wp2_with (go_at_call 85; (with_reducible refine ho.mono ?_); rintro e w7 ⟨rfl, hb7⟩; have hB7 := hB6.below hb7 hB6.lt; have b0 := hB7.cell 0; have b1 := hB7.cell 1; have b2 := hB7.cell 2; have b3 := hB7.cell 3; have y0 := hB7.frozen 0; have y1 := hB7.frozen 1; have y2 := hB7.frozen 2; have y3 := hB7.frozen 3; simp only [List.getElem?_cons_zero, List.getElem?_cons_succ] at b0 b1 b2 b3; have hl7 := hB7.lt; have hA7 := Blk.below hA6 hb7 hA6.lt; obtain ⟨d0, d1⟩ := At.cells hA7; have hne5 : rb ≠ w5.heap.size := (by have := Blk.lt hA5; omega))
            have hgF := grow_put4 (grownBy_rb hg06 (below_grownBy hb7 (some rb))) (Nat.le_of_lt HW5.out) (.int .u64 ((v 0).toNat : Int)) (.int .u64 ((v 1).toNat : Int)) (.int .u64 ((v 2).toNat : Int)) (.int .u64 ((v 3).toNat : Int))
            exact ⟨rfl, Ans.bad' (by rw [hE2.out, Rd.bind_ok]; simp [classE, hZ.out]) hS1'.out hgF⟩
          | false =>
            go_wp2_with (go_at_call 85; (with_reducible refine ho.mono ?_); rintro e w7 ⟨rfl, hb7⟩; have hB7 := hB6.below hb7 hB6.lt; have b0 := hB7.cell 0; have b1 := hB7.cell 1; have b2 := hB7.cell 2; have b3 := hB7.cell 3; have y0 := hB7.frozen 0; have y1 := hB7.frozen 1; have y2 := hB7.frozen 2; have y3 := hB7.frozen 3; simp only [List.getElem?_cons_zero, List.getElem?_cons_succ] at b0 b1 b2 b3; have hl7 := hB7.lt; have hB57 := hB56.below hb7 hB56.lt; have z0 := hB57.cell 0; have z1 := hB57.cell 1; have z2 := hB57.cell 2; have z3 := hB57.cell 3; have f0 := hB57.frozen 0; have f1 := hB57.frozen 1; have f2 := hB57.frozen 2; have f3 := hB57.frozen 3; simp only [List.getElem?_cons_zero, List.getElem?_cons_succ] at z0 z1 z2 z3; have hne5 : w.heap.size ≠ w5.heap.size := (by omega))
            have hA7 := Blk.below hA6 hb7 hA6.lt
            have hrl5 := Blk.lt hA5
            have hAF := At.put4 (At.put4 hA7 (b := w5.heap.size) (by omega) (.int .u64 ((v 0).toNat : Int)) (.int .u64 ((v 1).toNat : Int)) (.int .u64 ((v 2).toNat : Int)) (.int .u64 ((v 3).toNat : Int))) (b := w.heap.size) (by omega) (.int .u64 ((v 0).toNat : Int)) (.int .u64 ((v 1).toNat : Int)) (.int .u64 ((v 2).toNat : Int)) (.int .u64 ((v 3).toNat : Int))
            have hgF := grow_put4 (grow_put4 (grownBy_rb hg06 (below_grownBy hb7 (some rb))) (Nat.le_of_lt HW5.out) (.int .u64 ((v 0).toNat : Int)) (.int .u64 ((v 1).toNat : Int)) (.int .u64 ((v 2).toNat : Int)) (.int .u64 ((v 3).toNat : Int))) (Nat.le_refl w.heap.size) (.int .u64 ((v 0).toNat : Int)) (.int .u64 ((v 1).toNat : Int)) (.int .u64 ((v 2).toNat : Int)) (.int .u64 ((v 3).toNat : Int))
            have hF := blk_put4 ((((hB57.setOther (b' := w5.heap.size) (j := 0) hne5 (.int .u64 ((v 0).toNat : Int))).setOther (j := 1) hne5 (.int .u64 ((v 1).toNat : Int))).setOther (j := 2) hne5 (.int .u64 ((v 2).toNat : Int))).setOther (j := 3) hne5 (.int .u64 ((v 3).toNat : Int))) (.int .u64 ((v 0).toNat : Int)) (.int .u64 ((v 1).toNat : Int)) (.int .u64 ((v 2).toNat : Int)) (.int .u64 ((v 3).toNat : Int))
            generalize World.setCell _ _ _ = WF at hF hAF hgF ⊢
            have g0 := hF.cell 0
            have g1 := hF.cell 1
            have g2 := hF.cell 2
            have g3 := hF.cell 3
            simp only [List.getElem?_cons_zero, List.getElem?_cons_succ] at g0 g1 g2 g3
            refine bodyPost_ret (v := .agg (wds v).toArray) ?_ rfl (Ans.ok' (v := (l, true)) (by rw [hE2.out, Rd.bind_ok]; simp [classE, hZ.out]) hS2 ⟨v, rfl, fun c => by rw [Hv.out]; rfl⟩ hAF hgF)
            simp [results, Try.f86, go_sem, g0, g1, g2, g3, wds]
      · rw [Bool.not_eq_true] at hh
        have ht := take_no wr rb s a' r1 93 93 rfl hAr hSr hs hh
        have hXe : Hid (X = (itemP r1).bind fun s r1 => itemsP F r1 (l ++ [s])) := Lib.hid (by rw [← HXr.out]; simp only [itemsP, hh, Bool.false_eq_true, if_false])
        clear hh
        go_wp2_with (go_at_call 57; (with_reducible refine ht.mono ?_); rintro e w4 ⟨rfl, hA4, hg4⟩)
        have hi := item_any w4 rb s a' r1 hA4 hSr hs
        refine hi.mono ?_
        rintro e w5 hans
        rcases hans.parts with ⟨sp2, r5, a5, val, hd, hS5, rfl, hval, hA5, hg5⟩ | ⟨r5, a5, hd, hS5, rfl, hg5⟩
        · have hlt5 := itemP_lt hd
          have HD5 := Lib.hid hd
          have hlen5 := hS5.len
          unfold spV at hval
          subst hval
          have hg05 := grownBy_rb (grownBy_rb hgr hg4) hg5
          have hneA : (Value.slice A l.length C).ownBlock ≠ some rb := by
            intro e
            have := own_ge Hown.out e
            omega
          have ho5 := (Hown.out.kept hg4 (.inr hneA)).kept hg5 (.inr hneA)
          have hB5 := (hBr.kept hg4 (by simp; omega)).kept hg5 (by simp; omega)
          obtain ⟨a6, c6, w6, hrun6, hown6, hg6⟩ := run_pushS w5 22 (.int .u8 (sp2.lo.toNat : Int)) (.int .u8 (sp2.hi.toNat : Int)) (by simp [Value.oneCell']) (by simp [Value.oneCell']) ho5 (by omega) hB5.lt
          have Hr6 := Lib.hid hrun6
          clear hd hans hi ht hrun6
          have hrb5 := hA5.lt
          have hne6 : ∀ k, some k = (Value.slice A l.length C).ownBlock → w.heap.size + 1 ≤ k := fun k e => own_ge Hown.out e.symm
          have hA6 : At w6 rb s a5 := hA5.kept hg6 (fun e => by have := hne6 rb e; omega)
          have hB6 := hB5.kept hg6 (fun e => by have := hne6 _ e; omega)
          have hg06 : w.grownBy w6 (some rb) := grownBy_trans hg05 hg6 (fun i e => .inr (by have := hne6 i e.symm; omega))
          go_wp2_with (at_builtin; refine wpList_append_run rfl _ _ 22 22 rfl _ _ _ _ rfl rfl Hr6.out ?_)
          have hAc6 := hA6.cells.2
          refine ⟨⟨l ++ [sp2], r5, a5, a6, c6, F, hS5, hA6, by simp, ?_, hg06, hB6, ?_, by omega, by simp; omega⟩, ?_⟩
          · rw [rowS_snoc, List.length_append]
            exact hown6
          · rw [hXe.out, HD5.out, Rd.bind_ok]
          · rw [hAc6, hAc]
            simp [intOf]
            omega
        · have hg05 := grownBy_rb (grownBy_rb hgr hg4) hg5
          have HD5 := Lib.hid hd
          clear hd hans hi
          go_wp2_with (fail)
          exact ⟨rfl, Ans.bad' (by rw [hE2.out, hXe.out, HD5.out, Rd.bind_bad, Rd.bind_bad]) hS5 hg05⟩
  · have hg03 := grownBy_rb hg02 hg3
    go_wp2_with (fail)
    exact ⟨rfl, Ans.bad' (by rw [hE.out, hd, Rd.bind_bad]) hS3 hg03⟩
end Go.Proofs.Ytkdfobnkebkpfaa
