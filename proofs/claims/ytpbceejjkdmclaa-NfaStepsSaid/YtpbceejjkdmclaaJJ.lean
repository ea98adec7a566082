/- Texts of layer 2 joined: Pl Rdr Rdi Eq4 Rdc. -/
import Derived.Test.YtpbceejjkdmclaaJC
import Derived.Test.YtpbceejjkdmclaaJA
import Derived.Outline
import Derived.Laws.StructEq
set_option linter.unusedVariables false
set_option linter.unusedSimpArgs false
/- Reading an expression, as plain functions on what is left of the text. -/
namespace Go.Proofs.Ytpbceejjkdmclaa
open Go.RowKit

/-- What reading comes to: a value and what is left; or it gives up there. -/
inductive Rd (α : Type) where
  | ok (v : α) (r : List UInt8)
  | bad (r : List UInt8)

def Rd.bind {α β : Type} (x : Rd α) (f : α → List UInt8 → Rd β) : Rd β :=
  match x with
  | .ok v r => f v r
  | .bad r => .bad r
@[simp] theorem Rd.bind_ok {α β : Type} (v : α) (r : List UInt8) (f : α → List UInt8 → Rd β) : (Rd.ok v r).bind f = f v r := rfl
@[simp] theorem Rd.bind_bad {α β : Type} (r : List UInt8) (f : α → List UInt8 → Rd β) : (Rd.bad r : Rd α).bind f = .bad r := rfl

def hexV (c : UInt8) : Option UInt8 :=
  if 48 ≤ c.toNat ∧ c.toNat ≤ 57 then some (c - 48) else if 97 ≤ c.toNat ∧ c.toNat ≤ 102 then some (c - 97 + 10) else if 65 ≤ c.toNat ∧ c.toNat ≤ 70 then some (c - 65 + 10) else none
def digitP : List UInt8 → Rd UInt8
  | [] => .bad []
  | c :: r => match hexV c with
    | some v => .ok v r
    | none => .bad (c :: r)
def barB (barred : List UInt8) (c : UInt8) : Bool := decide (0 ≤ Lib.indexByte barred c)
def outs : List UInt8 := [92, 124, 42, 43, 63, 40, 41, 91, 93, 46]
def escP : List UInt8 → Rd UInt8
  | [] => .bad []
  | c :: r => if c = 110 then .ok 10 r else if c = 116 then .ok 9 r else if c = 114 then .ok 13 r
    else if c = 120 then (match digitP r with
      | .bad b => .bad b
      | .ok h r1 => match digitP r1 with
        | .bad b => .bad b
        | .ok l r2 => .ok (UInt8.ofNat (16 * h.toNat + l.toNat)) r2)
    else if barB specials c then .ok c r else .bad (c :: r)
def letP (barred : List UInt8) : List UInt8 → Rd UInt8
  | [] => .bad []
  | c :: r => if c = 92 then escP r else if barB barred c then .bad (c :: r) else .ok c r
def headIs (c : UInt8) : List UInt8 → Bool
  | [] => false
  | x :: _ => x == c
def itemP (r : List UInt8) : Rd Sp :=
  match letP specials r with
  | .bad b => .bad b
  | .ok lo r1 => if headIs 45 r1 then (match letP specials r1.tail with
      | .bad b => .bad b
      | .ok hi r3 => if hi.toNat < lo.toNat then .bad r1.tail else .ok ⟨lo, hi⟩ r3)
    else .ok ⟨lo, lo⟩ r1
def itemsP : Nat → List UInt8 → List Sp → Rd (List Sp)
  | 0, r, _ => .bad r
  | F + 1, r, l => if headIs 93 r then .ok l r.tail else
    (itemP r).bind fun s r1 => itemsP F r1 (l ++ [s])
def allB (l : List Sp) : Bool := (List.range 256).all (inSp l)
/-- The bytes of a class. -/
def setM (x : List Sp × Bool) : Nat → Bool := fun c => if x.2 then !inSp x.1 c else inSp x.1 c
def classE (nt : Bool) (l : List Sp) (r : List UInt8) : Rd (List Sp × Bool) := if nt && allB l then .bad (93 :: r) else .ok (l, nt) r
def classP (r : List UInt8) : Rd (List Sp × Bool) :=
  (itemP (if headIs 94 r then r.tail else r)).bind fun s r1 => (itemsP (r1.length + 1) r1 [s]).bind (classE (headIs 94 r))

/-- An expression. -/
structure Ex where
  h : Hd
  k : Fo
def foX : List Ex → Fo
  | [] => .nil
  | x :: r => .cons x.h x.k (foX r)
def setX (l : List Sp) : Ex := ⟨⟨2, l⟩, .nil⟩
def oneX (c : UInt8) : Ex := setX [⟨c, c⟩]
def joinX (kind : Int) (l : List Ex) : Ex :=
  match l with
  | [] => ⟨⟨1, []⟩, .nil⟩
  | [x] => x
  | l => ⟨⟨kind, []⟩, foX l⟩
def reps : List UInt8 := [42, 43, 63]
def repsP : Ex → List UInt8 → Ex × List UInt8
  | x, [] => (x, [])
  | x, c :: r => if 0 ≤ Lib.indexByte reps c then repsP ⟨⟨5 + Lib.indexByte reps c, []⟩, .cons x.h x.k .nil⟩ r else (x, c :: r)

/-- What stands behind a (, up to its ). -/
def closeP (x : Ex) (r : List UInt8) : Rd Ex := if headIs 41 r then .ok x r.tail else .bad r
mutual
def altsP : Nat → List UInt8 → Rd Ex
  | 0, r => .bad r
  | F + 1, r => (altP F r).bind fun x r1 => moreP F r1 [x]
def moreP : Nat → List UInt8 → List Ex → Rd Ex
  | 0, r, _ => .bad r
  | F + 1, r, l => if headIs 124 r then (altP F r.tail).bind fun x r1 => moreP F r1 (l ++ [x]) else .ok (joinX 4 l) r
def altP : Nat → List UInt8 → Rd Ex
  | 0, r => .bad r
  | F + 1, r => piecesP F r []
def piecesP : Nat → List UInt8 → List Ex → Rd Ex
  | 0, r, _ => .bad r
  | F + 1, r, l => if r.isEmpty || headIs 124 r || headIs 41 r then .ok (joinX 3 l) r else (pieceP F r).bind fun x r1 => piecesP F r1 (l ++ [x])
def pieceP : Nat → List UInt8 → Rd Ex
  | 0, r => .bad r
  | F + 1, r => (atomP F r).bind fun x r1 => .ok (repsP x r1).1 (repsP x r1).2
def atomP : Nat → List UInt8 → Rd Ex
  | 0, r => .bad r
  | F + 1, r => if headIs 40 r then (altsP F r.tail).bind closeP
    else if headIs 46 r then .ok (setX (spP (setM ([⟨10, 10⟩], true)) 256)) r.tail
    else if headIs 91 r then (classP r.tail).bind fun x r1 => .ok (setX (spP (setM x) 256)) r1
    else (letP outs r).bind fun c r1 => .ok (setX (spP (setM ([⟨c, c⟩], false)) 256)) r1
end

/-- What stands from a place on. -/
structure Suf (s : ByteArray) (a : Nat) (r : List UInt8) : Prop where
  le : a ≤ s.size
  eq : s.data.toList.drop a = r
theorem dlen (s : ByteArray) : s.data.toList.length = s.size := by rw [Array.length_toList]; rfl
theorem Suf.len {s : ByteArray} {a : Nat} {r : List UInt8} (h : Suf s a r) : a + r.length = s.size := by
  have := congrArg List.length h.eq
  rw [List.length_drop, dlen] at this
  have := h.le
  omega
theorem Suf.nil {s : ByteArray} {a : Nat} (h : Suf s a []) : a = s.size := by have := h.len; simpa using this
theorem Suf.cons {s : ByteArray} {a : Nat} {c : UInt8} {r : List UInt8} (h : Suf s a (c :: r)) : ∃ hlt : a < s.size, s[a] = c ∧ Suf s (a + 1) r := by
  have hl := h.len
  simp only [List.length_cons] at hl
  have hlt : a < s.size := by omega
  refine ⟨hlt, ?_, by omega, ?_⟩
  · have := h.eq
    rw [List.drop_eq_getElem_cons (by rw [dlen]; exact hlt)] at this
    exact (List.cons.inj this).1
  · have := h.eq
    rw [List.drop_eq_getElem_cons (by rw [dlen]; exact hlt)] at this
    exact (List.cons.inj this).2
theorem Suf.back {s : ByteArray} {a : Nat} {r : List UInt8} (h : Suf s (a + 1) r) : ∃ hlt : a < s.size, Suf s a (s[a] :: r) := by
  have hlt : a < s.size := by have := h.le; omega
  refine ⟨hlt, by omega, ?_⟩
  rw [List.drop_eq_getElem_cons (by rw [dlen]; exact hlt), h.eq]
  rfl
theorem Suf.head {s : ByteArray} {a : Nat} {r : List UInt8} (h : Suf s a r) : (a = s.size ∧ r = []) ∨ ∃ (hlt : a < s.size) (r1 : List UInt8), r = s[a] :: r1 ∧ Suf s (a + 1) r1 := by
  cases r with
  | nil => exact .inl ⟨h.nil, rfl⟩
  | cons c r => obtain ⟨hlt, e, h2⟩ := h.cons; exact .inr ⟨hlt, r, by rw [e], h2⟩
end Go.Proofs.Ytpbceejjkdmclaa

/- regex.reader: next, take, digit. -/
namespace Go.Proofs.Ytpbceejjkdmclaa
open Go.RowKit Go.Shelf

attribute [local go_sem] Oper.semAt_some

def u8V (v : UInt8) (_ : World) (val : Value) : Prop := val = .int .u8 (v.toNat : Int)

theorem grownBy_drewN (w : World) (k : Nat) (r : Option Nat) : w.grownBy (w.drewN k) r := ⟨rfl, rfl, rfl, Nat.le_refl _, fun _ _ _ => rfl⟩
theorem grownBy_rb {a b c : World} {r : Option Nat} (h : a.grownBy b r) (k : b.grownBy c r) : a.grownBy c r := grownBy_trans h k (fun _ e => .inl e)
theorem grownBy_refl (w : World) (r : Option Nat) : w.grownBy w r := ⟨rfl, rfl, rfl, Nat.le_refl _, fun _ _ _ => rfl⟩

theorem headIs_lt {s : ByteArray} {a : Nat} {r : List UInt8} {c : UInt8} (hS : Suf s a r) (h : headIs c r = true) : ∃ hlt : a < s.size, s[a] = c ∧ Suf s (a + 1) r.tail := by
  rcases hS.head with ⟨_, rfl⟩ | ⟨hlt, r1, rfl, h2⟩
  · cases h
  · exact ⟨hlt, by simpa [headIs] using h, h2⟩

theorem ret_u8 {a b : Int} (h : a = b) : Ending.returned (.int .u8 a) = .returned (.int .u8 b) := by rw [h]

theorem spec_arg (c : UInt8) : Lib.indexByte (ByteArray.mk #[92, 124, 42, 43, 63, 40, 41, 91, 93, 46, 94, 45]).data.toList (c.toNat : Int).toNat.toUInt8 = Lib.indexByte specials c := by
  rw [Int.toNat_natCast, show c.toNat.toUInt8 = c from by simp]; rfl

set_option maxRecDepth 100000 in
theorem or_nib : ∀ h : Fin 16, ∀ l : Fin 16, bits .or .u8 (((h.val : Nat) : Int) * 16) ((l.val : Nat) : Int) = ((16 * h.val + l.val : Nat) : Int) := by decide
theorem or_low (h l : Nat) (hh : h < 16) (hl : l < 16) : bits .or .u8 ((h : Int) * 16) (l : Int) = ((16 * h + l : Nat) : Int) := or_nib ⟨h, hh⟩ ⟨l, hl⟩
theorem hexV_lt {c v : UInt8} (h : hexV c = some v) : v.toNat < 16 := by
  unfold hexV at h
  have hu : c.toNat < 256 := c.toNat_lt
  split at h
  · rename_i hc
    cases h
    rw [UInt8.toNat_sub_of_le _ _ (by rw [UInt8.le_iff_toNat_le]; exact hc.1)]
    show c.toNat - 48 < 16
    omega
  · split at h
    · rename_i hc
      cases h
      rw [UInt8.toNat_add, UInt8.toNat_sub_of_le _ _ (by rw [UInt8.le_iff_toNat_le]; exact hc.1)]
      show (c.toNat - 97 + 10) % 256 < 16
      omega
    · split at h
      · rename_i hc
        cases h
        rw [UInt8.toNat_add, UInt8.toNat_sub_of_le _ _ (by rw [UInt8.le_iff_toNat_le]; exact hc.1)]
        show (c.toNat - 65 + 10) % 256 < 16
        omega
      · cases h
theorem digitP_lt {r r' : List UInt8} {v : UInt8} (h : digitP r = .ok v r') : v.toNat < 16 := by
  cases r with
  | nil => cases h
  | cons c r =>
    simp only [digitP] at h
    split at h
    · rename_i hv; cases h; exact hexV_lt hv
    · cases h
theorem shl4 (h : UInt8) (hh : h.toNat < 16) : IntKind.u8.wrap ((h.toNat : Int) * 2 ^ 4) = ((16 * h.toNat : Nat) : Int) := by
  rw [IntKind.wrap_u8]; omega

end Go.Proofs.Ytpbceejjkdmclaa

/- regex.reader.item; ofSet; joined. -/
namespace Go.Proofs.Ytpbceejjkdmclaa
open Go.RowKit Go.Shelf

attribute [local go_sem] Oper.semAt_some

def spV (x : Sp) (_ : World) (val : Value) : Prop := val = .agg #[.int .u8 (x.lo.toNat : Int), .int .u8 (x.hi.toNat : Int)]
theorem grow_new {w w' : World} {r : Option Nat} {b : Nat} (h : w.grownBy w' r) (hb : w.heap.size ≤ b) (j : Nat) (v : Value) : w.grownBy (w'.setCell ⟨b, j, none⟩ v) r :=
  grownBy_trans h (grownBy_set w' b j v) (fun i e => .inr (by cases e; exact hb))
theorem Sps.setOther {w : World} {a : Option Addr} {cap b' j : Nat} {l : List Sp} (h : Sps w a cap l) (hne : ∀ b off, a = some ⟨b, off, none⟩ → b ≠ b') (v : Value) : Sps (w.setCell ⟨b', j, none⟩ v) a cap l :=
  ⟨h.le, h.max, h.nil_, h.at_, fun b off e i hi => by
    have hc : ∀ o, (w.setCell ⟨b', j, none⟩ v).cell? ⟨b, o, none⟩ = w.cell? ⟨b, o, none⟩ := fun o => by
      simp only [World.cell?]
      rw [Below.heap_setCell _ _ _ _ (by simpa using hne b off e)]
    exact ⟨(hc _).trans (h.cell b off e i hi).1, (hc _).trans (h.cell b off e i hi).2⟩⟩
theorem specials_arg : (ByteArray.mk #[92, 124, 42, 43, 63, 40, 41, 91, 93, 46, 94, 45]).data.toList = specials := rfl

end Go.Proofs.Ytpbceejjkdmclaa

/- Two sets of bytes compared. -/
namespace Go.Proofs.Ytpbceejjkdmclaa
open Go.RowKit

end Go.Proofs.Ytpbceejjkdmclaa

/- regex.reader.class. -/
namespace Go.Proofs.Ytpbceejjkdmclaa
open Go.RowKit Go.Shelf

attribute [local go_sem] Oper.semAt_some

theorem tail_lt {r : List UInt8} {c : UInt8} (h : headIs c r = true) : r.tail.length + 1 = r.length := by
  cases r with
  | nil => cases h
  | cons x r => simp
theorem escP_lt {r r' : List UInt8} {v : UInt8} (h : escP r = .ok v r') : r'.length < r.length := by
  have hd : ∀ {r r' : List UInt8} {v : UInt8}, digitP r = .ok v r' → r'.length < r.length := by
    intro r r' v h
    cases r with
    | nil => cases h
    | cons c r =>
      simp only [digitP] at h
      split at h
      · cases h; simp
      · cases h
  cases r with
  | nil => cases h
  | cons c r =>
    simp only [escP] at h
    split at h
    · cases h; simp
    split at h
    · cases h; simp
    split at h
    · cases h; simp
    split at h
    · split at h
      · cases h
      · rename_i h1 r1 e1
        split at h
        · cases h
        · rename_i l1 r2 e2
          cases h
          have := hd e1
          have := hd e2
          simp; omega
    split at h
    · cases h; simp
    · cases h
theorem letP_lt {bar r r' : List UInt8} {v : UInt8} (h : letP bar r = .ok v r') : r'.length < r.length := by
  cases r with
  | nil => cases h
  | cons c r =>
    simp only [letP] at h
    split at h
    · have := escP_lt h; simp; omega
    split at h
    · cases h
    · cases h; simp
theorem itemP_lt {r r' : List UInt8} {v : Sp} (h : itemP r = .ok v r') : r'.length < r.length := by
  unfold itemP at h
  split at h
  · cases h
  · rename_i lo r1 e1
    have h1 := letP_lt e1
    split at h
    · rename_i hh
      have ht := tail_lt hh
      split at h
      · cases h
      · rename_i hi r3 e3
        have h3 := letP_lt e3
        split at h
        · cases h
        · cases h; omega
    · cases h; exact h1

def clV (x : List Sp × Bool) (_ : World) (val : Value) : Prop := ∃ f, val = .agg (wds f).toArray ∧ ∀ c, hasW f c = setM x c

/-- No byte is left, just if the four words are nothing. -/
theorem all_zero (f : Nat → BitVec 64) (l : List Sp) (hf : ∀ c, hasW f c = !inSp l c) : allB l = true ↔ (f 0 = 0 ∧ f 1 = 0 ∧ f 2 = 0 ∧ f 3 = 0) := by
  unfold allB
  rw [List.all_eq_true]
  constructor
  · intro h
    have hz : ∀ q, q < 4 → f q = 0 := by
      intro q hq
      apply BitVec.eq_of_getLsbD_eq
      intro i hi
      have := hf (64 * q + i)
      unfold hasW at this
      rw [show (64 * q + i) / 64 = q from by omega, show (64 * q + i) % 64 = i from by omega, h (64 * q + i) (by simp; omega)] at this
      simpa using this
    exact ⟨hz 0 (by omega), hz 1 (by omega), hz 2 (by omega), hz 3 (by omega)⟩
  · rintro ⟨h0, h1, h2, h3⟩ c hc
    have hc : c < 256 := by simpa using hc
    have := hf c
    unfold hasW at this
    have hq : f (c / 64) = 0 := by
      have : c / 64 = 0 ∨ c / 64 = 1 ∨ c / 64 = 2 ∨ c / 64 = 3 := by omega
      rcases this with e | e | e | e <;> rw [e] <;> assumption
    rw [hq] at this
    simpa using this

theorem blk_put4 {w : World} {b : Nat} {e : TypeId} {c0 c1 c2 c3 : Value} (h : Blk w b e [c0, c1, c2, c3]) (v0 v1 v2 v3 : Value) :
    Blk ((((w.setCell ⟨b, 0, none⟩ v0).setCell ⟨b, 1, none⟩ v1).setCell ⟨b, 2, none⟩ v2).setCell ⟨b, 3, none⟩ v3) b e [v0, v1, v2, v3] := (((h.set 0 v0).set 1 v1).set 2 v2).set 3 v3
theorem grow_put4 {w w' : World} {b : Nat} {r : Option Nat} (h : w.grownBy w' r) (hb : w.heap.size ≤ b) (v0 v1 v2 v3 : Value) : w.grownBy ((((w'.setCell ⟨b, 0, none⟩ v0).setCell ⟨b, 1, none⟩ v1).setCell ⟨b, 2, none⟩ v2).setCell ⟨b, 3, none⟩ v3) r :=
  grow_new (grow_new (grow_new (grow_new h hb 0 v0) hb 1 v1) hb 2 v2) hb 3 v3
theorem wds_list (f : Nat → BitVec 64) : wds f = [.int .u64 ((f 0).toNat : Int), .int .u64 ((f 1).toNat : Int), .int .u64 ((f 2).toNat : Int), .int .u64 ((f 3).toNat : Int)] := rfl

end Go.Proofs.Ytpbceejjkdmclaa
