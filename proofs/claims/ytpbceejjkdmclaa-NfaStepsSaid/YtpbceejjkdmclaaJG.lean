/- Texts of layer 2 joined: TSet Txt. -/
import Derived.Test.YtpbceejjkdmclaaJC
import Derived.Test.YtpbceejjkdmclaaJA
import Derived.Outline
import Derived.Test.YtpbceejjkdmclaaJB
set_option linter.unusedVariables false
set_option linter.unusedSimpArgs false
/- regex.appendSet: a Set's text. -/
namespace Go.Proofs.Ytpbceejjkdmclaa
open Go.RowKit Go.Shelf

attribute [local go_sem] Oper.semAt_some

/-- A step that writes the own row alone, and what becomes of the row. -/
structure Grw (base : Nat) (w : World) (a : Option Addr) (w' : World) (a' : Option Addr) : Prop where
  only : Only base 5 w w'
  keep : ∀ (i : Nat) (o : Obj), w.heap[i]? = some o → (∀ p, a = some p → p.block ≠ i) → w'.heap[i]? = some o
  new : New w.heap.size a a'
theorem Grw.trans {base : Nat} {w w' w'' : World} {a a' a'' : Option Addr} (h : Grw base w a w' a') (k : Grw base w' a' w'' a'') : Grw base w a w'' a'' :=
  ⟨h.only.trans k.only, fun i o hi ha => k.keep i o (h.keep i o hi ha) (fun p e => by
    have hlt : i < w.heap.size := (Array.getElem?_eq_some_iff.1 hi).1
    rcases h.new with e1 | ⟨g, e1, hg⟩
    · exact ha p (by rw [← e1]; exact e)
    · rw [e1] at e; cases e; show g ≠ i; omega), h.new.trans k.new h.only.size⟩
theorem Grw.still {base : Nat} {w w' : World} (a : Option Addr) (h : Only base 5 w w') (hk : ∀ (i : Nat) (o : Obj), w.heap[i]? = some o → w'.heap[i]? = some o) : Grw base w a w' a := ⟨h, fun i o hi _ => hk i o hi, .inl rfl⟩
theorem Grw.alloc (base : Nat) (w : World) (a : Option Addr) (o : Obj) : Grw base w a (w.alloc o) a := Grw.still a (Only.alloc w o) (fun i o' hi => by
  have hlt : i < w.heap.size := (Array.getElem?_eq_some_iff.1 hi).1
  exact ((World.grownBy_alloc w o none).block i hlt (by simp)).trans hi)
theorem Grw.drewN (base : Nat) (w : World) (a : Option Addr) (k : Nat) : Grw base w a (w.drewN k) a := Grw.still a ⟨rfl, rfl, rfl, Nat.le_refl _, fun _ _ h _ => h⟩ (fun _ _ h => h)
theorem Grw.drew (base : Nat) (w : World) (a : Option Addr) : Grw base w a w.drew a := Grw.still a ⟨rfl, rfl, rfl, Nat.le_refl _, fun _ _ h _ => h⟩ (fun _ _ h => h)
theorem Grw.of {base n cap : Nat} {w w' : World} {a a' : Option Addr} {ys : List UInt8} (hown : OwnB w base a n cap ys) (hg : w.grownBy w' (Value.slice a n cap).ownBlock) (hn : New w.heap.size a a') : Grw base w a w' a' :=
  ⟨hown.only hg, fun i o hi ha => (hg.block i (Array.getElem?_eq_some_iff.1 hi).1 (fun e => by
    cases a with
    | none => cases e
    | some p => cases e; exact ha p rfl rfl)).trans hi, hn⟩
theorem Grw.blk {base b e : Nat} {w w' : World} {a a' : Option Addr} {cs : List Value} (h : Grw base w a w' a') (hb : Blk w b e cs) (hne : e ≠ 5) : Blk w' b e cs := h.only.blk hb hne

theorem byteT_length (c : UInt8) : (byteT c).length ≤ 4 := by
  unfold byteT
  repeat' split
  all_goals simp

/-- A span's text. -/
def spanT (s : Sp) : List UInt8 := byteT s.lo ++ ((if s.lo.toNat + 1 < s.hi.toNat then [45] else []) ++ (if s.lo.toNat < s.hi.toNat then byteT s.hi else []))
def spansT (l : List Sp) : List UInt8 := (l.map spanT).flatten
/-- The byte of a Set of one byte. -/
def lone : List Sp → Option UInt8
  | [x] => if x.lo = x.hi then some x.lo else none
  | _ => none
/-- A Set's text. -/
def setT (l : List Sp) : List UInt8 :=
  match lone l with
  | some c => byteT c
  | none => 91 :: (spansT l ++ [93])

theorem spanT_length (s : Sp) : (spanT s).length ≤ 9 := by
  have h1 := byteT_length s.lo
  have h2 := byteT_length s.hi
  unfold spanT
  repeat' split
  all_goals simp
  all_goals omega
theorem spansT_length (l : List Sp) : (spansT l).length ≤ 9 * l.length := by
  induction l with
  | nil => simp [spansT]
  | cons s l ih =>
    have := spanT_length s
    simp [spansT] at ih ⊢
    omega
theorem setT_length (l : List Sp) : (setT l).length ≤ 9 * l.length + 4 := by
  have := spansT_length l
  unfold setT
  cases lone l with
  | none => simp; omega
  | some c => have := byteT_length c; simp; omega
theorem spansT_snoc (l : List Sp) (k : Nat) (s : Sp) (h : l[k]? = some s) : spansT (l.take (k + 1)) = spansT (l.take k) ++ spanT s := by
  obtain ⟨hk, e⟩ := List.getElem?_eq_some_iff.1 h
  rw [List.take_add_one, h]
  simp [spansT]

theorem OwnB.drewN {w : World} {base n cap : Nat} {a : Option Addr} {ys : List UInt8} (h : OwnB w base a n cap ys) (k : Nat) : OwnB (w.drewN k) base a n cap ys := h
theorem Only.drewN (w : World) (base : Nat) (t : TypeId) (k : Nat) : Only base t w (w.drewN k) := ⟨rfl, rfl, rfl, Nat.le_refl _, fun _ _ h _ => h⟩
theorem Sps.drewN {w : World} {a : Option Addr} {cap : Nat} {l : List Sp} (h : Sps w a cap l) (k : Nat) : Sps (w.drewN k) a cap l := ⟨h.le, h.max, h.nil_, h.at_, h.cell⟩

theorem Below.spsB {B : Nat} {w w' : World} {a : Option Addr} {cap : Nat} {l : List Sp} (hb : Below B w w') (h : Sps w a cap l) (ha : ∀ b off, a = some ⟨b, off, none⟩ → b < B) : Sps w' a cap l :=
  ⟨h.le, h.max, h.nil_, h.at_, fun b off e i hi => ⟨(hb.cell (p := ⟨b, off + i * 2, none⟩) (ha b off e)).trans (h.cell b off e i hi).1, (hb.cell (p := ⟨b, off + i * 2 + 1, none⟩) (ha b off e)).trans (h.cell b off e i hi).2⟩⟩

end Go.Proofs.Ytpbceejjkdmclaa

/- An expression's text, as a plain function. -/
namespace Go.Proofs.Ytpbceejjkdmclaa
open Go.RowKit

def repT (k : Int) : UInt8 := if k = 5 then 42 else if k = 6 then 43 else 63
/-- What an expression's text is, given its parts' together. -/
def nodeT (h : Hd) (body : List UInt8) : List UInt8 :=
  if h.k = 1 then [40, 41] else if h.k = 2 then setT h.set else body ++ (if 5 ≤ h.k then [repT h.k] else [])
/-- A part of an expression of kind k. -/
def partT (k : Int) (h : Hd) (t : List UInt8) : List UInt8 := if h.k = 4 ∨ (h.k = 3 ∧ k ≠ 4) then 40 :: (t ++ [41]) else t
/-- The parts of an expression of kind k, one behind the other. -/
def textF : Fo → Int → Bool → List UInt8
  | .nil, _, _ => []
  | .cons h kids rest, k, first => (if k = 4 ∧ first = false then [124] else []) ++ (partT k h (nodeT h (textF kids h.k true)) ++ textF rest k false)
/-- An expression's text. -/
def textOf (h : Hd) (kids : Fo) : List UInt8 := nodeT h (textF kids h.k true)

/-- Every expression has just what its kind has. -/
def okF : Fo → Prop
  | .nil => True
  | .cons h kids rest => plainB h kids.len = true ∧ okF kids ∧ okF rest
/-- How much room is surely enough. -/
def wtT : Fo → Nat
  | .nil => 0
  | .cons h kids rest => 9 * h.set.length + 12 + wtT kids + wtT rest

theorem nodeT_length (h : Hd) (b : List UInt8) : (nodeT h b).length ≤ 9 * h.set.length + 5 + b.length := by
  have := setT_length h.set
  unfold nodeT
  repeat' split
  all_goals simp
  all_goals omega
theorem partT_length (k : Int) (h : Hd) (t : List UInt8) : (partT k h t).length ≤ t.length + 2 := by
  unfold partT
  split
  all_goals simp
theorem textF_length : ∀ (f : Fo) (k : Int) (b : Bool), (textF f k b).length ≤ wtT f := by
  intro f
  induction f with
  | nil => intro k b; simp [textF]
  | cons h kids rest ihk ihr =>
    intro k b
    have h1 := ihk h.k true
    have h2 := ihr k false
    have h3 := nodeT_length h (textF kids h.k true)
    have h4 := partT_length k h (nodeT h (textF kids h.k true))
    have h5 : (if k = 4 ∧ b = false then ([124] : List UInt8) else []).length ≤ 1 := by split <;> simp
    simp only [textF, wtT, List.length_append]
    omega
theorem textOf_length (h : Hd) (kids : Fo) : (textOf h kids).length ≤ 9 * h.set.length + 5 + wtT kids := by
  have h1 := textF_length kids h.k true
  have h2 := nodeT_length h (textF kids h.k true)
  unfold textOf; omega

/-- The parts up to the j-th. -/
def Fo.take : Nat → Fo → Fo
  | 0, _ => .nil
  | _ + 1, .nil => .nil
  | k + 1, .cons h kids rest => .cons h kids (rest.take k)
theorem textF_snoc : ∀ (j : Nat) (f : Fo) (k : Int) (b : Bool) (h : Hd) (kids rest : Fo), f.drop j = .cons h kids rest →
    textF (f.take (j + 1)) k b = textF (f.take j) k b ++ ((if k = 4 ∧ (b = false ∨ 0 < j) then [124] else []) ++ partT k h (textOf h kids)) := by
  intro j
  induction j with
  | zero =>
    intro f k b h kids rest e
    simp only [Fo.drop] at e
    subst e
    simp [Fo.take, textF, textOf]
  | succ j ih =>
    intro f k b h kids rest e
    cases f with
    | nil => simp [Fo.drop] at e
    | cons h' kids' rest' =>
      simp only [Fo.drop] at e
      have := ih rest' k false h kids rest e
      simp only [Fo.take, textF] at this ⊢
      rw [this]
      simp
theorem Fo.take_all : ∀ (j : Nat) (f : Fo), f.len ≤ j → f.take j = f := by
  intro j
  induction j with
  | zero => intro f h; cases f with
    | nil => rfl
    | cons h' k r => simp [Fo.len] at h
  | succ j ih => intro f h; cases f with
    | nil => rfl
    | cons h' k r => simp only [Fo.take]; rw [ih r (by simp [Fo.len] at h; omega)]
theorem okF_drop : ∀ (j : Nat) (f : Fo), okF f → okF (f.drop j) := by
  intro j
  induction j with
  | zero => intro f h; exact h
  | succ j ih => intro f h; cases f with
    | nil => trivial
    | cons h' k r => exact ih r h.2.2
theorem wtT_drop : ∀ (j : Nat) (f : Fo), wtT (f.take j) + wtT (f.drop j) = wtT f := by
  intro j
  induction j with
  | zero => intro f; simp [Fo.take, Fo.drop, wtT]
  | succ j ih => intro f; cases f with
    | nil => rfl
    | cons h' k r => have := ih r; simp only [Fo.take, Fo.drop, wtT]; omega

/-- Spans in order are none of them empty. -/
theorem ordB_le {l : List Sp} (h : ordB l = true) : ∀ s ∈ l, s.lo.toNat ≤ s.hi.toNat := by
  intro s hs
  obtain ⟨i, hi, e⟩ := List.mem_iff_getElem.1 hs
  unfold ordB ordK at h
  rw [List.all_eq_true] at h
  have := h i (by simpa using hi)
  unfold okAt at this
  rw [List.getElem?_eq_getElem hi] at this
  simp only [e, Bool.and_eq_true, decide_eq_true_eq] at this
  exact this.1
end Go.Proofs.Ytpbceejjkdmclaa
