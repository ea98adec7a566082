/- wire.readList, where readItem is as it should be one level deeper. -/
import Derived.Test.YtahibjiiaocjkaaRdMem
namespace Go.Proofs.Ytahibjiiaocjkaa
open Go.RowKit

/-- What readItem answers: the item that stands there, in blocks that were made since; or the error. -/
def ItemAns (d : Nat) (xs : List UInt8) (w w' : World) (e : Ending) : Prop := match rdItem d xs with
  | .inl er => e = .returned (.tuple #[zeroV, .int .i64 0, .int .i64 er])
  | .inr (h, k, n) => ∃ a c, e = .returned (.tuple #[itemV h a k.len c, .int .i64 (n : Int), .int .i64 0]) ∧ ItemsP (fun b => w.heap.size ≤ b ∧ b < w'.heap.size) w' a c k
/-- What readList answers. -/
def ListAns (d : Nat) (xs : List UInt8) (w w' : World) (e : Ending) : Prop := match rdCnt 0 0 xs with
  | .inl er => e = .returned (.tuple #[zeroV, .int .i64 0, .int .i64 er])
  | .inr (n, i) => match rdList (rdItem d) n (xs.drop i) with
    | .inl er => e = .returned (.tuple #[zeroV, .int .i64 0, .int .i64 er])
    | .inr (f, m) => ∃ a c, e = .returned (.tuple #[itemV ⟨3, 0, ByteArray.empty⟩ a f.len c, .int .i64 ((i + m : Nat) : Int), .int .i64 0]) ∧ ItemsP (fun b => w.heap.size ≤ b ∧ b < w'.heap.size) w' a c f

theorem rdErr : ∀ (d : Nat) (xs : List UInt8) (e : Int), rdItem d xs = .inl e → e = 10 ∨ e = 11 ∨ e = 3 := by
  intro d
  induction d with
  | zero => intro xs e h; cases xs with
    | nil => simp [rdItem] at h; exact .inl h.symm
    | cons c r => simp [rdItem] at h; exact .inr (.inr h.symm)
  | succ d ih =>
    have hl : ∀ (c : Nat) (xs : List UInt8) (e : Int), rdList (rdItem d) c xs = .inl e → e = 10 ∨ e = 11 ∨ e = 3 := by
      intro c
      induction c with
      | zero => intro xs e h; simp [rdList] at h
      | succ c ihc =>
        intro xs e h
        rw [rdList] at h
        split at h
        · rename_i he; cases h; exact ih _ _ he
        · split at h
          · rename_i he; cases h; exact ihc _ _ he
          · cases h
    intro xs e h
    cases xs with
    | nil => simp [rdItem] at h; exact .inl h.symm
    | cons c r =>
      unfold rdItem at h
      split at h
      · split at h
        · cases h; exact .inl rfl
        · cases h
      · split at h
        · split at h
          · rename_i he; cases h; rcases rdCnt_err _ _ _ _ he with h | h
            · exact .inl h
            · exact .inr (.inl h)
          · split at h
            · cases h; exact .inl rfl
            · cases h
        · split at h
          · split at h
            · rename_i he; cases h; rcases rdCnt_err _ _ _ _ he with h | h
              · exact .inl h
              · exact .inr (.inl h)
            · split at h
              · rename_i he; cases h; exact hl _ _ _ he
              · cases h
          · cases h; exact .inr (.inl rfl)

/-- What comes behind items that were read. -/
def appE : List Ea → Fo → Fo
  | [], f => f
  | e :: r, f => .cons e.h e.k (appE r f)
def addE (es : List Ea) (s : Nat) : Sum Int (Fo × Nat) → Sum Int (Fo × Nat)
  | .inl e => .inl e
  | .inr (f, m) => .inr (appE es f, s + m)
theorem appE_snoc (es : List Ea) (e : Ea) (f : Fo) : appE (es ++ [e]) f = appE es (.cons e.h e.k f) := by
  induction es with
  | nil => rfl
  | cons x r ih => simp [appE, ih]
theorem appE_nil (es : List Ea) : appE es .nil = foE es := by
  induction es with
  | nil => rfl
  | cons x r ih => simp [appE, foE, ih]
theorem addE_step {es : List Ea} {s d c n : Nat} {xs : List UInt8} {h : Hd} {k : Fo} (a : Option Addr) (cc : Nat) (he : rdItem d xs = .inr (h, k, n)) :
    addE es s (rdList (rdItem d) (c + 1) xs) = addE (es ++ [⟨h, k, a, cc⟩]) (s + n) (rdList (rdItem d) c (xs.drop n)) := by
  rw [rdList, he]
  simp only
  cases rdList (rdItem d) c (xs.drop n) with
  | inl e => rfl
  | inr p =>
    obtain ⟨f, m⟩ := p
    simp only [addE, appE_snoc]
    congr 2
    omega
theorem addE_err {es : List Ea} {s d c : Nat} {xs : List UInt8} {e : Int} (he : rdItem d xs = .inl e) : addE es s (rdList (rdItem d) (c + 1) xs) = .inl e := by
  rw [rdList, he]; rfl

/-- Where b[at:] begins. -/
def fromA (a : Option Addr) (cap at_ : Nat) : Option Addr := if cap = at_ then a else a.map (fun x => x.add at_)
theorem bytes_from {w : World} {a : Option Addr} {cap at_ L : Nat} {xs : List UInt8} (hb : Bytes w a cap xs) (hL : L = xs.length) (h : at_ ≤ L) : Bytes w (fromA a cap at_) (cap - at_) (xs.drop at_) := by
  have := hb.part (lo := at_) (hi := L) (a' := fromA a cap at_) h (by omega)
    (fun b off e hlt => by have := hb.le; unfold fromA; rw [if_neg (by omega), e]; simp only [Option.map_some]; unfold Addr.add; split <;> simp_all)
    (fun e => by unfold fromA; split <;> simp [e]) (fun e => by
      unfold fromA at e
      split at e
      · exact e
      · simpa using e)
  rwa [List.take_of_length_le (by rw [List.length_drop]; omega)] at this

theorem blk_put4 {w : World} {b : Nat} {e : TypeId} {c0 c1 c2 c3 : Value} (h : Blk w b e [c0, c1, c2, c3]) (v0 v1 v2 v3 : Value) :
    Blk ((((w.setCell ⟨b, 0, none⟩ v0).setCell ⟨b, 1, none⟩ v1).setCell ⟨b, 2, none⟩ v2).setCell ⟨b, 3, none⟩ v3) b e [v0, v1, v2, v3] := (((h.set 0 v0).set 1 v1).set 2 v2).set 3 v3
theorem below_put4 {w0 w : World} {B b : Nat} (h : Below B w0 w) (hb : B ≤ b) (v0 v1 v2 v3 : Value) :
    Below B w0 ((((w.setCell ⟨b, 0, none⟩ v0).setCell ⟨b, 1, none⟩ v1).setCell ⟨b, 2, none⟩ v2).setCell ⟨b, 3, none⟩ v3) := (((h.setCell (p := ⟨b, 0, none⟩) hb v0).setCell (p := ⟨b, 1, none⟩) hb v1).setCell (p := ⟨b, 2, none⟩) hb v2).setCell (p := ⟨b, 3, none⟩) hb v3
theorem put4_other {w : World} {b g : Nat} (h : g ≠ b) (v0 v1 v2 v3 : Value) : ((((w.setCell ⟨b, 0, none⟩ v0).setCell ⟨b, 1, none⟩ v1).setCell ⟨b, 2, none⟩ v2).setCell ⟨b, 3, none⟩ v3).heap[g]? = w.heap[g]? := by
  rw [Below.heap_setCell _ _ _ _ (by simpa using h), Below.heap_setCell _ _ _ _ (by simpa using h), Below.heap_setCell _ _ _ _ (by simpa using h), Below.heap_setCell _ _ _ _ (by simpa using h)]
theorem put4_size (w : World) (b : Nat) (v0 v1 v2 v3 : Value) : ((((w.setCell ⟨b, 0, none⟩ v0).setCell ⟨b, 1, none⟩ v1).setCell ⟨b, 2, none⟩ v2).setCell ⟨b, 3, none⟩ v3).heap.size = w.heap.size := by
  simp [World.setCell]

set_option maxRecDepth 100000 in
set_option maxHeartbeats 2000000 in
theorem readList_any (d : Nat) (ar : Int) (har : 0 ≤ ar ∧ ar ≤ 39)
    (ih : ∀ (a : Option Addr) (L cap : Nat) (xs : List UInt8) (w : World), Bytes w a cap xs → L = xs.length → Calls Try.prog 47 #[.slice a L cap, .int .i64 (ar + 1)] w fun e w' => ItemAns d xs w w' e ∧ Below w.heap.size w w')
    (a : Option Addr) (L cap : Nat) (xs : List UInt8) (w : World) (hb : Bytes w a cap xs) (hL : L = xs.length) :
    Calls Try.prog 54 #[.slice a L cap, .int .i64 ar] w fun e w' => ListAns d xs w w' e ∧ Below w.heap.size w w' := by
  obtain ⟨har0, har1⟩ := har
  have hle := hb.le
  have hmx := hb.max
  rw [← hL] at hle
  have hb0 : Below w.heap.size w (w.alloc (.cells #[.int .i64 0, .int .i64 0, .string ⟨#[]⟩, .slice none 0 0] 24)) := (Below.refl _ w).alloc (Nat.le_refl _) _
  have hcc := readCount_any a cap xs _ (hb.grown hb0)
  rw [← hL] at hcc
  cases hcnt : rdCnt 0 0 xs with
  | inl er =>
    have ht : ∀ w' e, e = .returned (.tuple #[zeroV, .int .i64 0, .int .i64 er]) → ListAns d xs w w' e := fun w' e he => by unfold ListAns; rw [hcnt]; exact he
    have her := rdCnt_err _ _ _ _ hcnt
    rw [hcnt] at hcc
    simp only [cntV] at hcc
    have hne : (er != 0) = true := by rcases her with rfl | rfl <;> rfl
    have HT := Lib.hid ht
    clear her ht hcnt ih
    have HL := Lib.hid hL
    clear hL
    go_enter Try.func54, Try.ntmps54
    go_wp2_with (fail)
    refine hcc.mono ?_
    rintro e w2 ⟨rfl, rfl⟩
    clear hcc
    go_wp2_with (fail)
    exact bodyPost_ret (v := .tuple #[zeroV, .int .i64 0, .int .i64 er]) (by simp [results, Try.results54, go_sem]; try rfl) rfl ⟨HT.out _ _ rfl, (Below.refl _ w).alloc (Nat.le_refl _) _⟩
  | inr p =>
    obtain ⟨n, i⟩ := p
    obtain ⟨t, ht, h1, h2, h3, _⟩ := rdCnt_sound _ _ _ _ _ (by omega) hcnt
    rw [Nat.zero_add] at ht
    subst ht
    rw [hcnt] at hcc
    simp only [cntV] at hcc
    rw [← hL] at h2
    obtain ⟨R, HR⟩ : ∃ R, Hid (rdList (rdItem d) n (xs.drop i) = R) := ⟨_, Lib.hid rfl⟩
    have htE : ∀ w' er e, R = .inl er → e = .returned (.tuple #[zeroV, .int .i64 0, .int .i64 er]) → ListAns d xs w w' e := fun w' er e hR he => by
      unfold ListAns; rw [hcnt]; simp only [HR.out]; rw [hR]; exact he
    have htO : ∀ w' f m e a c, R = .inr (f, m) → e = .returned (.tuple #[itemV ⟨3, 0, ByteArray.empty⟩ a f.len c, .int .i64 ((i + m : Nat) : Int), .int .i64 0]) → ItemsP (fun b => w.heap.size ≤ b ∧ b < w'.heap.size) w' a c f → ListAns d xs w w' e := fun w' f m e a c hR he hi => by
      unfold ListAns; rw [hcnt]; simp only [HR.out]; rw [hR]; exact ⟨a, c, he, hi⟩
    have HTE := Lib.hid htE
    have HTO := Lib.hid htO
    have HL := Lib.hid hL
    have hB0 := (Blk.new w 24 #[.int .i64 0, .int .i64 0, .string ⟨#[]⟩, .slice none 0 0]).alloc (.cells #[.int .i64 3, .int .i64 0, .string ⟨#[]⟩, .slice none 0 0] 24)
    have hBV := Blk.new (w.alloc (.cells #[.int .i64 0, .int .i64 0, .string ⟨#[]⟩, .slice none 0 0] 24)) 24 #[.int .i64 3, .int .i64 0, .string ⟨#[]⟩, .slice none 0 0]
    rw [World.size_alloc] at hBV
    have hb1 : Below w.heap.size w ((w.alloc (.cells #[.int .i64 0, .int .i64 0, .string ⟨#[]⟩, .slice none 0 0] 24)).alloc (.cells #[.int .i64 3, .int .i64 0, .string ⟨#[]⟩, .slice none 0 0] 24)) := hb0.alloc (by simp) _
    clear htE htO hcnt hL hb0
    go_enter Try.func54, Try.ntmps54
    go_wp2_with (fail)
    refine hcc.mono ?_
    rintro e w2 ⟨rfl, rfl⟩
    clear hcc
    go_wp2_with (fail)
    go_loopw [8, 26] (fun atv cv wr => ∃ (es : List Ea) (at_ : Nat) (A : Option Addr) (C : Nat), es.length ≤ n ∧ cv = .int .i64 (es.length : Int) ∧ atv = .int .i64 (at_ : Int) ∧ i ≤ at_ ∧ at_ ≤ L ∧
      Blk wr w.heap.size 24 [.int .i64 0, .int .i64 0, .string ⟨#[]⟩, .slice none 0 0] ∧ Blk wr (w.heap.size + 1) 24 [.int .i64 3, .int .i64 0, .string ⟨#[]⟩, .slice A es.length C] ∧
      wr.ownsRow (w.heap.size + 2) 24 4 (.slice A es.length C) es.length (rowE es) ∧ (∀ e ∈ es, ItemsP (fun b => w.heap.size ≤ b ∧ b < wr.heap.size ∧ w.heap.size + 2 ≤ b ∧ (Value.slice A es.length C).ownBlock ≠ some b) wr e.a e.c e.k) ∧
      R = addE es (at_ - i) (rdList (rdItem d) (n - es.length) (xs.drop at_)) ∧ Below w.heap.size w wr) (fun _ c _ => n - (intOf c).toNat)
    case atStart => exact ⟨[], i, none, 0, by simp, rfl, rfl, Nat.le_refl _, h2, hB0, hBV, World.ownsRow_nil _ _ _ _, by simp, by rw [← HR.out, Nat.sub_self]; simp only [List.length_nil, Nat.sub_zero]; cases rdList (rdItem d) n (xs.drop i) with
      | inl e => rfl
      | inr p => obtain ⟨f, m⟩ := p; simp [addE, appE], hb1⟩
    case round =>
      obtain ⟨es, at_, A, C, hen, rfl, rfl, hai, haL, hBr0, hBrV, hown, hes, hr, hbr⟩ := hrel
      have Hr := Lib.hid hr
      have Hes := Lib.hid hes
      clear hB0 hBV hb1 hr hes
      have v0 := hBrV.cell 0
      have v1 := hBrV.cell 1
      have v2 := hBrV.cell 2
      have v3 := hBrV.cell 3
      simp only [List.getElem?_cons_zero, List.getElem?_cons_succ] at v0 v1 v2 v3
      have hl0 := hBr0.lt
      have hlV := hBrV.lt
      by_cases hlt : es.length < n
      · have hbx := bytes_from (hb.grown hbr) HL.out haL
        have hdl : L - at_ = (xs.drop at_).length := by rw [List.length_drop, ← HL.out]
        have hcases : (at_ = cap ∧ Calls Try.prog 47 #[.slice a 0 0, .int .i64 (ar + 1)] wr fun e w' => ItemAns d (xs.drop at_) wr w' e ∧ Below wr.heap.size wr w') ∨
            (¬ cap = at_ ∧ Calls Try.prog 47 #[.slice (a.map (fun x => x.add at_)) (L - at_) (cap - at_), .int .i64 (ar + 1)] wr fun e w' => ItemAns d (xs.drop at_) wr w' e ∧ Below wr.heap.size wr w') := by
          by_cases hc : cap = at_
          · refine .inl ⟨hc.symm, ih a 0 0 (xs.drop at_) wr ?_ (by omega)⟩
            rw [show fromA a cap at_ = a from by unfold fromA; rw [if_pos hc], show cap - at_ = 0 from by omega] at hbx
            exact hbx
          · refine .inr ⟨hc, ih _ (L - at_) (cap - at_) (xs.drop at_) wr ?_ hdl⟩
            rw [show fromA a cap at_ = a.map (fun x => x.add at_) from by unfold fromA; rw [if_neg hc]] at hbx
            exact hbx
        have HD := Lib.hid hdl
        clear hdl hbx ih hb
        rcases hcases with ⟨hc, hcall⟩ | ⟨hc, hcall⟩
        all_goals
          try subst hc
          go_wp2_with (fail)
          refine hcall.mono ?_
          rintro e wb ⟨hans, hbb⟩
          have hBb0 := hBr0.below hbb hl0
          have hBbV := hBrV.below hbb hlV
          have hbwb : Below w.heap.size w wb := hbr.trans (hbb.mono hbr.size)
          clear hcall v0 v1 v2 v3
          cases hrd : rdItem d (xs.drop at_) with
          | inl er =>
            have he : e = .returned (.tuple #[zeroV, .int .i64 0, .int .i64 er]) := by unfold ItemAns at hans; rw [hrd] at hans; exact hans
            subst he
            have hR : R = .inl er := by rw [Hr.out, show n - es.length = (n - es.length - 1) + 1 from by omega]; exact addE_err hrd
            have hne : (er != 0) = true := by rcases rdErr _ _ _ hrd with rfl | rfl | rfl <;> rfl
            have HT := Lib.hid (fun w' => HTE.out w' er _ hR rfl)
            have z0 := hBb0.cell 0
            have z1 := hBb0.cell 1
            have z2 := hBb0.cell 2
            have z3 := hBb0.cell 3
            have y0 := hBb0.frozen 0
            have y1 := hBb0.frozen 1
            have y2 := hBb0.frozen 2
            have y3 := hBb0.frozen 3
            simp only [List.getElem?_cons_zero, List.getElem?_cons_succ] at z0 z1 z2 z3
            have hlb := hBb0.lt
            have hF := (blk_put4 hBb0 (.int .i64 0) (.int .i64 0) (.string ⟨#[]⟩) (.slice none 0 0)).alloc (.cells #[.int .i64 0, .int .i64 0, .string ⟨#[]⟩, .slice none 0 0] 24)
            have f0 := hF.cell 0
            have f1 := hF.cell 1
            have f2 := hF.cell 2
            have f3 := hF.cell 3
            simp only [List.getElem?_cons_zero, List.getElem?_cons_succ] at f0 f1 f2 f3
            have HF := Lib.hid (And.intro f0 (And.intro f1 (And.intro f2 f3)))
            have Hbw := Lib.hid hbwb
            clear hR hrd hans hF f0 f1 f2 f3 hbwb
            go_wp2_with (fail)
            obtain ⟨f0, f1, f2, f3⟩ := HF.out
            exact bodyPost_ret (v := .tuple #[zeroV, .int .i64 0, .int .i64 er]) (by simp [results, Try.results54, go_sem, f0, f1, f2, f3]; try rfl) rfl ⟨HT.out _, (below_put4 Hbw.out (Nat.le_refl _) _ _ _ _).alloc (by rw [put4_size]; exact Hbw.out.size) _⟩
          | inr q =>
            obtain ⟨h, k, m⟩ := q
            have hsnd := rd_sound d _ h k m hrd
            unfold ItemAns at hans
            rw [hrd] at hans
            obtain ⟨a', c', rfl, hIP⟩ := hans
            have hml : m ≤ L - at_ := by have := hsnd.le; rw [← HD.out] at this; exact this
            have hR : Hid (R = addE (es ++ [⟨h, k, a', c'⟩]) (at_ - i + m) (rdList (rdItem d) (n - (es.length + 1)) (xs.drop (at_ + m)))) := Lib.hid (by
              rw [Hr.out, show n - es.length = (n - (es.length + 1)) + 1 from by omega, addE_step a' c' hrd, List.drop_drop])
            have hk1 := hIP.le
            have hk2 := hIP.max
            have hownb : wb.ownsRow (w.heap.size + 2) 24 4 (.slice A es.length C) es.length (rowE es) := hown.kept (below_grownBy hbb none) (by cases A <;> simp [Value.ownBlock])
            have hownc : (wb.alloc (.cells #[.int .i64 h.k, .int .i64 h.n, .string h.s, .slice a' k.len c'] 24)).ownsRow (w.heap.size + 2) 24 4 (.slice A es.length C) es.length (rowE es) := hownb.alloc _
            have hszb := hbb.size
            obtain ⟨a7, c7, w7, hrun7, ho7, hg7, hfresh⟩ := run_item (wb.alloc (.cells #[.int .i64 h.k, .int .i64 h.n, .string h.s, .slice a' k.len c'] 24)) 22 ⟨h, k, a', c'⟩ hownc (by omega) (by simp; omega)
            have holt := hown.lt
            have hg7b : wb.grownBy w7 (Value.slice A es.length C).ownBlock := grownBy_trans (World.grownBy_alloc wb _ _) hg7 (fun i e => .inl e)
            have hBcV := hBbV.kept hg7b (fun e => by have := (holt _ e.symm).1; omega)
            have hBc0 := hBb0.kept hg7b (fun e => by have := (holt _ e.symm).1; omega)
            have hbw7 : Below w.heap.size w w7 := hbwb.grown hg7b hbwb.size (fun i e => by have := (holt i e).1; omega)
            have hBdV := hBcV.set 3 (.slice a7 (es.length + 1) c7)
            have hBd0 := hBc0.setOther (b' := w.heap.size + 1) (j := 3) (by omega) (.slice a7 (es.length + 1) c7)
            have hown7 : (w7.setCell ⟨w.heap.size + 1, 3, none⟩ (.slice a7 (es.length + 1) c7)).ownsRow (w.heap.size + 2) 24 4 (.slice a7 (es.length + 1) c7) (es.length + 1) (rowE es ++ (Ea.row ⟨h, k, a', c'⟩)) := ho7.kept (grownBy_set w7 _ _ _) (.inr fun e => by have := (ho7.lt _ e).1; omega)
            have hbw8 : Below w.heap.size w (w7.setCell ⟨w.heap.size + 1, 3, none⟩ (.slice a7 (es.length + 1) c7)) := hbw7.setCell (p := ⟨w.heap.size + 1, 3, none⟩) (by simp) _
            have hsz8 : (w7.setCell ⟨w.heap.size + 1, 3, none⟩ (.slice a7 (es.length + 1) c7)).heap.size = w7.heap.size := by simp [World.setCell]
            have hsz7 := hg7b.size
            -- a block that was there, and is not the row's: it is as it was, and is not the new row's
            have hkeep : ∀ b, w.heap.size + 2 ≤ b → b < wb.heap.size → (Value.slice A es.length C).ownBlock ≠ some b → (w7.setCell ⟨w.heap.size + 1, 3, none⟩ (.slice a7 (es.length + 1) c7)).heap[b]? = wb.heap[b]? ∧ (Value.slice a7 (es.length + 1) c7).ownBlock ≠ some b := by
              intro b h1 h2 h3
              refine ⟨?_, ?_⟩
              · rw [Below.heap_setCell _ _ _ _ (by simp; omega)]
                exact hg7b.block b h2 (fun e => h3 e.symm)
              · rcases hfresh with rfl | ⟨g, rfl, hge⟩
                · cases a7 with
                  | none => simp [Value.ownBlock]
                  | some x => simpa [Value.ownBlock] using h3
                · simp at hge
                  simp only [Value.ownBlock, ne_eq, Option.some.injEq]
                  omega
            have hes8 : ∀ e ∈ es ++ [⟨h, k, a', c'⟩], ItemsP (fun b => w.heap.size ≤ b ∧ b < (w7.setCell ⟨w.heap.size + 1, 3, none⟩ (.slice a7 (es.length + 1) c7)).heap.size ∧ w.heap.size + 2 ≤ b ∧ (Value.slice a7 (es.length + 1) c7).ownBlock ≠ some b) (w7.setCell ⟨w.heap.size + 1, 3, none⟩ (.slice a7 (es.length + 1) c7)) e.a e.c e.k := by
              intro e he
              rcases List.mem_append.1 he with he | he
              · refine (Hes.out e he).move fun b hp hlt => ?_
                obtain ⟨p1, p2, p3, p4⟩ := hp
                obtain ⟨k1, k2⟩ := hkeep b p3 (by omega) p4
                exact ⟨⟨p1, by rw [hsz8]; omega, p3, k2⟩, k1.trans (hbb.block b p2)⟩
              · simp only [List.mem_singleton] at he
                subst he
                refine hIP.move fun b hp hlt => ?_
                obtain ⟨p1, p2⟩ := hp
                obtain ⟨k1, k2⟩ := hkeep b (by omega) p2 (fun e => by have := (holt b e).2; omega)
                exact ⟨⟨by omega, by rw [hsz8]; omega, by omega, k2⟩, k1⟩
            rw [World.size_alloc] at hrun7
            have Hr7 := Lib.hid hrun7
            have Hfin := Lib.hid (And.intro hBd0 (And.intro hBdV (And.intro hown7 (And.intro hes8 hbw8))))
            have vv3 := hBbV.cell 3
            have vf := hBcV.frozen 3
            have vx3 := hBcV.cell 3
            simp only [List.getElem?_cons_zero, List.getElem?_cons_succ] at vv3 vx3
            have hlbV := hBbV.lt
            clear hrun7 hBd0 hBdV hown7 hes8 hbw8 hkeep hfresh holt hg7b hg7 ho7 hownc hownb hown hIP hsnd hrd hbw7 hBcV hBc0 hBb0 hBbV hBr0 hBrV hsz8 hsz7 hbwb hbb
            go_wp2_with (at_builtin; refine wpList_append_run rfl _ _ 22 22 rfl _ _ _ _ rfl rfl Hr7.out ?_)
            go_roundw
            case rel =>
              obtain ⟨z1, z2, z3, z4, z5⟩ := Hfin.out
              refine ⟨es ++ [⟨h, k, a', c'⟩], at_ + m, a7, c7, ?_, ?_, ?_, ?_, ?_, z1, ?_, ?_, ?_, ?_, z5⟩
              · simp; omega
              · simp
              · simp
              · omega
              · omega
              · simpa using z2
              · simpa [rowE_snoc] using z3
              · simpa using z4
              · have := hR.out
                rw [show at_ - i + m = at_ + m - i from by omega] at this
                simpa using this
            case measure => simp [intOf]; omega
      · have hen2 : n = es.length := by omega
        subst hen2
        have hRe : R = .inr (foE es, at_ - i) := by
          rw [Hr.out, Nat.sub_self, rdList]
          simp [addE, appE_nil]
        have hIt : ItemsP (fun b => w.heap.size ≤ b ∧ b < wr.heap.size) wr A C (foE es) := items_row hown (fun g hg => by have := hown.lt g hg; omega) (fun e he => (Hes.out e he).move (fun b hp _ => ⟨⟨hp.1, hp.2.1⟩, rfl⟩))
        have z0 := hBr0.cell 0
        have z1 := hBr0.cell 1
        have z2 := hBr0.cell 2
        have z3 := hBr0.cell 3
        have y0 := hBr0.frozen 0
        have y1 := hBr0.frozen 1
        have y2 := hBr0.frozen 2
        have y3 := hBr0.frozen 3
        simp only [List.getElem?_cons_zero, List.getElem?_cons_succ] at z0 z1 z2 z3
        have hF := blk_put4 hBr0 (.int .i64 3) (.int .i64 0) (.string ⟨#[]⟩) (.slice A es.length C)
        have f0 := hF.cell 0
        have f1 := hF.cell 1
        have f2 := hF.cell 2
        have f3 := hF.cell 3
        simp only [List.getElem?_cons_zero, List.getElem?_cons_succ] at f0 f1 f2 f3
        have HF := Lib.hid (And.intro f0 (And.intro f1 (And.intro f2 f3)))
        have Hbw := Lib.hid hbr
        have hIt2 : ItemsP (fun b => w.heap.size ≤ b ∧ b < ((((wr.setCell ⟨w.heap.size, 0, none⟩ (.int .i64 3)).setCell ⟨w.heap.size, 1, none⟩ (.int .i64 0)).setCell ⟨w.heap.size, 2, none⟩ (.string ⟨#[]⟩)).setCell ⟨w.heap.size, 3, none⟩ (.slice A es.length C)).heap.size) ((((wr.setCell ⟨w.heap.size, 0, none⟩ (.int .i64 3)).setCell ⟨w.heap.size, 1, none⟩ (.int .i64 0)).setCell ⟨w.heap.size, 2, none⟩ (.string ⟨#[]⟩)).setCell ⟨w.heap.size, 3, none⟩ (.slice A es.length C)) A C (foE es) := by
          have hI3 : ItemsP (fun b => w.heap.size + 2 ≤ b ∧ b < wr.heap.size) wr A C (foE es) := items_row hown (fun g hg => hown.lt g hg) (fun e he => (Hes.out e he).move (fun b hp _ => ⟨⟨hp.2.2.1, hp.2.1⟩, rfl⟩))
          refine hI3.move fun b hp _ => ⟨⟨by omega, by rw [put4_size]; exact hp.2⟩, put4_other (by omega) _ _ _ _⟩
        have HI := Lib.hid hIt2
        have HRe := Lib.hid hRe
        clear hIt hIt2 hRe hF f0 f1 f2 f3 hown hBr0 hBrV hbr ih hb
        go_wp2_with (fail)
        obtain ⟨f0, f1, f2, f3⟩ := HF.out
        have hfl : (foE es).len = es.length := foE_len es
        exact bodyPost_ret (v := .tuple #[itemV ⟨3, 0, ByteArray.empty⟩ A es.length C, .int .i64 (at_ : Int), .int .i64 0]) (by simp [results, Try.results54, go_sem, f0, f1, f2, f3]; try rfl) rfl ⟨HTO.out _ (foE es) (at_ - i) _ A C HRe.out (by rw [hfl, show i + (at_ - i) = at_ from by omega]) HI.out, below_put4 Hbw.out (Nat.le_refl _) _ _ _ _⟩
end Go.Proofs.Ytahibjiiaocjkaa
