/- Texts joined: Zl Zm Zn Zo Zp Qq Zq Zr Zs Zt Zu Zv Zw Zx Zy Zz Fk Fl Fm Fn Fo Fp Lb Tf Tg. -/
import Derived.Test.YthogiakfbgehnaaRCAb
import Derived.Test.YthogiakfbgehnaaRCAa
import Derived.Deep.QuietTactic
import Derived.BigQuiet
import Derived.Deep.CutRange
import Derived.Defers
import Derived.Recover
import Derived.WalkLawsBesides
import Derived.Maps.AppendAt
set_option linter.unusedVariables false
set_option linter.unusedSimpArgs false
namespace Go.Proofs.Ythogiakfbgehnaa
open Go.RowKit
def TrF.len : TrF → Nat
  | .nil => 0
  | .cons _ _ rest => rest.len + 1
theorem TrF.app_len : ∀ (f g : TrF), (f.app g).len = f.len + g.len
  | .nil, g => by simp [TrF.app, TrF.len]
  | .cons h kids rest, g => by
    show (rest.app g).len + 1 = rest.len + 1 + g.len
    rw [TrF.app_len rest g]; omega
/-- The cells from an address on read as these trees; what is in them lies in blocks of a kind. -/
def TrEl (w : World) (P : Nat → Prop) : TrF → Nat → Nat → Prop
  | .nil, _, _ => True
  | .cons h kids rest, b, off =>
    w.cell? ⟨b, off, none⟩ = some (.int .i64 h.k) ∧ w.cell? ⟨b, off + 1, none⟩ = some (.int .i64 h.i) ∧ w.cell? ⟨b, off + 2, none⟩ = some (.int .i64 h.a) ∧
    (∃ ga gc, w.cell? ⟨b, off + 3, none⟩ = some (.slice ga kids.len gc) ∧ kids.len ≤ gc ∧ gc ≤ 9223372036854775807 ∧ (ga = none → gc = 0) ∧ (0 < kids.len → ∃ b' o', ga = some ⟨b', o', none⟩ ∧ P b' ∧ TrEl w P kids b' o')) ∧
    TrEl w P rest b (off + 4)
/-- A slice of trees. -/
structure TrS (w : World) (P : Nat → Prop) (a : Option Addr) (cap : Nat) (f : TrF) : Prop where
  le : f.len ≤ cap
  max : cap ≤ 9223372036854775807
  nil_ : a = none → cap = 0
  at_ : 0 < f.len → ∃ b off, a = some ⟨b, off, none⟩ ∧ P b ∧ TrEl w P f b off
/-- What lies in blocks of the kind is kept. -/
theorem TrEl.kept {w w' : World} {P : Nat → Prop} (hc : ∀ b off v, P b → w.cell? ⟨b, off, none⟩ = some v → w'.cell? ⟨b, off, none⟩ = some v) : ∀ (f : TrF) (b off : Nat), P b → TrEl w P f b off → TrEl w' P f b off := by
  intro f
  induction f with
  | nil => intro b off _ _; trivial
  | cons h kids rest ihk ihr =>
    rintro b off hb ⟨h1, h2, h3, ⟨ga, gc, h4, h5, h6, h7, h8⟩, h9⟩
    exact ⟨hc _ _ _ hb h1, hc _ _ _ hb h2, hc _ _ _ hb h3, ⟨ga, gc, hc _ _ _ hb h4, h5, h6, h7, fun hn => by obtain ⟨b', o', e, hl, hk⟩ := h8 hn; exact ⟨b', o', e, hl, ihk _ _ hl hk⟩⟩, ihr _ _ hb h9⟩
theorem TrS.kept {w w' : World} {P : Nat → Prop} {cap : Nat} {a : Option Addr} {f : TrF} (h : TrS w P a cap f) (hc : ∀ b off v, P b → w.cell? ⟨b, off, none⟩ = some v → w'.cell? ⟨b, off, none⟩ = some v) : TrS w' P a cap f :=
  ⟨h.le, h.max, h.nil_, fun hn => by obtain ⟨b, o, e, hl, hk⟩ := h.at_ hn; exact ⟨b, o, e, hl, TrEl.kept hc f b o hl hk⟩⟩
theorem TrS.grown {w w' : World} {P : Nat → Prop} {cap : Nat} {a : Option Addr} {f : TrF} (h : TrS w P a cap f) (hb : Below w.heap.size w w') : TrS w' P a cap f :=
  h.kept (fun b off v _ hv => (hb.cell (p := ⟨b, off, none⟩) (World.block_lt_of_cell? w _ hv)).trans hv)
/-- The kind of blocks may be told otherwise. -/
theorem TrEl.imp {w : World} {P Q : Nat → Prop} (hp : ∀ b, P b → b < w.heap.size → Q b) : ∀ (f : TrF) (b off : Nat), TrEl w P f b off → TrEl w Q f b off := by
  intro f
  induction f with
  | nil => intro b off _; trivial
  | cons h kids rest ihk ihr =>
    rintro b off ⟨h1, h2, h3, ⟨ga, gc, h4, h5, h6, h7, h8⟩, h9⟩
    refine ⟨h1, h2, h3, ⟨ga, gc, h4, h5, h6, h7, fun hn => ?_⟩, ihr _ _ h9⟩
    obtain ⟨b', o', e, hl, hk⟩ := h8 hn
    refine ⟨b', o', e, hp b' hl ?_, ihk _ _ hk⟩
    cases kids with
    | nil => simp [TrF.len] at hn
    | cons x y z => exact World.block_lt_of_cell? w ⟨b', o', none⟩ hk.1
theorem TrS.imp {w : World} {P Q : Nat → Prop} (hp : ∀ b, P b → b < w.heap.size → Q b) {cap : Nat} {a : Option Addr} {f : TrF} (h : TrS w P a cap f) : TrS w Q a cap f :=
  ⟨h.le, h.max, h.nil_, fun hn => by
    obtain ⟨b, o, e, hl, hk⟩ := h.at_ hn
    refine ⟨b, o, e, hp b hl ?_, TrEl.imp hp f b o hk⟩
    cases f with
    | nil => simp [TrF.len] at hn
    | cons x y z => exact World.block_lt_of_cell? w ⟨b, o, none⟩ hk.1⟩
theorem TrS.nil (w : World) (P : Nat → Prop) : TrS w P none 0 .nil := ⟨by simp [TrF.len], by omega, fun _ => rfl, fun h => by simp [TrF.len] at h⟩
/-- How many there are in all. -/
def TrF.size : TrF → Nat
  | .nil => 0
  | .cons _ kids rest => kids.size + rest.size + 1
def TrF.drop : Nat → TrF → TrF
  | 0, f => f
  | _ + 1, .nil => .nil
  | k + 1, .cons _ _ rest => rest.drop k

theorem TrF.drop_len : ∀ (k : Nat) (f : TrF), (f.drop k).len = f.len - k := by
  intro k
  induction k with
  | zero => intro f; rfl
  | succ k ih => intro f; cases f with
    | nil => simp [TrF.drop, TrF.len]
    | cons h kids rest => simp only [TrF.drop, TrF.len, ih]; omega
theorem TrF.drop_succ : ∀ (k : Nat) (f : TrF) (h : TrH) (kids rest : TrF), f.drop k = .cons h kids rest → f.drop (k + 1) = rest := by
  intro k
  induction k with
  | zero => intro f h kids rest e; simp only [TrF.drop] at e; subst e; rfl
  | succ k ih => intro f h kids rest e; cases f with
    | nil => simp [TrF.drop] at e
    | cons h' kids' rest' => simp only [TrF.drop] at e ⊢; exact ih _ _ _ _ e
theorem TrF.drop_cons {k : Nat} {f : TrF} (h : k < f.len) : ∃ hd kids rest, f.drop k = .cons hd kids rest := by
  have := TrF.drop_len k f
  cases e : f.drop k with
  | nil => rw [e] at this; simp [TrF.len] at this; omega
  | cons hd kids rest => exact ⟨_, _, _, rfl⟩
theorem TrF.drop_all {f : TrF} {k : Nat} (h : f.len ≤ k) : f.drop k = .nil := by
  have := TrF.drop_len k f
  cases e : f.drop k with
  | nil => rfl
  | cons hd kids rest => rw [e] at this; simp [TrF.len] at this; omega
theorem TrF.drop_size : ∀ (k : Nat) (f : TrF), (f.drop k).size ≤ f.size := by
  intro k
  induction k with
  | zero => intro f; exact Nat.le_refl _
  | succ k ih => intro f; cases f with
    | nil => exact Nat.le_refl _
    | cons h kids rest => simp only [TrF.drop, TrF.size]; have := ih rest; omega
theorem TrEl.drop {w : World} {P : Nat → Prop} : ∀ (k : Nat) (f : TrF) (b off : Nat), TrEl w P f b off → TrEl w P (f.drop k) b (off + k * 4) := by
  intro k
  induction k with
  | zero => intro f b off h; simpa [TrF.drop] using h
  | succ k ih => intro f b off h; cases f with
    | nil => trivial
    | cons hd kids rest =>
      have := ih rest b (off + 4) h.2.2.2.2
      rw [show off + (k + 1) * 4 = off + 4 + k * 4 from by omega]
      exact this

/-- One element of a list, where the list is read in turn. -/
structure TrAt (w : World) (P : Nat → Prop) (b off k : Nat) (kids : TrF) (hd : TrH) (ks : TrF) (xa : Option Addr) (xcap : Nat) : Prop where
  c0 : w.cell? ⟨b, off + k * 4, none⟩ = some (.int .i64 hd.k)
  c1 : w.cell? ⟨b, off + k * 4 + 1, none⟩ = some (.int .i64 hd.i)
  c2 : w.cell? ⟨b, off + k * 4 + 2, none⟩ = some (.int .i64 hd.a)
  c3 : w.cell? ⟨b, off + k * 4 + 3, none⟩ = some (.slice xa ks.len xcap)
  its : TrS w P xa xcap ks
  cut : kids.drop k = .cons hd ks (kids.drop (k + 1))
theorem TrS.at {w : World} {P : Nat → Prop} {a : Option Addr} {cap : Nat} {kids : TrF} (hI : TrS w P a cap kids) {k : Nat} (hk : k < kids.len) : ∃ b off hd ks xa xcap, a = some ⟨b, off, none⟩ ∧ TrAt w P b off k kids hd ks xa xcap := by
  obtain ⟨hd, ks, rs, hdr⟩ := TrF.drop_cons hk
  obtain ⟨b, off, rfl, hlo, hel⟩ := hI.at_ (by omega)
  have hel2 := TrEl.drop k kids b off hel
  rw [hdr] at hel2
  obtain ⟨x0, x1, x2, ⟨xa, xcap, x3, hx1, hx2, hx3, hx4⟩, _⟩ := hel2
  exact ⟨b, off, hd, ks, xa, xcap, rfl, x0, x1, x2, x3, ⟨hx1, hx2, hx3, hx4⟩, by rw [TrF.drop_succ k kids hd ks rs hdr]; exact hdr⟩
theorem TrAt.size {w : World} {P : Nat → Prop} {b off k xcap : Nat} {kids ks : TrF} {hd : TrH} {xa : Option Addr} (h : TrAt w P b off k kids hd ks xa xcap) : (kids.drop k).size = ks.size + (kids.drop (k + 1)).size + 1 ∧ (kids.drop k).size ≤ kids.size := by
  have h1 := TrF.drop_size k kids
  rw [h.cut] at h1 ⊢
  exact ⟨rfl, h1⟩
/-- A tree as a value. -/
abbrev treV (h : TrH) (ga : Option Addr) (n gc : Nat) : Value := .agg #[.int .i64 h.k, .int .i64 h.i, .int .i64 h.a, .slice ga n gc]
end Go.Proofs.Ythogiakfbgehnaa

namespace Go.Proofs.Ythogiakfbgehnaa
open Go.RowKit

theorem retT_bool {a b : Bool} (h : a = b) : Ending.returned (.bool a) = .returned (.bool b) := by rw [h]
def hdT (h g : TrH) (n m : Nat) : Bool := (h.k == g.k) && (h.i == g.i) && (h.a == g.a) && ((n : Int) == m)
/-- The same items, one by one. -/
def sameT : TrF → TrF → Bool
  | .nil, .nil => true
  | .cons h k r, .cons h' k' r' => hdT h h' k.len k'.len && sameT k k' && sameT r r'
  | _, _ => false

theorem TrAt.same {w w2 : World} {P P2 : Nat → Prop} {b off b2 off2 k xcap ycap : Nat} {kids ks gids gs : TrF} {hd gd : TrH} {xa ya : Option Addr} (h : TrAt w P b off k kids hd ks xa xcap) (g : TrAt w2 P2 b2 off2 k gids gd gs ya ycap) :
    sameT (kids.drop k) (gids.drop k) = (hdT hd gd ks.len gs.len && sameT ks gs && sameT (kids.drop (k + 1)) (gids.drop (k + 1))) := by
  rw [h.cut, g.cut, TrF.drop_succ _ _ _ _ _ h.cut, TrF.drop_succ _ _ _ _ _ g.cut]
  simp only [sameT]

set_option maxRecDepth 100000 in
set_option maxHeartbeats 1000000 in
theorem refSameT_any : ∀ (N : Nat) (h g : TrH) (kids gids : TrF) (a b : Option Addr) (cap dap : Nat) (w : World) (P P2 : Nat → Prop), kids.size < N → TrS w P a cap kids → TrS w P2 b dap gids →
    Calls Try.prog 43 #[treV h a kids.len cap, treV g b gids.len dap] w fun e w' => e = .returned (.bool (hdT h g kids.len gids.len && sameT kids gids)) ∧ Below w.heap.size w w' := by
  intro N
  induction N with
  | zero => intro h g kids gids a b cap dap w hN; omega
  | succ N ih =>
    intro h g kids gids a b cap dap w P P2 hN hI hJ
    obtain ⟨hk, hn, hs⟩ := h
    obtain ⟨gk, gn, gs⟩ := g
    have hlm : kids.len ≤ cap ∧ cap ≤ 9223372036854775807 := ⟨hI.le, hI.max⟩
    have hlm2 : gids.len ≤ dap ∧ dap ≤ 9223372036854775807 := ⟨hJ.le, hJ.max⟩
    obtain ⟨L, HL⟩ : ∃ L, Hid (kids.len = L) := ⟨_, Lib.hid rfl⟩
    obtain ⟨M, HM⟩ : ∃ L, Hid (gids.len = L) := ⟨_, Lib.hid rfl⟩
    rw [HL.out] at hlm ⊢
    rw [HM.out] at hlm2 ⊢
    go_enter Try.func43, Try.ntmps43
    have hb0 : Below w.heap.size w ((w.alloc (.cells #[.int .i64 hk, .int .i64 hn, .int .i64 hs, .slice a L cap] 51)).alloc (.cells #[.int .i64 gk, .int .i64 gn, .int .i64 gs, .slice b M dap] 51)) := ((Below.refl w.heap.size w).alloc (Nat.le_refl _) _).alloc (by simp) _
    have hBa := (Blk.new w 51 #[.int .i64 hk, .int .i64 hn, .int .i64 hs, .slice a L cap]).alloc (.cells #[.int .i64 gk, .int .i64 gn, .int .i64 gs, .slice b M dap] 51)
    have hBb := Blk.new (w.alloc (.cells #[.int .i64 hk, .int .i64 hn, .int .i64 hs, .slice a L cap] 51)) 51 #[.int .i64 gk, .int .i64 gn, .int .i64 gs, .slice b M dap]
    rw [World.size_alloc] at hBb
    by_cases hh : hdT ⟨hk, hn, hs⟩ ⟨gk, gn, gs⟩ L M = true
    · have hh' := hh
      simp only [hdT, Bool.and_eq_true, beq_iff_eq] at hh'
      obtain ⟨⟨⟨rfl, rfl⟩, rfl⟩, hLM⟩ := hh'
      obtain rfl : L = M := by omega
      have HH := Lib.hid hh
      clear hh hLM
      go_wp2_with (fail)
      go_loopw [5, 37] (fun _ i wr => ∃ (k : Nat), k ≤ L ∧ i = .int .i64 k ∧ sameT kids gids = sameT (kids.drop k) (gids.drop k) ∧ Below w.heap.size w wr ∧ Blk wr w.heap.size 51 [.int .i64 hk, .int .i64 hn, .int .i64 hs, .slice a L cap] ∧ Blk wr (w.heap.size + 1) 51 [.int .i64 hk, .int .i64 hn, .int .i64 hs, .slice b L dap]) (fun _ i _ => L - (RowKit.intOf i).toNat)
      case atStart => exact ⟨0, by omega, rfl, rfl, hb0, hBa, hBb⟩
      case round =>
        obtain ⟨k, hk', rfl, hr, hbr, hB1, hB2⟩ := hrel
        have HR := Lib.hid hr
        clear hr hb0 hBa hBb
        by_cases hlt : k < L
        · obtain ⟨b1, off, hd, ks, xa, xcap, rfl, hat⟩ := (hI.grown hbr).at (k := k) (by rw [HL.out]; exact hlt)
          obtain ⟨b2, off2, gd, gks, ya, ycap, rfl, gat⟩ := (hJ.grown hbr).at (k := k) (by rw [HM.out]; exact hlt)
          have HS := Lib.hid (TrAt.size hat)
          have HQ := Lib.hid (TrAt.same hat gat)
          obtain ⟨x0, x1, x2, x3, hIk, hc1⟩ := hat
          obtain ⟨z0, z1, z2, z3, hJk, hc2⟩ := gat
          clear hc1 hc2
          have y3 := hB1.cell 3
          have q3 := hB2.cell 3
          simp only [List.getElem?_cons_zero, List.getElem?_cons_succ] at y3 q3
          have hlt1 := hB1.lt
          have hlt2 := hB2.lt
          have hdr : Below wr.heap.size wr wr.drew := grownBy_below (grownBy_drew wr none) (fun i e => by cases e)
          have hmx := hIk.le
          have hmx2 := hIk.max
          have hmy := hJk.le
          have hmy2 := hJk.max
          have hIH := ih hd gd ks gks xa ya xcap ycap wr.drew P P2 (by have := HS.out; omega) (hIk.grown hdr) (hJk.grown hdr)
          obtain ⟨R, HB⟩ : ∃ R, Hid ((hdT hd gd ks.len gks.len && sameT ks gks) = R) := ⟨_, Lib.hid rfl⟩
          rw [HB.out] at hIH HQ
          have hbd : Below w.heap.size w wr.drew := hbr.trans (hdr.mono hbr.size)
          have hBd1 := hB1.below hdr hlt1
          have hBd2 := hB2.below hdr hlt2
          clear hIk hJk hB1 hB2
          go_wp2_with (fail)
          go_region_with ((go_at_call 43; (with_reducible refine hIH.mono ?_); rintro e w4 ⟨rfl, hb4⟩))
          all_goals
            have hb5 : Below w.heap.size w w4 := hbd.trans (hb4.mono hbd.size)
            have hB5 := hBd1.below hb4 (by exact hlt1)
            have hB6 := hBd2.below hb4 (by exact hlt2)
            clear hb4 hbd hIH hdr hBd1 hBd2 x0 x1 x2 x3 z0 z1 z2 z3 y3 q3 hbr
            cases R
            · go_wp2_with (fail)
              exact bodyPost_ret (v := .bool false) (by simp [results, Try.results43, go_sem]; try rfl) rfl ⟨retT_bool (by rw [HR.out, HQ.out]; simp), hb5⟩
            · go_wp2_with (fail)
              go_roundw
              case rel => exact ⟨k + 1, by omega, by go_num, by rw [HR.out, HQ.out, Bool.true_and], hb5, hB5, hB6⟩
              case measure => simp [RowKit.intOf]; omega
        · obtain rfl : k = L := by omega
          have HK : Hid (sameT kids gids = true) := Lib.hid (by rw [HR.out, TrF.drop_all (by rw [HL.out]; exact Nat.le_refl _), TrF.drop_all (by rw [HM.out]; exact Nat.le_refl _)]; rfl)
          go_wp2_with (fail)
          exact bodyPost_ret (v := .bool true) (by simp [results, Try.results43, go_sem]; try rfl) rfl ⟨retT_bool (by rw [HH.out, HK.out]; rfl), hbr⟩
    · have HH : Hid ((hdT ⟨hk, hn, hs⟩ ⟨gk, gn, gs⟩ L M && sameT kids gids) = false) := Lib.hid (by rw [Bool.eq_false_iff.2 hh]; rfl)
      rw [HH.out]
      simp only [hdT, Bool.and_eq_true, beq_iff_eq] at hh
      go_wp2_with (fail)
      all_goals first
        | exact bodyPost_ret (v := .bool false) (by simp [results, Try.results43, go_sem]; try rfl) rfl ⟨rfl, ((Below.refl w.heap.size w).alloc (Nat.le_refl _) _).alloc (by simp) _⟩
        | (exfalso; simp_all)
end Go.Proofs.Ythogiakfbgehnaa

namespace Go.Proofs.Ythogiakfbgehnaa
open Go.RowKit Go.Maps

attribute [local go_sem] Oper.semAt_some

end Go.Proofs.Ythogiakfbgehnaa

namespace Go.Proofs.Ythogiakfbgehnaa
open Go.RowKit
/-- These cells are these trees'. -/
def TrCs (w : World) (P : Nat → Prop) : TrF → List Value → Prop
  | .nil, cs => cs = []
  | .cons h kids rest, cs => ∃ ga gc r, cs = .int .i64 h.k :: .int .i64 h.i :: .int .i64 h.a :: .slice ga kids.len gc :: r ∧ TrS w P ga gc kids ∧ TrCs w P rest r
theorem TrCs.len {w : World} {P : Nat → Prop} : ∀ {f : TrF} {cs : List Value}, TrCs w P f cs → cs.length = f.len * 4
  | .nil, cs, h => by
    have h : cs = [] := h
    subst h; rfl
  | .cons x kids rest, cs, h => by
    obtain ⟨ga, gc, r, rfl, _, h2⟩ := h
    have := TrCs.len h2
    show r.length + 1 + 1 + 1 + 1 = (rest.len + 1) * 4
    omega
theorem TrCs.app {w : World} {P : Nat → Prop} : ∀ {f g : TrF} {cs ds : List Value}, TrCs w P f cs → TrCs w P g ds → TrCs w P (f.app g) (cs ++ ds)
  | .nil, g, cs, ds, h, h2 => by
    have h : cs = [] := h
    subst h
    exact h2
  | .cons x kids rest, g, cs, ds, h, h2 => by
    obtain ⟨ga, gc, r, rfl, h3, h4⟩ := h
    exact ⟨ga, gc, r ++ ds, rfl, h3, TrCs.app h4 h2⟩
theorem TrCs.one {w : World} {P : Nat → Prop} {h : TrH} {kids : TrF} {ga : Option Addr} {gc : Nat} (hk : TrS w P ga gc kids) : TrCs w P (.cons h kids .nil) [.int .i64 h.k, .int .i64 h.i, .int .i64 h.a, .slice ga kids.len gc] := ⟨ga, gc, [], rfl, hk, rfl⟩
theorem TrCs.kept {w w' : World} {P : Nat → Prop} (hc : ∀ b off v, P b → w.cell? ⟨b, off, none⟩ = some v → w'.cell? ⟨b, off, none⟩ = some v) : ∀ {f : TrF} {cs : List Value}, TrCs w P f cs → TrCs w' P f cs
  | .nil, _, h => h
  | .cons x kids rest, _, h => by
    obtain ⟨ga, gc, r, e, h3, h4⟩ := h
    exact ⟨ga, gc, r, e, h3.kept hc, TrCs.kept hc h4⟩
theorem TrCs.imp {w : World} {P Q : Nat → Prop} (hp : ∀ b, P b → b < w.heap.size → Q b) : ∀ {f : TrF} {cs : List Value}, TrCs w P f cs → TrCs w Q f cs
  | .nil, _, h => h
  | .cons x kids rest, _, h => by
    obtain ⟨ga, gc, r, e, h3, h4⟩ := h
    exact ⟨ga, gc, r, e, h3.imp hp, TrCs.imp hp h4⟩
theorem TrCs.el {w : World} {P : Nat → Prop} : ∀ {f : TrF} {cs : List Value} {b off : Nat}, TrCs w P f cs → (∀ j v, cs[j]? = some v → w.cell? ⟨b, off + j, none⟩ = some v) → TrEl w P f b off
  | .nil, _, _, _, _, _ => trivial
  | .cons x kids rest, cs, b, off, h, hr => by
    obtain ⟨ga, gc, r, rfl, h3, h4⟩ := h
    refine ⟨hr 0 _ rfl, hr 1 _ rfl, hr 2 _ rfl, ⟨ga, gc, hr 3 _ rfl, h3.le, h3.max, h3.nil_, h3.at_⟩, TrCs.el h4 (fun j v hj => ?_)⟩
    have := hr (j + 4) v (by simpa using hj)
    rwa [show off + (j + 4) = off + 4 + j by omega] at this
theorem row_trs {W : World} {base c : Nat} {e : TypeId} {a : Option Addr} {f : TrF} {cs : List Value} {P : Nat → Prop} (h : W.ownsRow base e 4 (.slice a f.len c) f.len cs) (hc : TrCs W P f cs) (hp : ∀ g o, a = some ⟨g, o, none⟩ → base ≤ g → P g) : TrS W P a c f := by
  rcases h.2 with ⟨e1, e2⟩ | ⟨g, cap', cur, e1, hb, hg, hle, hm, hs, ht⟩
  · simp only [Value.slice.injEq] at e1
    obtain ⟨rfl, e3, rfl⟩ := e1
    exact ⟨by omega, by omega, fun _ => rfl, fun hn => by omega⟩
  · simp only [Value.slice.injEq] at e1
    obtain ⟨rfl, -, rfl⟩ := e1
    have hm2 : c ≤ 9223372036854775807 := by unfold maxLen at hm; omega
    refine ⟨hle, hm2, fun e => (by cases e), fun hn => ⟨g, 0, rfl, hp g 0 rfl hb, hc.el (fun j v hj => ?_)⟩⟩
    have hlt := (List.getElem?_eq_some_iff.1 hj).1
    rw [Nat.zero_add, h.cellAt j (by rw [← hc.len]; exact hlt)]
    exact hj
end Go.Proofs.Ythogiakfbgehnaa

namespace Go.Proofs.Ythogiakfbgehnaa
open Go.RowKit
theorem info_tree : (Try.prog.info? 51).map (fun i => (i.zero, i.size, i.bytes)) = some (some (.agg #[.int .i64 0, .int .i64 0, .int .i64 0, .slice none 0 0]), 4, 48) := by kernel_rfl
end Go.Proofs.Ythogiakfbgehnaa

namespace Go.Proofs.Ythogiakfbgehnaa
open Go.RowKit Go.Maps

attribute [local go_sem] Oper.semAt_some

end Go.Proofs.Ythogiakfbgehnaa

namespace Go.Proofs.Ythogiakfbgehnaa
open Go.RowKit Go.Maps

attribute [local go_sem] Oper.semAt_some

end Go.Proofs.Ythogiakfbgehnaa

namespace Go.Proofs.Ythogiakfbgehnaa
open Go.RowKit Go.Maps

attribute [local go_sem] Oper.semAt_some

end Go.Proofs.Ythogiakfbgehnaa

namespace Go.Proofs.Ythogiakfbgehnaa
open Go.RowKit Go.Maps

attribute [local go_sem] Oper.semAt_some

end Go.Proofs.Ythogiakfbgehnaa

namespace Go.Proofs.Ythogiakfbgehnaa
open Go.RowKit Go.Maps

attribute [local go_sem] Oper.semAt_some

theorem blk_put4 {W : World} {b : Nat} {t : TypeId} {z0 z1 z2 z3 : Value} (h : Blk W b t [z0, z1, z2, z3]) (v0 v1 v2 v3 : Value) : Blk ((((W.setCell ⟨b, 0, none⟩ v0).setCell ⟨b, 1, none⟩ v1).setCell ⟨b, 2, none⟩ v2).setCell ⟨b, 3, none⟩ v3) b t [v0, v1, v2, v3] := (((h.set 0 v0).set 1 v1).set 2 v2).set 3 v3
theorem blk_oth4 {W : World} {b b' : Nat} {t : TypeId} {cs : List Value} (h : Blk W b t cs) (hne : b ≠ b') (v0 v1 v2 v3 : Value) : Blk ((((W.setCell ⟨b', 0, none⟩ v0).setCell ⟨b', 1, none⟩ v1).setCell ⟨b', 2, none⟩ v2).setCell ⟨b', 3, none⟩ v3) b t cs := (((h.setOther hne v0).setOther hne v1).setOther hne v2).setOther hne v3
theorem grown_put4 {w W : World} {b r : Nat} (h : w.grownBy W (some r)) (hb : w.heap.size ≤ b) (v0 v1 v2 v3 : Value) : w.grownBy ((((W.setCell ⟨b, 0, none⟩ v0).setCell ⟨b, 1, none⟩ v1).setCell ⟨b, 2, none⟩ v2).setCell ⟨b, 3, none⟩ v3) (some r) :=
  grownBy_trans (grownBy_trans (grownBy_trans (grownBy_trans h (grownBy_set _ b 0 v0) (fun i e => by cases e; exact .inr hb)) (grownBy_set _ b 1 v1) (fun i e => by cases e; exact .inr hb)) (grownBy_set _ b 2 v2) (fun i e => by cases e; exact .inr hb)) (grownBy_set _ b 3 v3) (fun i e => by cases e; exact .inr hb)
end Go.Proofs.Ythogiakfbgehnaa

namespace Go.Proofs.Ythogiakfbgehnaa
open Go.RowKit Go.Maps

attribute [local go_sem] Oper.semAt_some

/-- An append of a tree, and where the row lies then. -/
theorem tr_push2 {W : World} {base c : Nat} {a : Option Addr} {n : Nat} {cs : List Value} (h : W.ownsRow base 51 4 (.slice a n c) n cs) (x : TrH) (ga : Option Addr) (m gc : Nat) (ty : TypeId) (hn : n + 1 ≤ 1000000000) (hb : base ≤ W.heap.size) :
    ∃ a' c' w', (Builtin.append_ #[49, 49] ty #[.slice a n c, .slice (some ⟨W.heap.size, 0, none⟩) 1 1]).run Try.prog (W.alloc (.cells #[.int .i64 x.k, .int .i64 x.i, .int .i64 x.a, .slice ga m gc] 51)) = .ok (.slice a' (n + 1) c') w' ∧
      w'.ownsRow base 51 4 (.slice a' (n + 1) c') (n + 1) (cs ++ [.int .i64 x.k, .int .i64 x.i, .int .i64 x.a, .slice ga m gc]) ∧ W.grownBy w' (Value.slice a n c).ownBlock ∧ (∀ g, (Value.slice a' (n + 1) c').ownBlock = some g → (Value.slice a n c).ownBlock = some g ∨ W.heap.size ≤ g) := by
  obtain ⟨i0, hi, hz0, hz1, hz2⟩ := info_parts info_tree
  have hnew : ∀ j u, [Value.int .i64 x.k, .int .i64 x.i, .int .i64 x.a, .slice ga m gc][j]? = some u → (W.alloc (.cells #[.int .i64 x.k, .int .i64 x.i, .int .i64 x.a, .slice ga m gc] 51)).cell? ((⟨W.heap.size, 0, none⟩ : Addr).add j) = some u := by
    intro j u hj
    have := World.alloc_heap_new W (.cells #[.int .i64 x.k, .int .i64 x.i, .int .i64 x.a, .slice ga m gc] 51)
    have e : ((⟨W.heap.size, 0, none⟩ : Addr).add j) = ⟨W.heap.size, j, none⟩ := by simp [Addr.add]; exact Eq.symm
    rw [e]
    unfold World.cell?
    rw [show ((⟨W.heap.size, j, none⟩ : Addr).block) = W.heap.size from rfl, this]
    simp only [Option.bind_some]
    simpa using hj
  obtain ⟨v', w', hrun, ho, hg, _, hw⟩ := run_append_own_at (P := Try.prog) (w := W.alloc (.cells #[.int .i64 x.k, .int .i64 x.i, .int .i64 x.a, .slice ga m gc] 51)) base 49 ty 51 i0 (.agg #[.int .i64 0, .int .i64 0, .int .i64 0, .slice none 0 0]) 4 48 Try.underlying49 hi hz0 hz1 hz2 rfl (by decide) _ _ _ (h.alloc _) ⟨W.heap.size, 0, none⟩ 1 1 [.int .i64 x.k, .int .i64 x.i, .int .i64 x.a, .slice ga m gc] rfl hnew (fun u hu => by
    simp only [List.mem_cons, List.not_mem_nil, or_false] at hu
    rcases hu with rfl | rfl | rfl | rfl <;> rfl) (by unfold maxLen; omega) (by omega) (by simp; omega)
  obtain ⟨a', cap', rfl⟩ := slice_of_own ho
  refine ⟨a', cap', w', hrun, ho, grownBy_trans (World.grownBy_alloc W _ _) hg (fun i e => .inl e), fun g e => ?_⟩
  rcases hw with hw | hw
  · exact .inl (by rw [← hw]; exact e)
  · rw [hw] at e
    have := Option.some.inj e
    exact .inr (by rw [← this]; simp)
theorem trs_grown {w w' : World} {P : Nat → Prop} {cap : Nat} {a : Option Addr} {f : TrF} {row : Option Nat} (h : TrS w P a cap f) (hg : w.grownBy w' row) (hr : ∀ g, P g → row ≠ some g) : TrS w' P a cap f :=
  h.kept (fun b off v hb hv => (World.cell?_of_block (a := ⟨b, off, none⟩) (hg.block b (World.block_lt_of_cell? w _ hv) (fun e => hr b hb e.symm))).trans hv)
theorem trcs_grown {w w' : World} {P : Nat → Prop} {f : TrF} {cs : List Value} {row : Option Nat} (h : TrCs w P f cs) (hg : w.grownBy w' row) (hr : ∀ g, P g → row ≠ some g) : TrCs w' P f cs :=
  h.kept (fun b off v hb hv => (World.cell?_of_block (a := ⟨b, off, none⟩) (hg.block b (World.block_lt_of_cell? w _ hv) (fun e => hr b hb e.symm))).trans hv)
end Go.Proofs.Ythogiakfbgehnaa

namespace Go.Proofs.Ythogiakfbgehnaa
open Go.RowKit Go.Maps

attribute [local go_sem] Oper.semAt_some

end Go.Proofs.Ythogiakfbgehnaa

namespace Go.Proofs.Ythogiakfbgehnaa
open Go.RowKit Go.Maps

attribute [local go_sem] Oper.semAt_some

/-- The world has grown, but for these blocks. -/
structure KeB (bad : Nat → Prop) (w w' : World) : Prop where
  os : w'.os = w.os
  tape : w'.tape = w.tape
  output : w'.output = w.output
  size : w.heap.size ≤ w'.heap.size
  block : ∀ k, k < w.heap.size → ¬ bad k → w'.heap[k]? = w.heap[k]?
theorem KeB.of (bad : Nat → Prop) {w w' : World} (h : Below w.heap.size w w') : KeB bad w w' := ⟨h.os, h.tape, h.output, h.size, fun k hk _ => h.block k hk⟩
theorem KeB.trans {bad : Nat → Prop} {a b c : World} (h : KeB bad a b) (k : KeB bad b c) : KeB bad a c := ⟨k.os.trans h.os, k.tape.trans h.tape, k.output.trans h.output, Nat.le_trans h.size k.size, fun i hi hn => (k.block i (Nat.lt_of_lt_of_le hi h.size) hn).trans (h.block i hi hn)⟩
theorem KeB.set {bad : Nat → Prop} (w : World) (p : Addr) (v : Value) (h : bad p.block) : KeB bad w (w.setCell p v) := ⟨rfl, rfl, rfl, by show _ ≤ (w.heap.modify _ _).size; rw [Array.size_modify]; exact Nat.le_refl _, fun k _ hn => by
  show (w.heap.modify _ _)[k]? = _
  rw [Array.getElem?_modify]
  rw [if_neg (fun e => hn (by rw [← e]; exact h))]⟩
theorem KeB.alloc (bad : Nat → Prop) (w : World) (o : Obj) : KeB bad w (w.alloc o) := KeB.of bad ((Below.refl _ w).alloc (Nat.le_refl _) o)
theorem KeB.mono {bad bad' : Nat → Prop} {w w' : World} (h : KeB bad w w') (hm : ∀ k, bad k → bad' k) : KeB bad' w w' := ⟨h.os, h.tape, h.output, h.size, fun k hk hn => h.block k hk (fun e => hn (hm k e))⟩
theorem KeB.below {bad : Nat → Prop} {B : Nat} {w w' : World} (h : KeB bad w w') (hB : B ≤ w.heap.size) (hb : ∀ k, bad k → B ≤ k) : Below B w w' := ⟨h.os, h.tape, h.output, h.size, fun k hk => h.block k (by omega) (fun e => by have := hb k e; omega)⟩
end Go.Proofs.Ythogiakfbgehnaa

namespace Go.Proofs.Ythogiakfbgehnaa
open Go.RowKit Go.Maps

attribute [local go_sem] Oper.semAt_some

end Go.Proofs.Ythogiakfbgehnaa

namespace Go.Proofs.Ythogiakfbgehnaa
open Go.RowKit Go.Maps

attribute [local go_sem] Oper.semAt_some

end Go.Proofs.Ythogiakfbgehnaa

namespace Go.Proofs.Ythogiakfbgehnaa
open Go.RowKit Go.Maps

attribute [local go_sem] Oper.semAt_some

theorem keb_cell {bad : Nat → Prop} {W W' : World} (hk : KeB bad W W') {b off : Nat} {v : Value} (hn : ¬ bad b) (h : W.cell? ⟨b, off, none⟩ = some v) : W'.cell? ⟨b, off, none⟩ = some v :=
  (World.cell?_of_block (a := ⟨b, off, none⟩) (hk.block b (World.block_lt_of_cell? W _ h) hn)).trans h
theorem trs_keb {w w' : World} {P bad : Nat → Prop} {cap : Nat} {a : Option Addr} {f : TrF} (h : TrS w P a cap f) (hk : KeB bad w w') (hn : ∀ b, P b → ¬ bad b) : TrS w' P a cap f := h.kept (fun _ _ _ hb hv => keb_cell hk (hn _ hb) hv)
end Go.Proofs.Ythogiakfbgehnaa

namespace Go.Proofs.Ythogiakfbgehnaa
open Go.RowKit Go.Maps

attribute [local go_sem] Oper.semAt_some

end Go.Proofs.Ythogiakfbgehnaa

namespace Go.Proofs.Ythogiakfbgehnaa
open Go.RowKit Go.Maps

attribute [local go_sem] Oper.semAt_some

end Go.Proofs.Ythogiakfbgehnaa

namespace Go.Proofs.Ythogiakfbgehnaa
open Go.RowKit Go.Maps

attribute [local go_sem] Oper.semAt_some

theorem KeB.step {bad bad' : Nat → Prop} {w U W : World} (h : KeB bad w U) (k : KeB bad' U W) (hb : ∀ b, bad' b → bad b ∨ w.heap.size ≤ b) : KeB bad w W :=
  ⟨k.os.trans h.os, k.tape.trans h.tape, k.output.trans h.output, Nat.le_trans h.size k.size, fun i hi hn => (k.block i (Nat.lt_of_lt_of_le hi h.size) (fun e => by rcases hb i e with e | e; exact hn e; omega)).trans (h.block i hi hn)⟩
theorem keb_set4 {bad : Nat → Prop} (W : World) (g L : Nat) (h : bad g) (v0 v1 v2 v3 : Value) : KeB bad W ((((W.setCell ⟨g, L, none⟩ v0).setCell ⟨g, L + 1, none⟩ v1).setCell ⟨g, L + 2, none⟩ v2).setCell ⟨g, L + 3, none⟩ v3) :=
  (((KeB.set W ⟨g, L, none⟩ v0 h).trans (KeB.set _ ⟨g, L + 1, none⟩ v1 h)).trans (KeB.set _ ⟨g, L + 2, none⟩ v2 h)).trans (KeB.set _ ⟨g, L + 3, none⟩ v3 h)
end Go.Proofs.Ythogiakfbgehnaa

namespace Go.Proofs.Ythogiakfbgehnaa
open Go.RowKit Go.Maps

attribute [local go_sem] Oper.semAt_some

end Go.Proofs.Ythogiakfbgehnaa

namespace Go.Proofs.Ythogiakfbgehnaa
open Go.RowKit Go.Maps

attribute [local go_sem] Oper.semAt_some

/-- What is answered: a tree, or where, and why there is none. -/
def TreQ (w : World) (r : PsR Tre) (e : Ending) (W : World) : Prop :=
  Below w.heap.size w W ∧ match r with
  | .bad b x => e = .returned (.tuple #[treV ⟨0, 0, 0⟩ none 0 0, .int .i64 (b : Int), .int .i64 x])
  | .ok t _ _ => ∃ ga gc, e = .returned (.tuple #[treV ⟨t.k, t.i, t.a⟩ ga t.l.len gc, .int .i64 0, .int .i64 0]) ∧ TrS W (fun b => w.heap.size ≤ b) ga gc t.l
end Go.Proofs.Ythogiakfbgehnaa

namespace Go.Proofs.Ythogiakfbgehnaa
open Go.RowKit Go.Maps

attribute [local go_sem] Oper.semAt_some

end Go.Proofs.Ythogiakfbgehnaa

namespace Go.Proofs.Ythogiakfbgehnaa
open Go.RowKit Go.Maps

attribute [local go_sem] Oper.semAt_some

/-- A tree in a box, with what was told beside it. -/
def BoxR (W : World) (r : PsR Tre) (nb : Nat) (p x : Int) : Prop := match r with
  | .bad b y => p = (b : Int) ∧ x = y ∧ Blk W nb 51 [.int .i64 0, .int .i64 0, .int .i64 0, .slice none 0 0]
  | .ok t _ _ => p = 0 ∧ x = 0 ∧ ∃ ga gc, Blk W nb 51 [.int .i64 t.k, .int .i64 t.i, .int .i64 t.a, .slice ga t.l.len gc] ∧ TrS W (fun _ => True) ga gc t.l
theorem BoxR.grown {W W' : World} {r : PsR Tre} {nb : Nat} {p x : Int} (h : BoxR W r nb p x) (hb : Below W.heap.size W W') : BoxR W' r nb p x := by
  cases r with
  | bad b y => exact ⟨h.1, h.2.1, h.2.2.below hb h.2.2.lt⟩
  | ok t b q =>
    obtain ⟨h1, h2, ga, gc, h3, h4⟩ := h
    exact ⟨h1, h2, ga, gc, h3.below hb h3.lt, h4.grown hb⟩
/-- What a call tells, as a value; and put into a box. -/
theorem tre_box {w W : World} {r : PsR Tre} {e : Ending} (h : TreQ w r e W) : ∃ k i a ga n gc p x, e = .returned (.tuple #[.agg #[.int .i64 k, .int .i64 i, .int .i64 a, .slice ga n gc], .int .i64 p, .int .i64 x]) ∧ (∀ V nb, Below W.heap.size W V → (nb < w.heap.size ∨ W.heap.size ≤ nb) → Blk V nb 51 [.int .i64 0, .int .i64 0, .int .i64 0, .slice none 0 0] → BoxR ((((V.setCell ⟨nb, 0, none⟩ (.int .i64 k)).setCell ⟨nb, 1, none⟩ (.int .i64 i)).setCell ⟨nb, 2, none⟩ (.int .i64 a)).setCell ⟨nb, 3, none⟩ (.slice ga n gc)) r nb p x) ∧ ∀ V nb, Below W.heap.size W V → Blk V nb 51 [.int .i64 k, .int .i64 i, .int .i64 a, .slice ga n gc] → BoxR V r nb p x := by
  obtain ⟨hb, h⟩ := h
  cases r with
  | bad b y => exact ⟨_, _, _, _, _, _, _, _, h, fun V nb _ _ hB => ⟨rfl, rfl, blk_put4 hB _ _ _ _⟩, fun V nb _ hB => ⟨rfl, rfl, hB⟩⟩
  | ok t b q =>
    obtain ⟨ga, gc, rfl, ht⟩ := h
    refine ⟨_, _, _, _, _, _, _, _, rfl, fun V nb hV hn hB => ⟨rfl, rfl, ga, gc, blk_put4 hB _ _ _ _, ?_⟩, fun V nb hV hB => ⟨rfl, rfl, ga, gc, hB, (ht.imp (fun _ _ _ => trivial)).grown hV⟩⟩
    have h1 := (ht.imp (Q := fun b => w.heap.size ≤ b ∧ b < W.heap.size) (fun b h1 h2 => ⟨h1, h2⟩)).grown hV
    have hk := keb_set4 (bad := fun b => b = nb) V nb 0 rfl (.int .i64 t.k) (.int .i64 t.i) (.int .i64 t.a) (.slice ga t.l.len gc)
    simp only [Nat.zero_add] at hk
    exact (trs_keb h1 hk (fun b h1 e => by obtain ⟨h2, h3⟩ := h1; have e : b = nb := e; omega)).imp (fun _ _ _ => trivial)
/-- append(a, b...), and what it writes into. -/
theorem OwnKZ.app2 {w : World} {base cap : Nat} {a : Option Addr} {l : List Int} (h : OwnKZ w base a cap l) (b' : Addr) (bc : Nat) (m : List Int) (hm : Ints w (some b') bc m) (ty : TypeId) (hn : l.length + m.length ≤ 1099511627780) (hb : base ≤ w.heap.size) :
    ∃ a' c' w', (Builtin.append_ #[35, 35] ty #[.slice a l.length cap, .slice (some b') m.length bc]).run Try.prog w = .ok (.slice a' (l.length + m.length) c') w' ∧
      OwnKZ w' base a' c' (l ++ m) ∧ w.grownBy w' (Value.slice a l.length cap).ownBlock ∧ ((Value.slice a' (l.length + m.length) c').ownBlock = (Value.slice a l.length cap).ownBlock ∨ (Value.slice a' (l.length + m.length) c').ownBlock = some w.heap.size) := by
  obtain ⟨i0, hi, hz0, hz1, hz2⟩ := info_parts info_keyZ
  have hnew : ∀ j u, (m.map (Value.int .i64))[j]? = some u → w.cell? (b'.add j) = some u := by
    intro j u hj
    have hjl : j < (m.map (Value.int .i64)).length := (List.getElem?_eq_some_iff.1 hj).1
    obtain ⟨b2, off, e⟩ := hm.at_ j hjl
    have e := Option.some.inj e
    subst e
    have := hm.cell b2 off rfl j hjl
    rw [show (⟨b2, off, none⟩ : Addr).add j = ⟨b2, off + j, none⟩ from by unfold Addr.add; split <;> simp_all]
    exact this.trans ((List.getElem?_eq_getElem hjl).symm.trans hj)
  obtain ⟨v', w', hrun, ho, hg, _, hw⟩ := run_append_own_at (P := Try.prog) (w := w) base 35 ty 3 i0 _ 1 8 Try.underlying35 hi hz0 hz1 hz2 rfl (by decide) _ l.length _ h b' m.length bc (m.map (Value.int .i64)) (by simp) hnew (fun u hu => by
    obtain ⟨x, _, rfl⟩ := List.mem_map.1 hu
    rfl) (by unfold maxLen; omega) (by omega) hb
  obtain ⟨a', cap', rfl⟩ := slice_of_own ho
  refine ⟨a', cap', w', hrun, ?_, hg, hw⟩
  unfold OwnKZ
  rw [List.map_append, List.length_append]
  exact ho
theorem OwnKZ.belowZ {w w' : World} {base cap : Nat} {a : Option Addr} {l : List Int} (h : OwnKZ w base a cap l) (hb : Below w.heap.size w w') : OwnKZ w' base a cap l := World.ownsRow.kept h (below_grownBy hb none) (by cases (Value.slice a l.length cap).ownBlock <;> simp)
theorem hdT_self (h : TrH) (n : Nat) : hdT h h n n = true := by simp [hdT]
theorem sameT_self : ∀ (f : TrF), sameT f f = true
  | .nil => rfl
  | .cons h k r => by
    unfold sameT
    rw [hdT_self, sameT_self k, sameT_self r]
    rfl
theorem Below.put4 {B : Nat} {w V : World} (h : Below B w V) {nb : Nat} (hn : B ≤ nb) (v0 v1 v2 v3 : Value) : Below B w ((((V.setCell ⟨nb, 0, none⟩ v0).setCell ⟨nb, 1, none⟩ v1).setCell ⟨nb, 2, none⟩ v2).setCell ⟨nb, 3, none⟩ v3) :=
  (((h.setCell (p := ⟨nb, 0, none⟩) hn v0).setCell (p := ⟨nb, 1, none⟩) hn v1).setCell (p := ⟨nb, 2, none⟩) hn v2).setCell (p := ⟨nb, 3, none⟩) hn v3
end Go.Proofs.Ythogiakfbgehnaa

namespace Go.Proofs.Ythogiakfbgehnaa
open Go.RowKit Go.Maps

attribute [local go_sem] Oper.semAt_some

/-- An alternative of the rule of a number, if there is one: a rule has a name, too. -/
def altD (d : CfD) (k i : Int) : Option IltD := match d.alts[ruL k]? with
  | none => none
  | some ru => if ruL k < d.names.length ∧ 0 ≤ i then ru.ds[i.toNat]? else none
def altR : Option IltD → Value
  | none => .tuple #[.slice none 0 0, .bool false]
  | some x => .tuple #[x.v, .bool true]
set_option maxRecDepth 100000 in
set_option maxHeartbeats 16000000 in
theorem isTok_any (h : TrH) (a : Option Addr) (n c : Nat) (w : World) :
    Calls Try.prog 97 #[treV h a n c] w fun e W => e = .returned (.bool (decide (0 ≤ h.k))) ∧ Below w.heap.size w W := by
  obtain ⟨hk, hn, hs⟩ := h
  have hB := Blk.new w 51 #[.int .i64 hk, .int .i64 hn, .int .i64 hs, .slice a n c]
  have hb : Below w.heap.size w (w.alloc (.cells #[.int .i64 hk, .int .i64 hn, .int .i64 hs, .slice a n c] 51)) := (Below.refl _ _).alloc (Nat.le_refl _) _
  have x0 := hB.cell 0
  have xl := hB.lt
  simp only [List.getElem?_cons_zero] at x0
  have HF := Lib.hid hb
  clear hB hb
  by_cases h0 : 0 ≤ hk
  · have e0 : decide (0 ≤ hk) = true := decide_eq_true h0
    show Calls Try.prog 97 _ w (fun e W => e = .returned (.bool (decide (0 ≤ hk))) ∧ _)
    rw [e0]
    go_enter Try.func97, Try.ntmps97
    go_wp2_with (fail)
    first | exact ⟨rfl, HF.out⟩ | exact bodyPost_ret (v := .bool true) (by simp [results, Try.results97, go_sem]; try first | rfl | assumption | omega) rfl ⟨rfl, HF.out⟩
  · have e0 : decide (0 ≤ hk) = false := decide_eq_false h0
    show Calls Try.prog 97 _ w (fun e W => e = .returned (.bool (decide (0 ≤ hk))) ∧ _)
    rw [e0]
    go_enter Try.func97, Try.ntmps97
    go_wp2_with (fail)
    first | exact ⟨rfl, HF.out⟩ | exact bodyPost_ret (v := .bool false) (by simp [results, Try.results97, go_sem]; try first | rfl | assumption | omega) rfl ⟨rfl, HF.out⟩
set_option maxRecDepth 100000 in
set_option maxHeartbeats 16000000 in
theorem truleOf_any (k : Int) (w : World) (h : -9223372036854775808 ≤ k ∧ k ≤ 9223372036854775806) :
    Calls Try.prog 128 #[.int .i64 k] w fun e w' => e = .returned (.int .i64 (-1 - k)) ∧ w' = w := by
  have hw : IntKind.i64.wrap (-1 - k) = -1 - k := IntWalk.i64_in _ (by omega)
  go_enter Try.func128, Try.ntmps128
  go_wp2_with (fail)
  first | exact ⟨rfl, rfl⟩ | exact bodyPost_ret (v := .int .i64 (-1 - k)) (by simp [results, Try.results128, go_sem]; try first | rfl | assumption | omega) rfl ⟨rfl, rfl⟩
set_option maxRecDepth 100000 in
set_option maxHeartbeats 16000000 in
theorem kids_any (h : TrH) (a : Option Addr) (n c : Nat) (w : World) :
    Calls Try.prog 105 #[treV h a n c] w fun e W => e = .returned (.slice a n c) ∧ W = w.alloc (.cells #[.int .i64 h.k, .int .i64 h.i, .int .i64 h.a, .slice a n c] 51) := by
  obtain ⟨hk, hn, hs⟩ := h
  go_enter Try.func105, Try.ntmps105
  go_wp2
  go_ret
  exact ⟨rfl, rfl⟩
set_option maxRecDepth 100000 in
set_option maxHeartbeats 16000000 in
theorem altOf_any (d : CfD) (k i : Int) (w : World) (hd : CfAt w d) (hk : -9223372036854775808 ≤ k ∧ k < 0) :
    Calls Try.prog 132 #[d.v, .int .i64 k, .int .i64 i] w fun e W => e = .returned (altR (altD d k i)) ∧ Below w.heap.size w W := by
  obtain ⟨xt, xta, xtc, xn, xna, xnc, xa, xaa, xac⟩ := d
  obtain ⟨r, hr⟩ : ∃ r : Nat, (r : Int) = -1 - k := ⟨(-1 - k).toNat, by omega⟩
  have hrl : ruL k = r := by unfold ruL; omega
  obtain ⟨R, HR⟩ : ∃ q, Hid (altR (altD ⟨xt, xta, xtc, xn, xna, xnc, xa, xaa, xac⟩ k i) = q) := ⟨_, Lib.hid rfl⟩
  have HR2 := HR.out
  unfold altD at HR2
  rw [hrl] at HR2
  dsimp only at HR2
  rw [HR.out]
  have hrE : -1 - k = (r : Int) := hr.symm
  have hwr : IntKind.i64.wrap (r : Int) = (r : Int) := IntWalk.i64_in _ (by omega)
  dsimp only [CfD.v] at *
  have hb : Below w.heap.size w (w.alloc (.cells #[.slice xta xt.length xtc, .slice xna xn.length xnc, .slice xaa xa.length xac] 25)) := (Below.refl _ w).alloc (Nat.le_refl _) _
  have hA := Blk.new w 25 #[.slice xta xt.length xtc, .slice xna xn.length xnc, .slice xaa xa.length xac]
  have hdA := hd.alts
  have hdR := hd.rules
  dsimp only at hdA hdR
  have hxm : xa.length ≤ xac ∧ xac ≤ 9223372036854775807 := ⟨by have := hdA.le; rwa [List.length_map] at this, hdA.max⟩
  obtain ⟨T, HT⟩ : ∃ q, Hid (xt.length = q) := ⟨_, Lib.hid rfl⟩
  obtain ⟨N, HN⟩ : ∃ q, Hid (xn.length = q) := ⟨_, Lib.hid rfl⟩
  obtain ⟨L, HL⟩ : ∃ q, Hid (xa.length = q) := ⟨_, Lib.hid rfl⟩
  rw [HT.out, HN.out, HL.out] at hA hb ⊢
  rw [HL.out] at hxm
  rw [HN.out] at HR2
  have x0 := hA.cell 0
  have x1 := hA.cell 1
  have x2 := hA.cell 2
  have xl := hA.lt
  simp only [List.getElem?_cons_zero, List.getElem?_cons_succ] at x0 x1 x2
  have HF := Lib.hid hb
  have Hb := Lib.hid hb
  clear hA hb hd hr hrl
  by_cases h1 : (N : Int) ≤ (r : Int)
  · have HR : Hid (R = .tuple #[.slice none 0 0, .bool false]) := Lib.hid (by
      rw [← HR2]
      cases xa[r]? with
      | none => rfl
      | some ru => dsimp only; rw [if_neg (by omega)]; rfl)
    clear HR2 hdA hdR
    go_enter Try.func132, Try.ntmps132
    go_wp2_with (fail)
    refine (truleOf_any k _ (by omega)).mono ?_
    rintro e9 w9 ⟨rfl, rfl⟩
    rw [hrE]
    go_wp2_with (fail)
    first | exact ⟨by rw [HR.out], HF.out⟩ | exact bodyPost_ret (v := .tuple #[.slice none 0 0, .bool false]) (by simp [results, Try.results132, go_sem]; try first | rfl | assumption | omega) rfl ⟨by rw [HR.out], HF.out⟩
  by_cases h2 : (L : Int) ≤ (r : Int)
  · have HR : Hid (R = .tuple #[.slice none 0 0, .bool false]) := Lib.hid (by
      rw [← HR2, List.getElem?_eq_none (by rw [HL.out]; omega)]
      rfl)
    clear HR2 hdA hdR
    go_enter Try.func132, Try.ntmps132
    go_wp2_with (fail)
    refine (truleOf_any k _ (by omega)).mono ?_
    rintro e9 w9 ⟨rfl, rfl⟩
    rw [hrE]
    go_wp2_with (fail)
    first | exact ⟨by rw [HR.out], HF.out⟩ | exact bodyPost_ret (v := .tuple #[.slice none 0 0, .bool false]) (by simp [results, Try.results132, go_sem]; try first | rfl | assumption | omega) rfl ⟨by rw [HR.out], HF.out⟩
  have hra : r < xa.length := by rw [HL.out]; omega
  rw [List.getElem?_eq_getElem hra] at HR2
  dsimp only at HR2
  by_cases h3 : i < 0
  · have HR : Hid (R = .tuple #[.slice none 0 0, .bool false]) := Lib.hid (by
      rw [← HR2, if_neg (by omega)]
      rfl)
    clear HR2 hdA hdR
    go_enter Try.func132, Try.ntmps132
    go_wp2_with (fail)
    refine (truleOf_any k _ (by omega)).mono ?_
    rintro e9 w9 ⟨rfl, rfl⟩
    rw [hrE]
    go_wp2_with (fail)
    first | exact ⟨by rw [HR.out], HF.out⟩ | exact bodyPost_ret (v := .tuple #[.slice none 0 0, .bool false]) (by simp [results, Try.results132, go_sem]; try first | rfl | assumption | omega) rfl ⟨by rw [HR.out], HF.out⟩
  rw [if_pos (by omega)] at HR2
  obtain ⟨m, rfl⟩ : ∃ m : Nat, i = (m : Int) := ⟨i.toNat, by omega⟩
  rw [Int.toNat_natCast] at HR2
  obtain ⟨p, po, rfl⟩ := hdA.at_ r (by rw [List.length_map]; exact hra)
  have cp := hdA.cell p po rfl r (by rw [List.length_map]; exact hra)
  rw [List.getElem_map] at cp
  have hRu := hdR xa[r] (List.getElem_mem hra)
  obtain ⟨ru, hru⟩ : ∃ q, q = xa[r] := ⟨_, rfl⟩
  rw [← hru] at cp hRu HR2
  obtain ⟨rds, ra, rc⟩ := ru
  dsimp only at HR2 hRu
  change _ = some (Value.slice ra rds.length rc) at cp
  have hrm : rds.length ≤ rc ∧ rc ≤ 9223372036854775807 := ⟨by have := hRu.row.le; rwa [List.length_map] at this, hRu.row.max⟩
  obtain ⟨RL, hRL⟩ : ∃ q, Hid (rds.length = q) := ⟨_, Lib.hid rfl⟩
  rw [hRL.out] at cp hrm
  have cpW := cell_up Hb.out cp
  have hblp := World.block_lt_of_cell? _ _ cpW
  have hrI0 : (0 : Int) ≤ (r : Int) := by omega
  have hrI1 : (r : Int) < (L : Int) := by omega
  have hmI0 : (0 : Int) ≤ (m : Int) := by omega
  by_cases h4 : (RL : Int) ≤ (m : Int)
  · have HR : Hid (R = .tuple #[.slice none 0 0, .bool false]) := Lib.hid (by
      rw [← HR2, List.getElem?_eq_none (by rw [hRL.out]; omega)]
      rfl)
    clear HR2 hdA hdR hRu
    go_enter Try.func132, Try.ntmps132
    go_wp2_with (fail)
    refine (truleOf_any k _ (by omega)).mono ?_
    rintro e9 w9 ⟨rfl, rfl⟩
    rw [hrE]
    go_wp2_with (fail)
    first | exact ⟨by rw [HR.out], HF.out⟩ | exact bodyPost_ret (v := .tuple #[.slice none 0 0, .bool false]) (by simp [results, Try.results132, go_sem]; try first | rfl | assumption | omega) rfl ⟨by rw [HR.out], HF.out⟩
  have hma : m < rds.length := by rw [hRL.out]; omega
  rw [List.getElem?_eq_getElem hma] at HR2
  have HR : Hid (R = .tuple #[rds[m].v, .bool true]) := Lib.hid HR2.symm
  obtain ⟨q, qo, rfl⟩ := hRu.row.at_ m (by rw [List.length_map]; exact hma)
  have cq := hRu.row.cell q qo rfl m (by rw [List.length_map]; exact hma)
  rw [List.getElem_map] at cq
  have cqW := cell_up Hb.out cq
  have hblq := World.block_lt_of_cell? _ _ cqW
  have hmI1 : (m : Int) < (RL : Int) := by omega
  obtain ⟨al, hal⟩ : ∃ q, Hid (rds[m] = q) := ⟨_, Lib.hid rfl⟩
  rw [hal.out] at cqW HR
  obtain ⟨wl, wa, wc⟩ := al
  change _ = some (Value.slice wa wl.length wc) at cqW
  have HR : Hid (R = .tuple #[.slice wa wl.length wc, .bool true]) := HR
  clear HR2 hdA hdR hRu cp cq hru
  go_enter Try.func132, Try.ntmps132
  go_wp2_with (fail)
  refine (truleOf_any k _ (by omega)).mono ?_
  rintro e9 w9 ⟨rfl, rfl⟩
  rw [hrE]
  go_wp2_with (fail)
  first | exact ⟨by rw [HR.out], HF.out⟩ | exact bodyPost_ret (v := .tuple #[.slice wa wl.length wc, .bool true]) (by simp [results, Try.results132, go_sem]; try first | rfl | assumption | omega) rfl ⟨by rw [HR.out], HF.out⟩
end Go.Proofs.Ythogiakfbgehnaa

namespace Go.Proofs.Ythogiakfbgehnaa
open Go.RowKit Go.Maps

attribute [local go_sem] Oper.semAt_some

/-- Refused behind so many steps, or something, how many steps and tokens are behind it, and how many nodes may still be put. -/
inductive GwR (α : Type) where
  | bad (s : Nat) (e : Int)
  | ok (x : α) (s a left : Nat)
def GwR.bind {α β : Type} (r : GwR α) (f : α → Nat → Nat → Nat → GwR β) : GwR β :=
  match r with
  | .bad s e => .bad s e
  | .ok x s a n => f x s a n
theorem gwbind_assoc {α β γ : Type} (r : GwR α) (f : α → Nat → Nat → Nat → GwR β) (g : β → Nat → Nat → Nat → GwR γ) : (r.bind f).bind g = r.bind (fun x s a n => (f x s a n).bind g) := by cases r <;> rfl
def gwSeq (f : Int → Nat → Nat → Nat → GwR Tre) : List Int → Nat → Nat → Nat → GwR TrF
  | [], s, a, n => .ok .nil s a n
  | k :: ks, s, a, n => (f k s a n).bind fun x s a n => (gwSeq f ks s a n).bind fun l s a n => .ok (x.con l) s a n
/-- Putting a symbol by steps, where so many nodes may still be put. -/
def gwPut (d : CfD) (st : List Int) : Nat → Int → Nat → Nat → Nat → GwR Tre
  | 0, _, s, _, _ => .bad s 2
  | m + 1, k, s, a, n =>
    if n = 0 then .bad s 2
    else if 0 ≤ k then .ok ⟨k, 0, (a : Int), .nil⟩ s (a + 1) (n - 1)
    else match st[s]? with
      | none => .bad s 110
      | some i => match altD d k i with
        | none => .bad s 110
        | some al => (gwSeq (gwPut d st m) al.l (s + 1) a (n - 1)).bind fun l s a n => .ok ⟨k, i, 0, l⟩ s a n
theorem gwseq_cons {f : Int → Nat → Nat → Nat → GwR Tre} {k : Int} {ks : List Int} {s a n : Nat} : gwSeq f (k :: ks) s a n = (f k s a n).bind fun x s a n => (gwSeq f ks s a n).bind fun l s a n => .ok (x.con l) s a n := rfl
/-- What an answer keeps: places go on, nodes grow fewer; tokens and nodes together grow no more. -/
structure GwK (T s a n s' a' n' : Nat) : Prop where
  s1 : s ≤ s'
  s2 : s' ≤ T
  a1 : a ≤ a'
  n1 : n' ≤ n
  an : a' + n' ≤ a + n
theorem gwseq_k {T : Nat} {f : Int → Nat → Nat → Nat → GwR Tre} (hf : ∀ k s a n x s' a' n', s ≤ T → f k s a n = .ok x s' a' n' → GwK T s a n s' a' n' ∧ n' + 1 ≤ n) : ∀ (ks : List Int) (s a n : Nat) {l s' a' n'}, s ≤ T → gwSeq f ks s a n = .ok l s' a' n' → GwK T s a n s' a' n'
  | [], s, a, n, l, s', a', n', hs, h => by
    unfold gwSeq at h
    injection h with _ h1 h2 h3
    subst h1 h2 h3
    exact ⟨Nat.le_refl _, hs, Nat.le_refl _, Nat.le_refl _, Nat.le_refl _⟩
  | k :: ks, s, a, n, l, s', a', n', hs, h => by
    rw [gwseq_cons] at h
    cases e : f k s a n with
    | bad c x => rw [e] at h; cases h
    | ok x s2 a2 n2 =>
      rw [e] at h
      obtain ⟨h1, _⟩ := hf k s a n x s2 a2 n2 hs e
      change (gwSeq f ks s2 a2 n2).bind _ = _ at h
      cases e2 : gwSeq f ks s2 a2 n2 with
      | bad c x => rw [e2] at h; cases h
      | ok l2 s3 a3 n3 =>
        rw [e2] at h
        have h2 := gwseq_k hf ks s2 a2 n2 h1.s2 e2
        change GwR.ok _ _ _ _ = _ at h
        injection h with _ h3 h4 h5
        subst h3 h4 h5
        exact ⟨Nat.le_trans h1.s1 h2.s1, h2.s2, Nat.le_trans h1.a1 h2.a1, Nat.le_trans h2.n1 h1.n1, Nat.le_trans h2.an h1.an⟩
theorem gwput_k (d : CfD) (st : List Int) : ∀ (m : Nat) (k : Int) (s a n : Nat) {x s' a' n'}, s ≤ st.length → gwPut d st m k s a n = .ok x s' a' n' → GwK st.length s a n s' a' n' ∧ n' + 1 ≤ n
  | 0, k, s, a, n, x, s', a', n', hs, h => by unfold gwPut at h; cases h
  | m + 1, k, s, a, n, x, s', a', n', hs, h => by
    unfold gwPut at h
    by_cases hn : n = 0
    · rw [if_pos hn] at h; cases h
    · rw [if_neg hn] at h
      by_cases hk : 0 ≤ k
      · rw [if_pos hk] at h
        injection h with _ h1 h2 h3
        subst h1 h2 h3
        exact ⟨⟨Nat.le_refl _, hs, by omega, by omega, by omega⟩, by omega⟩
      · rw [if_neg hk] at h
        cases e : st[s]? with
        | none => rw [e] at h; cases h
        | some i =>
          rw [e] at h
          dsimp only at h
          have hlt := (List.getElem?_eq_some_iff.1 e).1
          cases e2 : altD d k i with
          | none => rw [e2] at h; cases h
          | some al =>
            rw [e2] at h
            dsimp only at h
            cases e3 : gwSeq (gwPut d st m) al.l (s + 1) a (n - 1) with
            | bad c x => rw [e3] at h; cases h
            | ok l s2 a2 n2 =>
              rw [e3] at h
              have h2 := gwseq_k (fun k s a n x s' a' n' hs h => gwput_k d st m k s a n hs h) al.l (s + 1) a (n - 1) (by omega) e3
              change GwR.ok _ _ _ _ = _ at h
              injection h with _ h3 h4 h5
              subst h3 h4 h5
              have := h2.s1; have := h2.n1; have := h2.an
              exact ⟨⟨by omega, h2.s2, h2.a1, by omega, by omega⟩, by omega⟩
theorem gwseq_step {F : Int → Nat → Nat → Nat → GwR Tre} {SQ : GwR TrF} {xl : List Int} {j sj aj lj s2 b q : Nat} {Lf : TrF} {t : Tre} {k : Int} (h : SQ = (gwSeq F (xl.drop j) sj aj lj).bind (fun l s b q => .ok (Lf.app l) s b q)) (hd : xl.drop j = k :: xl.drop (j + 1)) (hF : F k sj aj lj = .ok t s2 b q) : SQ = (gwSeq F (xl.drop (j + 1)) s2 b q).bind (fun l s b q => .ok ((Lf.app (t.con .nil)).app l) s b q) := by
  rw [h, hd, gwseq_cons, hF]
  change ((gwSeq F (xl.drop (j + 1)) s2 b q).bind fun l s a n => GwR.ok (t.con l) s a n).bind _ = _
  rw [gwbind_assoc]
  congr 1
  funext l s a n
  show GwR.ok (Lf.app (t.con l)) s a n = GwR.ok ((Lf.app (t.con .nil)).app l) s a n
  rw [TrF.app_assoc]
  rfl
theorem gwseq_bad {F : Int → Nat → Nat → Nat → GwR Tre} {SQ : GwR TrF} {xl : List Int} {j sj aj lj b : Nat} {Lf : TrF} {x k : Int} (h : SQ = (gwSeq F (xl.drop j) sj aj lj).bind (fun l s b q => .ok (Lf.app l) s b q)) (hd : xl.drop j = k :: xl.drop (j + 1)) (hF : F k sj aj lj = .bad b x) : SQ = .bad b x := by
  rw [h, hd, gwseq_cons, hF]
  rfl
theorem gwseq_end {F : Int → Nat → Nat → Nat → GwR Tre} {SQ : GwR TrF} {xl : List Int} {j sj aj lj : Nat} {Lf : TrF} (h : SQ = (gwSeq F (xl.drop j) sj aj lj).bind (fun l s b q => .ok (Lf.app l) s b q)) (hd : xl.length ≤ j) : SQ = .ok Lf sj aj lj := by
  rw [h, List.drop_eq_nil_of_le hd]
  unfold gwSeq
  show GwR.ok (Lf.app .nil) sj aj lj = _
  rw [TrF.app_nil]
theorem gwseq_start {F : Int → Nat → Nat → Nat → GwR Tre} (xl : List Int) (s a n : Nat) : gwSeq F xl s a n = (gwSeq F (xl.drop 0) s a n).bind (fun l s b q => .ok (TrF.nil.app l) s b q) := by
  rw [List.drop_zero]
  show _ = (gwSeq F xl s a n).bind (fun l s b q => GwR.ok l s b q)
  cases gwSeq F xl s a n <;> rfl
end Go.Proofs.Ythogiakfbgehnaa

