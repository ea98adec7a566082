/- Texts joined: Jq. -/
import Derived.Test.YtldmgifphkpdlaaRVAo
import Derived.Test.YtldmgifphkpdlaaRVAn
set_option linter.unusedVariables false
set_option linter.unusedSimpArgs false
namespace Go.Proofs.Ytldmgifphkpdlaa
open Go.RowKit Go.Maps
attribute [local go_sem] Oper.semAt_some
/-- Where rules stand: of each place the rule, the rule in whose alternative it is, and what is behind. -/
abbrev Occ := Nat × Nat × List Int
def occA (r : Nat) (a : List Int) (m : Nat) : List Occ := (List.range m).flatMap (fun u => match a[u]? with | some x => if x < 0 then [(ruL x, r, a.drop (u + 1))] else [] | none => [])
def occR (r : Nat) (e : List (List Int)) (j : Nat) : List Occ := (List.range j).flatMap (fun t => match e[t]? with | some a => occA r a a.length | none => [])
def occG (al : List (List (List Int))) (i : Nat) : List Occ := (List.range i).flatMap (fun r => match al[r]? with | some e => occR r e e.length | none => [])
theorem occA_snoc (r : Nat) (a : List Int) (m : Nat) (h : m < a.length) : occA r a (m + 1) = occA r a m ++ (if a[m] < 0 then [(ruL a[m], r, a.drop (m + 1))] else []) := by
 unfold occA
 rw [List.range_succ, List.flatMap_append, List.flatMap_singleton, List.getElem?_eq_getElem h]
theorem occR_snoc (r : Nat) (e : List (List Int)) (j : Nat) (h : j < e.length) : occR r e (j + 1) = occR r e j ++ occA r e[j] e[j].length := by
 unfold occR
 rw [List.range_succ, List.flatMap_append, List.flatMap_singleton, List.getElem?_eq_getElem h]
theorem occG_snoc (al : List (List (List Int))) (i : Nat) (h : i < al.length) : occG al (i + 1) = occG al i ++ occR i al[i] al[i].length := by
 unfold occG
 rw [List.range_succ, List.flatMap_append, List.flatMap_singleton, List.getElem?_eq_getElem h]
theorem occA_len (r : Nat) (a : List Int) (m : Nat) (h : m ≤ a.length) : (occA r a m).length ≤ m := by
 induction m with
 | zero => exact Nat.le_refl _
 | succ m ih =>
  rw [occA_snoc r a m (by omega), List.length_append]
  have := ih (by omega)
  split <;> simp <;> omega
theorem occR_len (r : Nat) (e : List (List Int)) (h : ∀ a ∈ e, a.length ≤ 30) (j : Nat) (hj : j ≤ e.length) : (occR r e j).length ≤ j * 30 := by
 induction j with
 | zero => exact Nat.zero_le _
 | succ j ih =>
  rw [occR_snoc r e j (by omega), List.length_append]
  have := ih (by omega)
  have := occA_len r e[j] e[j].length (Nat.le_refl _)
  have := h _ (List.getElem_mem (show j < e.length by omega))
  omega
theorem occG_len (al : List (List (List Int))) (h : ∀ e ∈ al, e.length ≤ 30 ∧ ∀ a ∈ e, a.length ≤ 30) (i : Nat) (hi : i ≤ al.length) : (occG al i).length ≤ i * 900 := by
 induction i with
 | zero => exact Nat.zero_le _
 | succ i ih =>
  rw [occG_snoc al i (by omega), List.length_append]
  have := ih (by omega)
  have h1 := h _ (List.getElem_mem (show i < al.length by omega))
  have := occR_len i al[i] h1.2 al[i].length (Nat.le_refl _)
  have : al[i].length * 30 ≤ 30 * 30 := Nat.mul_le_mul_right _ h1.1
  omega
def mbO (f : Nat → Bool) (O : List Occ) (s : Nat) (y : Int) : Bool := O.any (fun o => decide (s = o.1) && decide (y ∈ ahd f o.2.2))
def mlO (f : Nat → Bool) (O : List Occ) (s : Nat) (y : Int) : Bool := O.any (fun o => decide (s = o.1) && (emp f o.2.2 && decide (y = (o.2.1 : Int))))
theorem mbO_snoc (f : Nat → Bool) (O : List Occ) (o : Occ) (s : Nat) (y : Int) : mbO f (O ++ [o]) s y = (mbO f O s y || (decide (s = o.1) && decide (y ∈ ahd f o.2.2))) := by unfold mbO; rw [List.any_append]; simp
theorem mlO_snoc (f : Nat → Bool) (O : List Occ) (o : Occ) (s : Nat) (y : Int) : mlO f (O ++ [o]) s y = (mlO f O s y || (decide (s = o.1) && (emp f o.2.2 && decide (y = (o.2.1 : Int))))) := by unfold mlO; rw [List.any_append]; simp
theorem occA_mem {r : Nat} {a : List Int} {o : Occ} : o ∈ occA r a a.length ↔ ∃ u x, a[u]? = some x ∧ x < 0 ∧ o = (ruL x, r, a.drop (u + 1)) := by
 unfold occA
 rw [List.mem_flatMap]
 constructor
 ·rintro ⟨u, hu, h⟩
  rw [List.mem_range] at hu
  rw [List.getElem?_eq_getElem hu] at h
  dsimp only at h
  split at h
  ·next h0 =>
   rw [List.mem_singleton] at h
   exact ⟨u, a[u], List.getElem?_eq_getElem hu, h0, h⟩
  ·cases h
 ·rintro ⟨u, x, hu, h0, rfl⟩
  have hl := (List.getElem?_eq_some_iff.1 hu).1
  exact ⟨u, List.mem_range.2 hl, by rw [hu]; dsimp only; rw [if_pos h0]; simp⟩
theorem occG_mem {al : List (List (List Int))} {o : Occ} : o ∈ occG al al.length ↔ ∃ r, r < al.length ∧ ∃ a ∈ al.getD r [], ∃ u x, a[u]? = some x ∧ x < 0 ∧ o = (ruL x, r, a.drop (u + 1)) := by
 unfold occG
 rw [List.mem_flatMap]
 constructor
 ·rintro ⟨r, hr, h⟩
  rw [List.mem_range] at hr
  rw [List.getElem?_eq_getElem hr] at h
  dsimp only at h
  unfold occR at h
  obtain ⟨t, ht, h⟩ := List.mem_flatMap.1 h
  rw [List.mem_range] at ht
  rw [List.getElem?_eq_getElem ht] at h
  dsimp only at h
  refine ⟨r, hr, al[r][t], ?_, occA_mem.1 h⟩
  rw [List.getD_eq_getElem?_getD, List.getElem?_eq_getElem hr]
  exact List.getElem_mem ht
 ·rintro ⟨r, hr, a, ha, h⟩
  rw [List.getD_eq_getElem?_getD, List.getElem?_eq_getElem hr] at ha
  obtain ⟨t, ht, rfl⟩ := List.mem_iff_getElem.1 ha
  refine ⟨r, List.mem_range.2 hr, ?_⟩
  rw [List.getElem?_eq_getElem hr]
  dsimp only
  unfold occR
  refine List.mem_flatMap.2 ⟨t, List.mem_range.2 ht, ?_⟩
  simp only [Option.getD_some] at ht ⊢
  rw [List.getElem?_eq_getElem ht]
  exact occA_mem.2 h
/-- The row behind its first numbers. -/
theorem ints_drop {w : World} {b off cap : Nat} {s : List Int} (h : Ints w (some ⟨b, off, none⟩) cap s) (i : Nat) (hi : i ≤ s.length) : Ints w (some ⟨b, off + i, none⟩) (cap - i) (s.drop i) := by
 have hl := h.le
 rw [List.length_map] at hl
 have hm := h.max
 refine ⟨by rw [List.length_map, List.length_drop]; omega, by omega, fun e => (by cases e), fun j hj => ⟨b, off + i, rfl⟩, fun b2 off2 e j hj => ?_⟩
 rw [List.length_map, List.length_drop] at hj
 injection e with e
 injection e with e1 e2
 subst e1
 subst e2
 have := h.cell b off rfl (i + j) (by rw [List.length_map]; omega)
 rw [show off + i + j = off + (i + j) by omega, this]
 simp
theorem ints_end {w : World} {b off : Nat} (c : Nat) (hc : c ≤ 9223372036854775807) : Ints w (some ⟨b, off, none⟩) c [] := ⟨Nat.zero_le _, hc, fun e => (by cases e), fun i hi => absurd hi (Nat.not_lt_zero _), fun b2 off2 e i hi => absurd hi (Nat.not_lt_zero _)⟩
/-- A variable is given the value that it has. -/
theorem NbAt.same1 {W : World} {B hb lb N n bc lc : Nat} {ba la : Option Addr} {p q : Nat → Nat} {MB ML : Nat → Int → Bool} (h : NbAt W B hb lb N n ba bc la lc p q MB ML) : NbAt (W.setCell ⟨hb, 0, none⟩ (.slice ba N bc)) B hb lb N n ba bc la lc p q MB ML := by
 have g := set_grown h.hbx 0 (.slice ba N bc)
 exact ⟨h.hbx.set 0 _, h.lbx.setOther (fun e => h.lo.2.2.1 e.symm) _, World.ownsRow.kept h.r1 g (.inr (fun e => own_ne_ty h.r1 h.hbx (by decide) e)), World.ownsRow.kept h.r2 g (.inr (fun e => own_ne_ty h.r2 h.hbx (by decide) e)),
  fun r hr => (h.s1 r hr).kept g (fun e => mapZ_ne_blk (h.s1 r hr) h.hbx (by injection e with e; exact e.symm)), fun r hr => (h.s2 r hr).kept g (fun e => mapZ_ne_blk (h.s2 r hr) h.hbx (by injection e with e; exact e.symm)), h.inj1, h.inj2, h.ne, h.lo, h.ap⟩
theorem NbAt.same2 {W : World} {B hb lb N n bc lc : Nat} {ba la : Option Addr} {p q : Nat → Nat} {MB ML : Nat → Int → Bool} (h : NbAt W B hb lb N n ba bc la lc p q MB ML) : NbAt (W.setCell ⟨lb, 0, none⟩ (.slice la N lc)) B hb lb N n ba bc la lc p q MB ML := by
 have g := set_grown h.lbx 0 (.slice la N lc)
 exact ⟨h.hbx.setOther h.lo.2.2.1 _, h.lbx.set 0 _, World.ownsRow.kept h.r1 g (.inr (fun e => own_ne_ty h.r1 h.lbx (by decide) e)), World.ownsRow.kept h.r2 g (.inr (fun e => own_ne_ty h.r2 h.lbx (by decide) e)),
  fun r hr => (h.s1 r hr).kept g (fun e => mapZ_ne_blk (h.s1 r hr) h.lbx (by injection e with e; exact e.symm)), fun r hr => (h.s2 r hr).kept g (fun e => mapZ_ne_blk (h.s2 r hr) h.lbx (by injection e with e; exact e.symm)), h.inj1, h.inj2, h.ne, h.lo, h.ap⟩
/-- What neighbours answers. -/
def NeiQ (w : World) (N : Nat) (MB ML : Nat → Int → Bool) (e : Ending) (W' : World) : Prop :=
 ∃ B hb lb n ba bc la lc p q, e = .returned (.tuple #[.slice ba N bc, .slice la N lc]) ∧ n ≤ 100000000 ∧ NbAt W' B hb lb N n ba bc la lc p q MB ML ∧ w.heap.size ≤ B ∧ Below w.heap.size w W'
set_option maxRecDepth 100000 in
set_option maxHeartbeats 16000000 in
theorem neigh_any (d : CfD) (na : Option Addr) (nc : Nat) (f : Nat → Bool) (w : World) (hd : CfAt w d) (hn : BlsF w na nc d.alts.length f) (hf : FitC d) :
 Calls Try.prog 60 #[.agg #[.slice d.aa d.alts.length d.ac, .slice na d.alts.length nc]] w (NeiQ w d.alts.length (mbO f (occG (d.alts.map IrD.p) d.alts.length)) (mlO f (occG (d.alts.map IrD.p) d.alts.length))) := by
 have hb1 : Below w.heap.size w (w.alloc (.cells #[.slice d.aa d.alts.length d.ac, .slice na d.alts.length nc] 68)) := (Below.refl _ w).alloc (Nat.le_refl _) _
 have hA := Blk.new w 68 #[.slice d.aa d.alts.length d.ac, .slice na d.alts.length nc]
 have hBg : BgAt (w.alloc (.cells #[.slice d.aa d.alts.length d.ac, .slice na d.alts.length nc] 68)) w.heap.size d na nc f := ⟨hA, hd.grown hb1, hn.grown hb1⟩
 obtain ⟨W0, hW0⟩ : ∃ q, Hid (w.alloc (.cells #[.slice d.aa d.alts.length d.ac, .slice na d.alts.length nc] 68) = q) := ⟨_, Lib.hid rfl⟩
 have hs0 : (w.alloc (.cells #[.slice d.aa d.alts.length d.ac, .slice na d.alts.length nc] 68)).heap.size = w.heap.size + 1 := by simp
 rw [hW0.out] at hb1 hBg hs0
 have hr60 := hf.r
 have ht60 := hf.t
 have Hgr := Lib.hid (fun (W : World) (n : Nat) ba bc la lc p q MB ML (r i : Nat) (s : List Int) sa sc (hbl : Below W0.heap.size W0 W) (hN : NbAt W W0.heap.size W0.heap.size (W0.heap.size + 1) d.alts.length n ba bc la lc p q MB ML) (hr : r < d.alts.length) (hi : i < d.alts.length) (hs : Ints W0 sa sc s) (hok : OkL d.toks.length d.alts.length s) (hsl : s.length ≤ 500) (hn : n ≤ 1000000000000) => grows_any W0 W w.heap.size d na nc f W0.heap.size (W0.heap.size + 1) n ba bc la lc p q MB ML r i s sa sc hBg hf hbl hN hr hi hs hok hsl hn)
 have HX3 := Lib.hid (hBg.cfg.alts)
 have HX4 := Lib.hid (hBg.cfg.rules)
 have hxm : d.alts.length ≤ d.ac ∧ d.ac ≤ 9223372036854775807 := ⟨by have := HX3.out.le; rwa [List.length_map] at this, HX3.out.max⟩
 have HF5 := Lib.hid hf.l
 have HF4 := Lib.hid hf.a
 have HBx := Lib.hid hBg.box
 obtain ⟨Q, hQ⟩ : ∃ Q, Hid (NeiQ w d.alts.length (mbO f (occG (d.alts.map IrD.p) d.alts.length)) (mlO f (occG (d.alts.map IrD.p) d.alts.length)) = Q) := ⟨_, Lib.hid rfl⟩
 rw [hQ.out]
 have HQ := Lib.hid hQ.out
 obtain ⟨G, hG⟩ : ∃ q, Hid (occG (d.alts.map IrD.p) = q) := ⟨_, Lib.hid rfl⟩
 have hG0 : Hid (G 0 = []) := Lib.hid (by rw [← hG.out]; rfl)
 have hGs : Hid (∀ i (h : i < d.alts.length), G (i + 1) = G i ++ occR i d.alts[i].p d.alts[i].p.length) := Lib.hid (fun i h => by rw [← hG.out, occG_snoc _ i (by rw [List.length_map]; exact h), List.getElem_map])
 have hGl : Hid (∀ i, i ≤ d.alts.length → (G i).length ≤ i * 900) := Lib.hid (fun i h => by
  rw [← hG.out]
  refine occG_len _ (fun e he => ?_) i (by rw [List.length_map]; exact h)
  obtain ⟨x, hx, rfl⟩ := List.mem_map.1 he
  unfold IrD.p
  rw [List.length_map]
  refine ⟨hf.a x hx, fun a ha => ?_⟩
  obtain ⟨y, hy, rfl⟩ := List.mem_map.1 ha
  exact (hf.l x hx y hy).1)
 rw [hG.out] at HQ
 obtain ⟨xt, xta, xtc, xn, xna, xnc, xa, xaa, xac⟩ := d
 dsimp only at *
 obtain ⟨L, HL⟩ : ∃ q, Hid (xa.length = q) := ⟨_, Lib.hid rfl⟩
 obtain ⟨T, HT⟩ : ∃ q, Hid (xt.length = q) := ⟨_, Lib.hid rfl⟩
 rw [HL.out] at hxm hr60 hGl HQ HBx
 rw [HL.out, HT.out] at HF5 Hgr
 rw [HL.out] at hW0 ⊢
 obtain ⟨base, hbase⟩ : ∃ q, Hid (W0.heap.size = q) := ⟨_, Lib.hid rfl⟩
 have hbw : w.heap.size + 1 = base := by rw [← hbase.out, hs0]
 have hbx9 : w.heap.size < base := by omega
 have hBW0 := Lib.hid hb1
 rw [hbase.out] at Hgr
 obtain ⟨bb, hbb⟩ : ∃ q, Hid (w.heap.size = q) := ⟨_, Lib.hid rfl⟩
 rw [hbb.out] at hbx9 HBx
 have Hgr' : Hid (∀ (W : World) (n : Nat) ba bc la lc p q MB ML (r i : Nat) (s : List Int) sa sc, Below base W0 W → NbAt W base base (base + 1) L n ba bc la lc p q MB ML → r < L → i < L → Ints W0 sa sc s → OkL T L s → s.length ≤ 500 → n ≤ 1000000000000 →
  Calls Try.prog 93 #[.int .i64 (r : Int), .int .i64 (i : Int), .slice sa s.length sc, .pointer (some ⟨bb, 0, none⟩), .pointer (some ⟨base, 0, none⟩), .pointer (some ⟨base + 1, 0, none⟩)] W (GrwQ W base base (base + 1) L n ba bc la lc p q MB ML f r i s)) := Lib.hid (by rw [← hbb.out]; exact Hgr.out)
 have hz1 := Blk.new W0 75 #[.slice none 0 0]
 have hz2 := (Blk.new W0 75 #[.slice none 0 0]).alloc (.cells #[.slice none 0 0] 75)
 have hz3 := Blk.new (W0.alloc (.cells #[.slice none 0 0] 75)) 75 #[.slice none 0 0]
 rw [hbase.out] at hz2
 rw [show (W0.alloc (.cells #[.slice none 0 0] 75)).heap.size = base + 1 by simp [hbase.out]] at hz3
 have hb9 : Below base W0 ((W0.alloc (.cells #[.slice none 0 0] 75)).alloc (.cells #[.slice none 0 0] 75)) := ((Below.refl _ W0).alloc (by rw [hbase.out]; exact Nat.le_refl _) _).alloc (by simp [hbase.out]) _
 have HNa : Hid (NbAt ((W0.alloc (.cells #[.slice none 0 0] 75)).alloc (.cells #[.slice none 0 0] 75)) base base (base + 1) 0 0 none 0 none 0 (fun _ => 0) (fun _ => 0) (fun _ _ => false) (fun _ _ => false)) := Lib.hid
  ⟨hz2, hz3, World.ownsRow_nil _ _ _ _, World.ownsRow_nil _ _ _ _, fun r h => absurd h (Nat.not_lt_zero _), fun r h => absurd h (Nat.not_lt_zero _), fun r s h => absurd h (Nat.not_lt_zero _), fun r s h => absurd h (Nat.not_lt_zero _), fun r s h => absurd h (Nat.not_lt_zero _), ⟨Nat.le_refl _, Nat.le_succ _, by omega, fun r h => absurd h (Nat.not_lt_zero _)⟩, fun g e => by cases e⟩
 have HBa := Lib.hid ((HBx.out.alloc (.cells #[.slice none 0 0] 75)).alloc (.cells #[.slice none 0 0] 75))
 have Hb9 := Lib.hid hb9
 have HW0s : Hid (base + 1 = W0.heap.size + 1) := Lib.hid (by rw [hbase.out])
 clear hA hd hn hf hBg hs0 hb1 hz1 hz2 hz3 hb9 Hgr hQ
 go_enter Try.func60, Try.ntmps60
 have x0 := HBa.out.cell 0
 have xl := HBa.out.lt
 simp only [List.getElem?_cons_zero] at x0
 go_upto_region 1 with fail
 obtain ⟨lb, hlb⟩ : ∃ q, Hid (base + 1 = q) := ⟨_, Lib.hid rfl⟩
 have hbl : base ≤ base ∧ base ≤ lb ∧ base ≠ lb := by rw [← hlb.out]; omega
 rw [hlb.out] at HNa Hgr'
 rw [hlb.out, hbb.out, hW0.out]
 generalize hV : World.alloc (World.alloc W0 _) _ = V at HNa HBa Hb9 x0 xl ⊢
 clear hV HW0s
 go_wp2_with (fail)
 clear x0 xl HBa
 go_loopw [14] (fun iv wr => ∃ (k : Nat) (ba : Option Addr) (bc : Nat) (la : Option Addr) (lc : Nat) (p q : Nat → Nat), k ≤ L ∧ iv = .int .i64 (k : Int) ∧ Hid (NbAt wr base base lb k 0 ba bc la lc p q (fun _ _ => false) (fun _ _ => false)) ∧ Below base W0 wr) (fun iv _ => L - (RowKit.intOf iv).toNat)
 case atStart => exact ⟨0, none, 0, none, 0, _, _, Nat.zero_le _, rfl, HNa, Hb9.out⟩
 case round =>
  clear HNa Hb9
  obtain ⟨k, ba, bc, la, lc, p, q, hk, rfl, HN, hbr⟩ := hrel
  obtain ⟨U, rfl⟩ : ∃ U, U = wr := ⟨_, rfl⟩
  have hbU : base ≤ U.heap.size := by rw [← hbase.out]; exact hbr.size
  by_cases hlt : k < L
  ·have hkI : (k : Int) < (L : Int) := by omega
   have hkI0 : (0 : Int) ≤ (k : Int) := by omega
   obtain ⟨F, hF⟩ : ∃ q, Hid (U.heap.size = q) := ⟨_, Lib.hid rfl⟩
   have hBF : base ≤ F := by rw [← hF.out]; exact hbU
   have hk1000 : k ≤ 1000 := by omega
   have NC0 : Hid (NbC W0 U base F base lb k (.slice ba k bc) (.slice la k lc) ba k bc ((List.range k).map (fun r => .map (some (p r)))) la k lc ((List.range k).map (fun r => .map (some (q r)))) p q) := Lib.hid ⟨HN.out.hbx, HN.out.lbx, HN.out.r1, HN.out.r2, HN.out.s1, HN.out.s2, HN.out.ap, hbr, by rw [hF.out]; exact Nat.le_refl _⟩
   have Hp : Hid (∀ r, r < k → p r < F ∧ q r < F ∧ base ≤ p r ∧ base ≤ q r) := Lib.hid (fun r hr => by rw [← hF.out]; exact ⟨(HN.out.s1 r hr).lt, (HN.out.s2 r hr).lt, HN.out.lo.2.2.2 r hr⟩)
   have Hi1 := Lib.hid HN.out.inj1
   have Hi2 := Lib.hid HN.out.inj2
   have Hne := Lib.hid HN.out.ne
   have hlo1 : Hid (∀ g, (Value.slice ba k bc).ownBlock = some g → g < F) := Lib.hid (fun g e => by rw [← hF.out]; exact (World.ownsRow.lt HN.out.r1 g e).2)
   have HS0 : Hid (U.drew.cell? ⟨base, 0, none⟩ = some (.slice ba k bc) ∧ U.drew.cell? ⟨lb, 0, none⟩ = some (.slice la k lc)) := Lib.hid ⟨HN.out.hbx.cell 0, HN.out.lbx.cell 0⟩
   have hmm := @run_makeMap Try.prog
   clear HN hbr
   go_wp2_with (fail)
   refine region_till 8 (fun w' => w'.cell? ⟨base, 0, none⟩ = some (.slice ba k bc) ∧ w'.cell? ⟨lb, 0, none⟩ = some (.slice la k lc)) (by kernel_rfl) ?_
   refine till_take (i := 0) 3 (v := ?_) (iatLS iatZS) (by kernel_rfl) (by kernel_rfl) (by kernel_rfl) (fun _ _ _ h => h) (by decide) (by kernel_rfl) (by kernel_rfl) (by decide) (by kernel_rfl) (by kernel_rfl) (Or.inl ⟨by rfl, ?_⟩) HS0.out ?_
   rotate_left
   ·intro w hSw
    try dsimp only at hSw
    go_simp
    all_goals with_reducible rfl
   try simp only [Act.put, List.setIfInBounds_toArray, List.set_cons_zero, List.set_cons_succ]
   refine till_take (i := 4) 7 (v := ?_) (iatLS (iatSS (iatSS (iatSS (iatSS iatZS))))) (by kernel_rfl) (by kernel_rfl) (by kernel_rfl) (fun _ _ _ h => h) (by decide) (by kernel_rfl) (by kernel_rfl) (by decide) (by kernel_rfl) (by kernel_rfl) (Or.inl ⟨by rfl, ?_⟩) HS0.out ?_
   rotate_left
   ·intro w hSw
    try dsimp only at hSw
    go_simp
    all_goals with_reducible rfl
   try simp only [Act.put, List.setIfInBounds_toArray, List.set_cons_zero, List.set_cons_succ]
   refine till_ready (rs := [1, 5]) (by kernel_rfl) (by simp) ?_
   refine TillAll.cons (iatLS (iatSS iatZS)) (fun K hK => ?_) (TillAll.cons (iatLS (iatSS (iatSS (iatSS (iatSS (iatSS iatZS)))))) (fun K hK => ?_) (TillAll.nil))
   ·
    go_simp
    have NC1 := Lib.hid (NC0.out.alloc hBF (.map #[] 0))
    have HM1_1 := Lib.hid (SetZ.new U)
    obtain ⟨m1, hm1⟩ : ∃ q, Hid (U.heap.size = q) := ⟨_, Lib.hid rfl⟩
    have hFm1 : F ≤ m1 := by rw [← hm1.out]; exact NC0.out.hf
    rw [hm1.out] at HM1_1 ⊢
    generalize hW1 : World.alloc U _ = Y1 at NC1 HM1_1 ⊢
    clear hW1 NC0
    refine hK.out _ _ ?_ ?_
    ·exact fun _ => ⟨NC1.out.hbx.cell 0, NC1.out.lbx.cell 0⟩
    clear hK K
    try simp only [Act.put, List.setIfInBounds_toArray, List.set_cons_zero, List.set_cons_succ]
    refine till_ready (rs := [2, 5]) (by kernel_rfl) (by simp) ?_
    refine TillAll.cons (iatLS (iatSS (iatSS iatZS))) (fun K hK => ?_) (TillAll.cons (iatLS (iatSS (iatSS (iatSS (iatSS (iatSS iatZS)))))) (fun K hK => ?_) (TillAll.nil))
    ·
     go_simp
     have NC2 := Lib.hid (NC1.out.alloc hBF (.cells #[.map (some m1)] 79))
     have HM1_2 := Lib.hid (HM1_1.out.kept (World.grownBy_alloc Y1 (.cells #[.map (some m1)] 79) none) (by simp))
     have HS1_2 := Lib.hid (Blk.new Y1 79 #[.map (some m1)])
     obtain ⟨s1, hs1⟩ : ∃ q, Hid (Y1.heap.size = q) := ⟨_, Lib.hid rfl⟩
     have hFs1 : F ≤ s1 := by rw [← hs1.out]; exact NC1.out.hf
     rw [hs1.out] at HS1_2 ⊢
     generalize hW2 : World.alloc Y1 _ = Y2 at NC2 HM1_2 HS1_2 ⊢
     clear hW2 NC1 HM1_1
     refine hK.out _ _ ?_ ?_
     ·exact fun _ => ⟨NC2.out.hbx.cell 0, NC2.out.lbx.cell 0⟩
     clear hK K
     try simp only [Act.put, List.setIfInBounds_toArray, List.set_cons_zero, List.set_cons_succ]
     refine till_ready (rs := [3, 5]) (by kernel_rfl) (by simp) ?_
     refine TillAll.cons (iatLS (iatSS (iatSS (iatSS iatZS)))) (fun K hK => ?_) (TillAll.cons (iatLS (iatSS (iatSS (iatSS (iatSS (iatSS iatZS)))))) (fun K hK => ?_) (TillAll.nil))
     ·
      obtain ⟨b1, d1, Y3, hr1, hN1, hg1⟩ := NbC.app1 (W := Y2.drew) NC2.out.drew hBF m1 s1 HS1_2.out hk1000
      have HM1_3 := Lib.hid ((show SetZ Y2.drew m1 0 (fun _ => false) from HM1_2.out).kept hg1 (fun e => map_ne_row HM1_2.out NC2.out.r1 _ e.symm rfl))
      have NC3 := Lib.hid hN1
      refine stepAppS rfl _ _ 75 75 rfl _ _ _ _ rfl rfl hr1 ?_
      clear hr1 hN1 hg1 NC2 HS1_2 HM1_2
      refine hK.out _ _ ?_ ?_
      ·exact fun _ => ⟨NC3.out.hbx.cell 0, NC3.out.lbx.cell 0⟩
      clear hK K
      try simp only [Act.put, List.setIfInBounds_toArray, List.set_cons_zero, List.set_cons_succ]
      refine till_ready (rs := [5]) (by kernel_rfl) (by simp) ?_
      refine TillAll.cons (iatLS (iatSS (iatSS (iatSS (iatSS (iatSS iatZS)))))) (fun K hK => ?_) (TillAll.nil)
      go_simp
      have NC4 := Lib.hid (NC3.out.alloc hBF (.map #[] 0))
      have HM1_4 := Lib.hid (HM1_3.out.kept (World.grownBy_alloc Y3 (.map #[] 0) none) (by simp))
      have HM2_4 := Lib.hid (SetZ.new Y3)
      obtain ⟨m2, hm2⟩ : ∃ q, Hid (Y3.heap.size = q) := ⟨_, Lib.hid rfl⟩
      have hne12 : m1 ≠ m2 := by have h1 := HM1_3.out.lt; have h2 := hm2.out; omega
      have hFm2 : F ≤ m2 := by rw [← hm2.out]; exact NC3.out.hf
      rw [hm2.out] at HM2_4 ⊢
      generalize hW4 : World.alloc Y3 _ = Y4 at NC4 HM1_4 HM2_4 ⊢
      clear hW4 NC3 HM1_3
      refine hK.out _ _ ?_ ?_
      ·exact fun _ => ⟨NC4.out.hbx.cell 0, NC4.out.lbx.cell 0⟩
      clear hK K
      try simp only [Act.put, List.setIfInBounds_toArray, List.set_cons_zero, List.set_cons_succ]
      refine till_ready (rs := [6]) (by kernel_rfl) (by simp) ?_
      refine TillAll.cons (iatLS (iatSS (iatSS (iatSS (iatSS (iatSS (iatSS iatZS))))))) (fun K hK => ?_) (TillAll.nil)
      go_simp
      have NC5 := Lib.hid (NC4.out.alloc hBF (.cells #[.map (some m2)] 79))
      have HM1_5 := Lib.hid (HM1_4.out.kept (World.grownBy_alloc Y4 (.cells #[.map (some m2)] 79) none) (by simp))
      have HM2_5 := Lib.hid (HM2_4.out.kept (World.grownBy_alloc Y4 (.cells #[.map (some m2)] 79) none) (by simp))
      have HS2_5 := Lib.hid (Blk.new Y4 79 #[.map (some m2)])
      obtain ⟨s2, hs2⟩ : ∃ q, Hid (Y4.heap.size = q) := ⟨_, Lib.hid rfl⟩
      have hFs2 : F ≤ s2 := by rw [← hs2.out]; exact NC4.out.hf
      rw [hs2.out] at HS2_5 ⊢
      generalize hW5 : World.alloc Y4 _ = Y5 at NC5 HM1_5 HM2_5 HS2_5 ⊢
      clear hW5 NC4 HM1_4 HM2_4
      refine hK.out _ _ ?_ ?_
      ·exact fun _ => ⟨NC5.out.hbx.cell 0, NC5.out.lbx.cell 0⟩
      clear hK K
      try simp only [Act.put, List.setIfInBounds_toArray, List.set_cons_zero, List.set_cons_succ]
      refine till_ready (rs := [7]) (by kernel_rfl) (by simp) ?_
      refine TillAll.cons (iatLS (iatSS (iatSS (iatSS (iatSS (iatSS (iatSS (iatSS iatZS)))))))) (fun K hK => ?_) (TillAll.nil)
      obtain ⟨b2, d2, Y6, hr2, hN2, hg2⟩ := NbC.app2 (W := Y5) NC5.out hBF m2 s2 HS2_5.out hk1000
      have HM1_6 := Lib.hid ((show SetZ Y5 m1 0 (fun _ => false) from HM1_5.out).kept hg2 (fun e => map_ne_row HM1_5.out NC5.out.r2 _ e.symm rfl))
      have HM2_6 := Lib.hid ((show SetZ Y5 m2 0 (fun _ => false) from HM2_5.out).kept hg2 (fun e => map_ne_row HM2_5.out NC5.out.r2 _ e.symm rfl))
      have NC6 := Lib.hid hN2
      have y0 := NC6.out.hbx.cell 0
      have y1 := NC6.out.lbx.cell 0
      have yl := NC6.out.hbx.lt
      have yl1 := NC6.out.lbx.lt
      have yf := NC6.out.hbx.frozen 0
      have yf1 := NC6.out.lbx.frozen 0
      simp only [List.getElem?_cons_zero] at y0 y1
      refine stepAppS rfl _ _ 75 75 rfl _ _ _ _ rfl rfl hr2 ?_
      clear hr2 hN2 hg2 NC5 HS2_5 HM1_5 HM2_5
      refine hK.out _ _ ?_ ?_
      ·exact fun _ => ⟨NC6.out.hbx.cell 0, NC6.out.lbx.cell 0⟩
      clear hK K
      try simp only [Act.put, List.setIfInBounds_toArray, List.set_cons_zero, List.set_cons_succ]
      refine till_ready (rs := [8]) (by kernel_rfl) (by simp) ?_
      refine TillAll.cons (iatLS (iatSS (iatSS (iatSS (iatSS (iatSS (iatSS (iatSS (iatSS iatZS))))))))) (fun K hK => ?_) TillAll.nil
      go_simp
      refine hK.out _ _ ?_ ?_
      ·exact fun h => nomatch (show (true : Bool) = false from h)
      clear hK K
      try simp only [Act.put, List.setIfInBounds_toArray, List.set_cons_zero, List.set_cons_succ]
      refine till_ready (rs := [9]) (by kernel_rfl) (by simp) ?_
      refine TillAll.cons (iatLS (iatSS (iatSS (iatSS (iatSS (iatSS (iatSS (iatSS (iatSS (iatSS iatZS)))))))))) (fun K hK => ?_) TillAll.nil
      go_simp
      refine hK.out _ _ ?_ ?_
      ·exact fun h => nomatch (show (true : Bool) = false from h)
      clear hK K
      try simp only [Act.put, List.setIfInBounds_toArray, List.set_cons_zero, List.set_cons_succ]
      refine till_done (by kernel_rfl) ?_ _
      obtain ⟨hNf, hbf⟩ := NC6.out.fin HM1_6.out HM2_6.out hne12 hFm1 hFm2 Hp.out Hi1.out Hi2.out Hne.out hbl hBF
      have HNf := Lib.hid hNf
      clear hNf y0 y1 yl yl1 yf yf1
      generalize hWf : World.setCell (World.setCell Y6 _ _) _ _ = Yf at HNf hbf ⊢
      clear hWf
      go_wp2_with (fail)
      exact ⟨⟨k + 1, b1, d1, b2, d2, _, _, by omega, by go_num, HNf, hbf⟩, by simp [RowKit.intOf]; omega⟩
     ·
      go_simp
      have NC3 := Lib.hid (NC2.out.alloc hBF (.map #[] 0))
      have HM1_3 := Lib.hid (HM1_2.out.kept (World.grownBy_alloc Y2 (.map #[] 0) none) (by simp))
      have HS1_3 := Lib.hid (HS1_2.out.alloc (.map #[] 0))
      have HM2_3 := Lib.hid (SetZ.new Y2)
      obtain ⟨m2, hm2⟩ : ∃ q, Hid (Y2.heap.size = q) := ⟨_, Lib.hid rfl⟩
      have hne12 : m1 ≠ m2 := by have h1 := HM1_2.out.lt; have h2 := hm2.out; omega
      have hFm2 : F ≤ m2 := by rw [← hm2.out]; exact NC2.out.hf
      rw [hm2.out] at HM2_3 ⊢
      generalize hW3 : World.alloc Y2 _ = Y3 at NC3 HM1_3 HS1_3 HM2_3 ⊢
      clear hW3 NC2 HM1_2 HS1_2
      refine hK.out _ _ ?_ ?_
      ·exact fun _ => ⟨NC3.out.hbx.cell 0, NC3.out.lbx.cell 0⟩
      clear hK K
      try simp only [Act.put, List.setIfInBounds_toArray, List.set_cons_zero, List.set_cons_succ]
      refine till_ready (rs := [3, 6]) (by kernel_rfl) (by simp) ?_
      refine TillAll.cons (iatLS (iatSS (iatSS (iatSS iatZS)))) (fun K hK => ?_) (TillAll.cons (iatLS (iatSS (iatSS (iatSS (iatSS (iatSS (iatSS iatZS))))))) (fun K hK => ?_) (TillAll.nil))
      ·
       obtain ⟨b1, d1, Y4, hr1, hN1, hg1⟩ := NbC.app1 (W := Y3.drew) NC3.out.drew hBF m1 s1 HS1_3.out hk1000
       have HM1_4 := Lib.hid ((show SetZ Y3.drew m1 0 (fun _ => false) from HM1_3.out).kept hg1 (fun e => map_ne_row HM1_3.out NC3.out.r1 _ e.symm rfl))
       have HM2_4 := Lib.hid ((show SetZ Y3.drew m2 0 (fun _ => false) from HM2_3.out).kept hg1 (fun e => map_ne_row HM2_3.out NC3.out.r1 _ e.symm rfl))
       have NC4 := Lib.hid hN1
       refine stepAppS rfl _ _ 75 75 rfl _ _ _ _ rfl rfl hr1 ?_
       clear hr1 hN1 hg1 NC3 HS1_3 HM1_3 HM2_3
       refine hK.out _ _ ?_ ?_
       ·exact fun _ => ⟨NC4.out.hbx.cell 0, NC4.out.lbx.cell 0⟩
       clear hK K
       try simp only [Act.put, List.setIfInBounds_toArray, List.set_cons_zero, List.set_cons_succ]
       refine till_ready (rs := [6]) (by kernel_rfl) (by simp) ?_
       refine TillAll.cons (iatLS (iatSS (iatSS (iatSS (iatSS (iatSS (iatSS iatZS))))))) (fun K hK => ?_) (TillAll.nil)
       go_simp
       have NC5 := Lib.hid (NC4.out.alloc hBF (.cells #[.map (some m2)] 79))
       have HM1_5 := Lib.hid (HM1_4.out.kept (World.grownBy_alloc Y4 (.cells #[.map (some m2)] 79) none) (by simp))
       have HM2_5 := Lib.hid (HM2_4.out.kept (World.grownBy_alloc Y4 (.cells #[.map (some m2)] 79) none) (by simp))
       have HS2_5 := Lib.hid (Blk.new Y4 79 #[.map (some m2)])
       obtain ⟨s2, hs2⟩ : ∃ q, Hid (Y4.heap.size = q) := ⟨_, Lib.hid rfl⟩
       have hFs2 : F ≤ s2 := by rw [← hs2.out]; exact NC4.out.hf
       rw [hs2.out] at HS2_5 ⊢
       generalize hW5 : World.alloc Y4 _ = Y5 at NC5 HM1_5 HM2_5 HS2_5 ⊢
       clear hW5 NC4 HM1_4 HM2_4
       refine hK.out _ _ ?_ ?_
       ·exact fun _ => ⟨NC5.out.hbx.cell 0, NC5.out.lbx.cell 0⟩
       clear hK K
       try simp only [Act.put, List.setIfInBounds_toArray, List.set_cons_zero, List.set_cons_succ]
       refine till_ready (rs := [7]) (by kernel_rfl) (by simp) ?_
       refine TillAll.cons (iatLS (iatSS (iatSS (iatSS (iatSS (iatSS (iatSS (iatSS iatZS)))))))) (fun K hK => ?_) (TillAll.nil)
       obtain ⟨b2, d2, Y6, hr2, hN2, hg2⟩ := NbC.app2 (W := Y5) NC5.out hBF m2 s2 HS2_5.out hk1000
       have HM1_6 := Lib.hid ((show SetZ Y5 m1 0 (fun _ => false) from HM1_5.out).kept hg2 (fun e => map_ne_row HM1_5.out NC5.out.r2 _ e.symm rfl))
       have HM2_6 := Lib.hid ((show SetZ Y5 m2 0 (fun _ => false) from HM2_5.out).kept hg2 (fun e => map_ne_row HM2_5.out NC5.out.r2 _ e.symm rfl))
       have NC6 := Lib.hid hN2
       have y0 := NC6.out.hbx.cell 0
       have y1 := NC6.out.lbx.cell 0
       have yl := NC6.out.hbx.lt
       have yl1 := NC6.out.lbx.lt
       have yf := NC6.out.hbx.frozen 0
       have yf1 := NC6.out.lbx.frozen 0
       simp only [List.getElem?_cons_zero] at y0 y1
       refine stepAppS rfl _ _ 75 75 rfl _ _ _ _ rfl rfl hr2 ?_
       clear hr2 hN2 hg2 NC5 HS2_5 HM1_5 HM2_5
       refine hK.out _ _ ?_ ?_
       ·exact fun _ => ⟨NC6.out.hbx.cell 0, NC6.out.lbx.cell 0⟩
       clear hK K
       try simp only [Act.put, List.setIfInBounds_toArray, List.set_cons_zero, List.set_cons_succ]
       refine till_ready (rs := [8]) (by kernel_rfl) (by simp) ?_
       refine TillAll.cons (iatLS (iatSS (iatSS (iatSS (iatSS (iatSS (iatSS (iatSS (iatSS iatZS))))))))) (fun K hK => ?_) TillAll.nil
       go_simp
       refine hK.out _ _ ?_ ?_
       ·exact fun h => nomatch (show (true : Bool) = false from h)
       clear hK K
       try simp only [Act.put, List.setIfInBounds_toArray, List.set_cons_zero, List.set_cons_succ]
       refine till_ready (rs := [9]) (by kernel_rfl) (by simp) ?_
       refine TillAll.cons (iatLS (iatSS (iatSS (iatSS (iatSS (iatSS (iatSS (iatSS (iatSS (iatSS iatZS)))))))))) (fun K hK => ?_) TillAll.nil
       go_simp
       refine hK.out _ _ ?_ ?_
       ·exact fun h => nomatch (show (true : Bool) = false from h)
       clear hK K
       try simp only [Act.put, List.setIfInBounds_toArray, List.set_cons_zero, List.set_cons_succ]
       refine till_done (by kernel_rfl) ?_ _
       obtain ⟨hNf, hbf⟩ := NC6.out.fin HM1_6.out HM2_6.out hne12 hFm1 hFm2 Hp.out Hi1.out Hi2.out Hne.out hbl hBF
       have HNf := Lib.hid hNf
       clear hNf y0 y1 yl yl1 yf yf1
       generalize hWf : World.setCell (World.setCell Y6 _ _) _ _ = Yf at HNf hbf ⊢
       clear hWf
       go_wp2_with (fail)
       exact ⟨⟨k + 1, b1, d1, b2, d2, _, _, by omega, by go_num, HNf, hbf⟩, by simp [RowKit.intOf]; omega⟩
      ·
       go_simp
       have NC4 := Lib.hid (NC3.out.alloc hBF (.cells #[.map (some m2)] 79))
       have HM1_4 := Lib.hid (HM1_3.out.kept (World.grownBy_alloc Y3 (.cells #[.map (some m2)] 79) none) (by simp))
       have HM2_4 := Lib.hid (HM2_3.out.kept (World.grownBy_alloc Y3 (.cells #[.map (some m2)] 79) none) (by simp))
       have HS1_4 := Lib.hid (HS1_3.out.alloc (.cells #[.map (some m2)] 79))
       have HS2_4 := Lib.hid (Blk.new Y3 79 #[.map (some m2)])
       obtain ⟨s2, hs2⟩ : ∃ q, Hid (Y3.heap.size = q) := ⟨_, Lib.hid rfl⟩
       have hFs2 : F ≤ s2 := by rw [← hs2.out]; exact NC3.out.hf
       rw [hs2.out] at HS2_4 ⊢
       generalize hW4 : World.alloc Y3 _ = Y4 at NC4 HM1_4 HM2_4 HS1_4 HS2_4 ⊢
       clear hW4 NC3 HM1_3 HM2_3 HS1_3
       refine hK.out _ _ ?_ ?_
       ·exact fun _ => ⟨NC4.out.hbx.cell 0, NC4.out.lbx.cell 0⟩
       clear hK K
       try simp only [Act.put, List.setIfInBounds_toArray, List.set_cons_zero, List.set_cons_succ]
       refine till_ready (rs := [3]) (by kernel_rfl) (by simp) ?_
       refine TillAll.cons (iatLS (iatSS (iatSS (iatSS iatZS)))) (fun K hK => ?_) (TillAll.nil)
       obtain ⟨b1, d1, Y5, hr1, hN1, hg1⟩ := NbC.app1 (W := Y4.drew) NC4.out.drew hBF m1 s1 HS1_4.out hk1000
       have HM1_5 := Lib.hid ((show SetZ Y4.drew m1 0 (fun _ => false) from HM1_4.out).kept hg1 (fun e => map_ne_row HM1_4.out NC4.out.r1 _ e.symm rfl))
       have HM2_5 := Lib.hid ((show SetZ Y4.drew m2 0 (fun _ => false) from HM2_4.out).kept hg1 (fun e => map_ne_row HM2_4.out NC4.out.r1 _ e.symm rfl))
       have HS2_5 := Lib.hid ((show Blk Y4.drew s2 79 [.map (some m2)] from HS2_4.out).kept hg1 (fun e => by have := hlo1.out s2 e.symm; omega))
       have NC5 := Lib.hid hN1
       refine stepAppS rfl _ _ 75 75 rfl _ _ _ _ rfl rfl hr1 ?_
       clear hr1 hN1 hg1 NC4 HS1_4 HM1_4 HM2_4 HS2_4
       refine hK.out _ _ ?_ ?_
       ·exact fun _ => ⟨NC5.out.hbx.cell 0, NC5.out.lbx.cell 0⟩
       clear hK K
       try simp only [Act.put, List.setIfInBounds_toArray, List.set_cons_zero, List.set_cons_succ]
       refine till_ready (rs := [7]) (by kernel_rfl) (by simp) ?_
       refine TillAll.cons (iatLS (iatSS (iatSS (iatSS (iatSS (iatSS (iatSS (iatSS iatZS)))))))) (fun K hK => ?_) (TillAll.nil)
       obtain ⟨b2, d2, Y6, hr2, hN2, hg2⟩ := NbC.app2 (W := Y5) NC5.out hBF m2 s2 HS2_5.out hk1000
       have HM1_6 := Lib.hid ((show SetZ Y5 m1 0 (fun _ => false) from HM1_5.out).kept hg2 (fun e => map_ne_row HM1_5.out NC5.out.r2 _ e.symm rfl))
       have HM2_6 := Lib.hid ((show SetZ Y5 m2 0 (fun _ => false) from HM2_5.out).kept hg2 (fun e => map_ne_row HM2_5.out NC5.out.r2 _ e.symm rfl))
       have NC6 := Lib.hid hN2
       have y0 := NC6.out.hbx.cell 0
       have y1 := NC6.out.lbx.cell 0
       have yl := NC6.out.hbx.lt
       have yl1 := NC6.out.lbx.lt
       have yf := NC6.out.hbx.frozen 0
       have yf1 := NC6.out.lbx.frozen 0
       simp only [List.getElem?_cons_zero] at y0 y1
       refine stepAppS rfl _ _ 75 75 rfl _ _ _ _ rfl rfl hr2 ?_
       clear hr2 hN2 hg2 NC5 HS2_5 HM1_5 HM2_5
       refine hK.out _ _ ?_ ?_
       ·exact fun _ => ⟨NC6.out.hbx.cell 0, NC6.out.lbx.cell 0⟩
       clear hK K
       try simp only [Act.put, List.setIfInBounds_toArray, List.set_cons_zero, List.set_cons_succ]
       refine till_ready (rs := [8]) (by kernel_rfl) (by simp) ?_
       refine TillAll.cons (iatLS (iatSS (iatSS (iatSS (iatSS (iatSS (iatSS (iatSS (iatSS iatZS))))))))) (fun K hK => ?_) TillAll.nil
       go_simp
       refine hK.out _ _ ?_ ?_
       ·exact fun h => nomatch (show (true : Bool) = false from h)
       clear hK K
       try simp only [Act.put, List.setIfInBounds_toArray, List.set_cons_zero, List.set_cons_succ]
       refine till_ready (rs := [9]) (by kernel_rfl) (by simp) ?_
       refine TillAll.cons (iatLS (iatSS (iatSS (iatSS (iatSS (iatSS (iatSS (iatSS (iatSS (iatSS iatZS)))))))))) (fun K hK => ?_) TillAll.nil
       go_simp
       refine hK.out _ _ ?_ ?_
       ·exact fun h => nomatch (show (true : Bool) = false from h)
       clear hK K
       try simp only [Act.put, List.setIfInBounds_toArray, List.set_cons_zero, List.set_cons_succ]
       refine till_done (by kernel_rfl) ?_ _
       obtain ⟨hNf, hbf⟩ := NC6.out.fin HM1_6.out HM2_6.out hne12 hFm1 hFm2 Hp.out Hi1.out Hi2.out Hne.out hbl hBF
       have HNf := Lib.hid hNf
       clear hNf y0 y1 yl yl1 yf yf1
       generalize hWf : World.setCell (World.setCell Y6 _ _) _ _ = Yf at HNf hbf ⊢
       clear hWf
       go_wp2_with (fail)
       exact ⟨⟨k + 1, b1, d1, b2, d2, _, _, by omega, by go_num, HNf, hbf⟩, by simp [RowKit.intOf]; omega⟩
    ·
     go_simp
     have NC2 := Lib.hid (NC1.out.alloc hBF (.map #[] 0))
     have HM1_2 := Lib.hid (HM1_1.out.kept (World.grownBy_alloc Y1 (.map #[] 0) none) (by simp))
     have HM2_2 := Lib.hid (SetZ.new Y1)
     obtain ⟨m2, hm2⟩ : ∃ q, Hid (Y1.heap.size = q) := ⟨_, Lib.hid rfl⟩
     have hne12 : m1 ≠ m2 := by have h1 := HM1_1.out.lt; have h2 := hm2.out; omega
     have hFm2 : F ≤ m2 := by rw [← hm2.out]; exact NC1.out.hf
     rw [hm2.out] at HM2_2 ⊢
     generalize hW2 : World.alloc Y1 _ = Y2 at NC2 HM1_2 HM2_2 ⊢
     clear hW2 NC1 HM1_1
     refine hK.out _ _ ?_ ?_
     ·exact fun _ => ⟨NC2.out.hbx.cell 0, NC2.out.lbx.cell 0⟩
     clear hK K
     try simp only [Act.put, List.setIfInBounds_toArray, List.set_cons_zero, List.set_cons_succ]
     refine till_ready (rs := [2, 6]) (by kernel_rfl) (by simp) ?_
     refine TillAll.cons (iatLS (iatSS (iatSS iatZS))) (fun K hK => ?_) (TillAll.cons (iatLS (iatSS (iatSS (iatSS (iatSS (iatSS (iatSS iatZS))))))) (fun K hK => ?_) (TillAll.nil))
     ·
      go_simp
      have NC3 := Lib.hid (NC2.out.alloc hBF (.cells #[.map (some m1)] 79))
      have HM1_3 := Lib.hid (HM1_2.out.kept (World.grownBy_alloc Y2 (.cells #[.map (some m1)] 79) none) (by simp))
      have HM2_3 := Lib.hid (HM2_2.out.kept (World.grownBy_alloc Y2 (.cells #[.map (some m1)] 79) none) (by simp))
      have HS1_3 := Lib.hid (Blk.new Y2 79 #[.map (some m1)])
      obtain ⟨s1, hs1⟩ : ∃ q, Hid (Y2.heap.size = q) := ⟨_, Lib.hid rfl⟩
      have hFs1 : F ≤ s1 := by rw [← hs1.out]; exact NC2.out.hf
      rw [hs1.out] at HS1_3 ⊢
      generalize hW3 : World.alloc Y2 _ = Y3 at NC3 HM1_3 HM2_3 HS1_3 ⊢
      clear hW3 NC2 HM1_2 HM2_2
      refine hK.out _ _ ?_ ?_
      ·exact fun _ => ⟨NC3.out.hbx.cell 0, NC3.out.lbx.cell 0⟩
      clear hK K
      try simp only [Act.put, List.setIfInBounds_toArray, List.set_cons_zero, List.set_cons_succ]
      refine till_ready (rs := [3, 6]) (by kernel_rfl) (by simp) ?_
      refine TillAll.cons (iatLS (iatSS (iatSS (iatSS iatZS)))) (fun K hK => ?_) (TillAll.cons (iatLS (iatSS (iatSS (iatSS (iatSS (iatSS (iatSS iatZS))))))) (fun K hK => ?_) (TillAll.nil))
      ·
       obtain ⟨b1, d1, Y4, hr1, hN1, hg1⟩ := NbC.app1 (W := Y3.drew) NC3.out.drew hBF m1 s1 HS1_3.out hk1000
       have HM1_4 := Lib.hid ((show SetZ Y3.drew m1 0 (fun _ => false) from HM1_3.out).kept hg1 (fun e => map_ne_row HM1_3.out NC3.out.r1 _ e.symm rfl))
       have HM2_4 := Lib.hid ((show SetZ Y3.drew m2 0 (fun _ => false) from HM2_3.out).kept hg1 (fun e => map_ne_row HM2_3.out NC3.out.r1 _ e.symm rfl))
       have NC4 := Lib.hid hN1
       refine stepAppS rfl _ _ 75 75 rfl _ _ _ _ rfl rfl hr1 ?_
       clear hr1 hN1 hg1 NC3 HS1_3 HM1_3 HM2_3
       refine hK.out _ _ ?_ ?_
       ·exact fun _ => ⟨NC4.out.hbx.cell 0, NC4.out.lbx.cell 0⟩
       clear hK K
       try simp only [Act.put, List.setIfInBounds_toArray, List.set_cons_zero, List.set_cons_succ]
       refine till_ready (rs := [6]) (by kernel_rfl) (by simp) ?_
       refine TillAll.cons (iatLS (iatSS (iatSS (iatSS (iatSS (iatSS (iatSS iatZS))))))) (fun K hK => ?_) (TillAll.nil)
       go_simp
       have NC5 := Lib.hid (NC4.out.alloc hBF (.cells #[.map (some m2)] 79))
       have HM1_5 := Lib.hid (HM1_4.out.kept (World.grownBy_alloc Y4 (.cells #[.map (some m2)] 79) none) (by simp))
       have HM2_5 := Lib.hid (HM2_4.out.kept (World.grownBy_alloc Y4 (.cells #[.map (some m2)] 79) none) (by simp))
       have HS2_5 := Lib.hid (Blk.new Y4 79 #[.map (some m2)])
       obtain ⟨s2, hs2⟩ : ∃ q, Hid (Y4.heap.size = q) := ⟨_, Lib.hid rfl⟩
       have hFs2 : F ≤ s2 := by rw [← hs2.out]; exact NC4.out.hf
       rw [hs2.out] at HS2_5 ⊢
       generalize hW5 : World.alloc Y4 _ = Y5 at NC5 HM1_5 HM2_5 HS2_5 ⊢
       clear hW5 NC4 HM1_4 HM2_4
       refine hK.out _ _ ?_ ?_
       ·exact fun _ => ⟨NC5.out.hbx.cell 0, NC5.out.lbx.cell 0⟩
       clear hK K
       try simp only [Act.put, List.setIfInBounds_toArray, List.set_cons_zero, List.set_cons_succ]
       refine till_ready (rs := [7]) (by kernel_rfl) (by simp) ?_
       refine TillAll.cons (iatLS (iatSS (iatSS (iatSS (iatSS (iatSS (iatSS (iatSS iatZS)))))))) (fun K hK => ?_) (TillAll.nil)
       obtain ⟨b2, d2, Y6, hr2, hN2, hg2⟩ := NbC.app2 (W := Y5) NC5.out hBF m2 s2 HS2_5.out hk1000
       have HM1_6 := Lib.hid ((show SetZ Y5 m1 0 (fun _ => false) from HM1_5.out).kept hg2 (fun e => map_ne_row HM1_5.out NC5.out.r2 _ e.symm rfl))
       have HM2_6 := Lib.hid ((show SetZ Y5 m2 0 (fun _ => false) from HM2_5.out).kept hg2 (fun e => map_ne_row HM2_5.out NC5.out.r2 _ e.symm rfl))
       have NC6 := Lib.hid hN2
       have y0 := NC6.out.hbx.cell 0
       have y1 := NC6.out.lbx.cell 0
       have yl := NC6.out.hbx.lt
       have yl1 := NC6.out.lbx.lt
       have yf := NC6.out.hbx.frozen 0
       have yf1 := NC6.out.lbx.frozen 0
       simp only [List.getElem?_cons_zero] at y0 y1
       refine stepAppS rfl _ _ 75 75 rfl _ _ _ _ rfl rfl hr2 ?_
       clear hr2 hN2 hg2 NC5 HS2_5 HM1_5 HM2_5
       refine hK.out _ _ ?_ ?_
       ·exact fun _ => ⟨NC6.out.hbx.cell 0, NC6.out.lbx.cell 0⟩
       clear hK K
       try simp only [Act.put, List.setIfInBounds_toArray, List.set_cons_zero, List.set_cons_succ]
       refine till_ready (rs := [8]) (by kernel_rfl) (by simp) ?_
       refine TillAll.cons (iatLS (iatSS (iatSS (iatSS (iatSS (iatSS (iatSS (iatSS (iatSS iatZS))))))))) (fun K hK => ?_) TillAll.nil
       go_simp
       refine hK.out _ _ ?_ ?_
       ·exact fun h => nomatch (show (true : Bool) = false from h)
       clear hK K
       try simp only [Act.put, List.setIfInBounds_toArray, List.set_cons_zero, List.set_cons_succ]
       refine till_ready (rs := [9]) (by kernel_rfl) (by simp) ?_
       refine TillAll.cons (iatLS (iatSS (iatSS (iatSS (iatSS (iatSS (iatSS (iatSS (iatSS (iatSS iatZS)))))))))) (fun K hK => ?_) TillAll.nil
       go_simp
       refine hK.out _ _ ?_ ?_
       ·exact fun h => nomatch (show (true : Bool) = false from h)
       clear hK K
       try simp only [Act.put, List.setIfInBounds_toArray, List.set_cons_zero, List.set_cons_succ]
       refine till_done (by kernel_rfl) ?_ _
       obtain ⟨hNf, hbf⟩ := NC6.out.fin HM1_6.out HM2_6.out hne12 hFm1 hFm2 Hp.out Hi1.out Hi2.out Hne.out hbl hBF
       have HNf := Lib.hid hNf
       clear hNf y0 y1 yl yl1 yf yf1
       generalize hWf : World.setCell (World.setCell Y6 _ _) _ _ = Yf at HNf hbf ⊢
       clear hWf
       go_wp2_with (fail)
       exact ⟨⟨k + 1, b1, d1, b2, d2, _, _, by omega, by go_num, HNf, hbf⟩, by simp [RowKit.intOf]; omega⟩
      ·
       go_simp
       have NC4 := Lib.hid (NC3.out.alloc hBF (.cells #[.map (some m2)] 79))
       have HM1_4 := Lib.hid (HM1_3.out.kept (World.grownBy_alloc Y3 (.cells #[.map (some m2)] 79) none) (by simp))
       have HM2_4 := Lib.hid (HM2_3.out.kept (World.grownBy_alloc Y3 (.cells #[.map (some m2)] 79) none) (by simp))
       have HS1_4 := Lib.hid (HS1_3.out.alloc (.cells #[.map (some m2)] 79))
       have HS2_4 := Lib.hid (Blk.new Y3 79 #[.map (some m2)])
       obtain ⟨s2, hs2⟩ : ∃ q, Hid (Y3.heap.size = q) := ⟨_, Lib.hid rfl⟩
       have hFs2 : F ≤ s2 := by rw [← hs2.out]; exact NC3.out.hf
       rw [hs2.out] at HS2_4 ⊢
       generalize hW4 : World.alloc Y3 _ = Y4 at NC4 HM1_4 HM2_4 HS1_4 HS2_4 ⊢
       clear hW4 NC3 HM1_3 HM2_3 HS1_3
       refine hK.out _ _ ?_ ?_
       ·exact fun _ => ⟨NC4.out.hbx.cell 0, NC4.out.lbx.cell 0⟩
       clear hK K
       try simp only [Act.put, List.setIfInBounds_toArray, List.set_cons_zero, List.set_cons_succ]
       refine till_ready (rs := [3]) (by kernel_rfl) (by simp) ?_
       refine TillAll.cons (iatLS (iatSS (iatSS (iatSS iatZS)))) (fun K hK => ?_) (TillAll.nil)
       obtain ⟨b1, d1, Y5, hr1, hN1, hg1⟩ := NbC.app1 (W := Y4.drew) NC4.out.drew hBF m1 s1 HS1_4.out hk1000
       have HM1_5 := Lib.hid ((show SetZ Y4.drew m1 0 (fun _ => false) from HM1_4.out).kept hg1 (fun e => map_ne_row HM1_4.out NC4.out.r1 _ e.symm rfl))
       have HM2_5 := Lib.hid ((show SetZ Y4.drew m2 0 (fun _ => false) from HM2_4.out).kept hg1 (fun e => map_ne_row HM2_4.out NC4.out.r1 _ e.symm rfl))
       have HS2_5 := Lib.hid ((show Blk Y4.drew s2 79 [.map (some m2)] from HS2_4.out).kept hg1 (fun e => by have := hlo1.out s2 e.symm; omega))
       have NC5 := Lib.hid hN1
       refine stepAppS rfl _ _ 75 75 rfl _ _ _ _ rfl rfl hr1 ?_
       clear hr1 hN1 hg1 NC4 HS1_4 HM1_4 HM2_4 HS2_4
       refine hK.out _ _ ?_ ?_
       ·exact fun _ => ⟨NC5.out.hbx.cell 0, NC5.out.lbx.cell 0⟩
       clear hK K
       try simp only [Act.put, List.setIfInBounds_toArray, List.set_cons_zero, List.set_cons_succ]
       refine till_ready (rs := [7]) (by kernel_rfl) (by simp) ?_
       refine TillAll.cons (iatLS (iatSS (iatSS (iatSS (iatSS (iatSS (iatSS (iatSS iatZS)))))))) (fun K hK => ?_) (TillAll.nil)
       obtain ⟨b2, d2, Y6, hr2, hN2, hg2⟩ := NbC.app2 (W := Y5) NC5.out hBF m2 s2 HS2_5.out hk1000
       have HM1_6 := Lib.hid ((show SetZ Y5 m1 0 (fun _ => false) from HM1_5.out).kept hg2 (fun e => map_ne_row HM1_5.out NC5.out.r2 _ e.symm rfl))
       have HM2_6 := Lib.hid ((show SetZ Y5 m2 0 (fun _ => false) from HM2_5.out).kept hg2 (fun e => map_ne_row HM2_5.out NC5.out.r2 _ e.symm rfl))
       have NC6 := Lib.hid hN2
       have y0 := NC6.out.hbx.cell 0
       have y1 := NC6.out.lbx.cell 0
       have yl := NC6.out.hbx.lt
       have yl1 := NC6.out.lbx.lt
       have yf := NC6.out.hbx.frozen 0
       have yf1 := NC6.out.lbx.frozen 0
       simp only [List.getElem?_cons_zero] at y0 y1
       refine stepAppS rfl _ _ 75 75 rfl _ _ _ _ rfl rfl hr2 ?_
       clear hr2 hN2 hg2 NC5 HS2_5 HM1_5 HM2_5
       refine hK.out _ _ ?_ ?_
       ·exact fun _ => ⟨NC6.out.hbx.cell 0, NC6.out.lbx.cell 0⟩
       clear hK K
       try simp only [Act.put, List.setIfInBounds_toArray, List.set_cons_zero, List.set_cons_succ]
       refine till_ready (rs := [8]) (by kernel_rfl) (by simp) ?_
       refine TillAll.cons (iatLS (iatSS (iatSS (iatSS (iatSS (iatSS (iatSS (iatSS (iatSS iatZS))))))))) (fun K hK => ?_) TillAll.nil
       go_simp
       refine hK.out _ _ ?_ ?_
       ·exact fun h => nomatch (show (true : Bool) = false from h)
       clear hK K
       try simp only [Act.put, List.setIfInBounds_toArray, List.set_cons_zero, List.set_cons_succ]
       refine till_ready (rs := [9]) (by kernel_rfl) (by simp) ?_
       refine TillAll.cons (iatLS (iatSS (iatSS (iatSS (iatSS (iatSS (iatSS (iatSS (iatSS (iatSS iatZS)))))))))) (fun K hK => ?_) TillAll.nil
       go_simp
       refine hK.out _ _ ?_ ?_
       ·exact fun h => nomatch (show (true : Bool) = false from h)
       clear hK K
       try simp only [Act.put, List.setIfInBounds_toArray, List.set_cons_zero, List.set_cons_succ]
       refine till_done (by kernel_rfl) ?_ _
       obtain ⟨hNf, hbf⟩ := NC6.out.fin HM1_6.out HM2_6.out hne12 hFm1 hFm2 Hp.out Hi1.out Hi2.out Hne.out hbl hBF
       have HNf := Lib.hid hNf
       clear hNf y0 y1 yl yl1 yf yf1
       generalize hWf : World.setCell (World.setCell Y6 _ _) _ _ = Yf at HNf hbf ⊢
       clear hWf
       go_wp2_with (fail)
       exact ⟨⟨k + 1, b1, d1, b2, d2, _, _, by omega, by go_num, HNf, hbf⟩, by simp [RowKit.intOf]; omega⟩
     ·
      go_simp
      have NC3 := Lib.hid (NC2.out.alloc hBF (.cells #[.map (some m2)] 79))
      have HM1_3 := Lib.hid (HM1_2.out.kept (World.grownBy_alloc Y2 (.cells #[.map (some m2)] 79) none) (by simp))
      have HM2_3 := Lib.hid (HM2_2.out.kept (World.grownBy_alloc Y2 (.cells #[.map (some m2)] 79) none) (by simp))
      have HS2_3 := Lib.hid (Blk.new Y2 79 #[.map (some m2)])
      obtain ⟨s2, hs2⟩ : ∃ q, Hid (Y2.heap.size = q) := ⟨_, Lib.hid rfl⟩
      have hFs2 : F ≤ s2 := by rw [← hs2.out]; exact NC2.out.hf
      rw [hs2.out] at HS2_3 ⊢
      generalize hW3 : World.alloc Y2 _ = Y3 at NC3 HM1_3 HM2_3 HS2_3 ⊢
      clear hW3 NC2 HM1_2 HM2_2
      refine hK.out _ _ ?_ ?_
      ·exact fun _ => ⟨NC3.out.hbx.cell 0, NC3.out.lbx.cell 0⟩
      clear hK K
      try simp only [Act.put, List.setIfInBounds_toArray, List.set_cons_zero, List.set_cons_succ]
      refine till_ready (rs := [2]) (by kernel_rfl) (by simp) ?_
      refine TillAll.cons (iatLS (iatSS (iatSS iatZS))) (fun K hK => ?_) (TillAll.nil)
      go_simp
      have NC4 := Lib.hid (NC3.out.alloc hBF (.cells #[.map (some m1)] 79))
      have HM1_4 := Lib.hid (HM1_3.out.kept (World.grownBy_alloc Y3 (.cells #[.map (some m1)] 79) none) (by simp))
      have HM2_4 := Lib.hid (HM2_3.out.kept (World.grownBy_alloc Y3 (.cells #[.map (some m1)] 79) none) (by simp))
      have HS2_4 := Lib.hid (HS2_3.out.alloc (.cells #[.map (some m1)] 79))
      have HS1_4 := Lib.hid (Blk.new Y3 79 #[.map (some m1)])
      obtain ⟨s1, hs1⟩ : ∃ q, Hid (Y3.heap.size = q) := ⟨_, Lib.hid rfl⟩
      have hFs1 : F ≤ s1 := by rw [← hs1.out]; exact NC3.out.hf
      rw [hs1.out] at HS1_4 ⊢
      generalize hW4 : World.alloc Y3 _ = Y4 at NC4 HM1_4 HM2_4 HS2_4 HS1_4 ⊢
      clear hW4 NC3 HM1_3 HM2_3 HS2_3
      refine hK.out _ _ ?_ ?_
      ·exact fun _ => ⟨NC4.out.hbx.cell 0, NC4.out.lbx.cell 0⟩
      clear hK K
      try simp only [Act.put, List.setIfInBounds_toArray, List.set_cons_zero, List.set_cons_succ]
      refine till_ready (rs := [3]) (by kernel_rfl) (by simp) ?_
      refine TillAll.cons (iatLS (iatSS (iatSS (iatSS iatZS)))) (fun K hK => ?_) (TillAll.nil)
      obtain ⟨b1, d1, Y5, hr1, hN1, hg1⟩ := NbC.app1 (W := Y4.drew) NC4.out.drew hBF m1 s1 HS1_4.out hk1000
      have HM1_5 := Lib.hid ((show SetZ Y4.drew m1 0 (fun _ => false) from HM1_4.out).kept hg1 (fun e => map_ne_row HM1_4.out NC4.out.r1 _ e.symm rfl))
      have HM2_5 := Lib.hid ((show SetZ Y4.drew m2 0 (fun _ => false) from HM2_4.out).kept hg1 (fun e => map_ne_row HM2_4.out NC4.out.r1 _ e.symm rfl))
      have HS2_5 := Lib.hid ((show Blk Y4.drew s2 79 [.map (some m2)] from HS2_4.out).kept hg1 (fun e => by have := hlo1.out s2 e.symm; omega))
      have NC5 := Lib.hid hN1
      refine stepAppS rfl _ _ 75 75 rfl _ _ _ _ rfl rfl hr1 ?_
      clear hr1 hN1 hg1 NC4 HS1_4 HM1_4 HM2_4 HS2_4
      refine hK.out _ _ ?_ ?_
      ·exact fun _ => ⟨NC5.out.hbx.cell 0, NC5.out.lbx.cell 0⟩
      clear hK K
      try simp only [Act.put, List.setIfInBounds_toArray, List.set_cons_zero, List.set_cons_succ]
      refine till_ready (rs := [7]) (by kernel_rfl) (by simp) ?_
      refine TillAll.cons (iatLS (iatSS (iatSS (iatSS (iatSS (iatSS (iatSS (iatSS iatZS)))))))) (fun K hK => ?_) (TillAll.nil)
      obtain ⟨b2, d2, Y6, hr2, hN2, hg2⟩ := NbC.app2 (W := Y5) NC5.out hBF m2 s2 HS2_5.out hk1000
      have HM1_6 := Lib.hid ((show SetZ Y5 m1 0 (fun _ => false) from HM1_5.out).kept hg2 (fun e => map_ne_row HM1_5.out NC5.out.r2 _ e.symm rfl))
      have HM2_6 := Lib.hid ((show SetZ Y5 m2 0 (fun _ => false) from HM2_5.out).kept hg2 (fun e => map_ne_row HM2_5.out NC5.out.r2 _ e.symm rfl))
      have NC6 := Lib.hid hN2
      have y0 := NC6.out.hbx.cell 0
      have y1 := NC6.out.lbx.cell 0
      have yl := NC6.out.hbx.lt
      have yl1 := NC6.out.lbx.lt
      have yf := NC6.out.hbx.frozen 0
      have yf1 := NC6.out.lbx.frozen 0
      simp only [List.getElem?_cons_zero] at y0 y1
      refine stepAppS rfl _ _ 75 75 rfl _ _ _ _ rfl rfl hr2 ?_
      clear hr2 hN2 hg2 NC5 HS2_5 HM1_5 HM2_5
      refine hK.out _ _ ?_ ?_
      ·exact fun _ => ⟨NC6.out.hbx.cell 0, NC6.out.lbx.cell 0⟩
      clear hK K
      try simp only [Act.put, List.setIfInBounds_toArray, List.set_cons_zero, List.set_cons_succ]
      refine till_ready (rs := [8]) (by kernel_rfl) (by simp) ?_
      refine TillAll.cons (iatLS (iatSS (iatSS (iatSS (iatSS (iatSS (iatSS (iatSS (iatSS iatZS))))))))) (fun K hK => ?_) TillAll.nil
      go_simp
      refine hK.out _ _ ?_ ?_
      ·exact fun h => nomatch (show (true : Bool) = false from h)
      clear hK K
      try simp only [Act.put, List.setIfInBounds_toArray, List.set_cons_zero, List.set_cons_succ]
      refine till_ready (rs := [9]) (by kernel_rfl) (by simp) ?_
      refine TillAll.cons (iatLS (iatSS (iatSS (iatSS (iatSS (iatSS (iatSS (iatSS (iatSS (iatSS iatZS)))))))))) (fun K hK => ?_) TillAll.nil
      go_simp
      refine hK.out _ _ ?_ ?_
      ·exact fun h => nomatch (show (true : Bool) = false from h)
      clear hK K
      try simp only [Act.put, List.setIfInBounds_toArray, List.set_cons_zero, List.set_cons_succ]
      refine till_done (by kernel_rfl) ?_ _
      obtain ⟨hNf, hbf⟩ := NC6.out.fin HM1_6.out HM2_6.out hne12 hFm1 hFm2 Hp.out Hi1.out Hi2.out Hne.out hbl hBF
      have HNf := Lib.hid hNf
      clear hNf y0 y1 yl yl1 yf yf1
      generalize hWf : World.setCell (World.setCell Y6 _ _) _ _ = Yf at HNf hbf ⊢
      clear hWf
      go_wp2_with (fail)
      exact ⟨⟨k + 1, b1, d1, b2, d2, _, _, by omega, by go_num, HNf, hbf⟩, by simp [RowKit.intOf]; omega⟩
   ·
    go_simp
    have NC1 := Lib.hid (NC0.out.alloc hBF (.map #[] 0))
    have HM2_1 := Lib.hid (SetZ.new U)
    obtain ⟨m2, hm2⟩ : ∃ q, Hid (U.heap.size = q) := ⟨_, Lib.hid rfl⟩
    have hFm2 : F ≤ m2 := by rw [← hm2.out]; exact NC0.out.hf
    rw [hm2.out] at HM2_1 ⊢
    generalize hW1 : World.alloc U _ = Y1 at NC1 HM2_1 ⊢
    clear hW1 NC0
    refine hK.out _ _ ?_ ?_
    ·exact fun _ => ⟨NC1.out.hbx.cell 0, NC1.out.lbx.cell 0⟩
    clear hK K
    try simp only [Act.put, List.setIfInBounds_toArray, List.set_cons_zero, List.set_cons_succ]
    refine till_ready (rs := [1, 6]) (by kernel_rfl) (by simp) ?_
    refine TillAll.cons (iatLS (iatSS iatZS)) (fun K hK => ?_) (TillAll.cons (iatLS (iatSS (iatSS (iatSS (iatSS (iatSS (iatSS iatZS))))))) (fun K hK => ?_) (TillAll.nil))
    ·
     go_simp
     have NC2 := Lib.hid (NC1.out.alloc hBF (.map #[] 0))
     have HM2_2 := Lib.hid (HM2_1.out.kept (World.grownBy_alloc Y1 (.map #[] 0) none) (by simp))
     have HM1_2 := Lib.hid (SetZ.new Y1)
     obtain ⟨m1, hm1⟩ : ∃ q, Hid (Y1.heap.size = q) := ⟨_, Lib.hid rfl⟩
     have hne12 : m2 ≠ m1 := by have h1 := HM2_1.out.lt; have h2 := hm1.out; omega
     have hFm1 : F ≤ m1 := by rw [← hm1.out]; exact NC1.out.hf
     rw [hm1.out] at HM1_2 ⊢
     generalize hW2 : World.alloc Y1 _ = Y2 at NC2 HM2_2 HM1_2 ⊢
     clear hW2 NC1 HM2_1
     refine hK.out _ _ ?_ ?_
     ·exact fun _ => ⟨NC2.out.hbx.cell 0, NC2.out.lbx.cell 0⟩
     clear hK K
     try simp only [Act.put, List.setIfInBounds_toArray, List.set_cons_zero, List.set_cons_succ]
     refine till_ready (rs := [2, 6]) (by kernel_rfl) (by simp) ?_
     refine TillAll.cons (iatLS (iatSS (iatSS iatZS))) (fun K hK => ?_) (TillAll.cons (iatLS (iatSS (iatSS (iatSS (iatSS (iatSS (iatSS iatZS))))))) (fun K hK => ?_) (TillAll.nil))
     ·
      go_simp
      have NC3 := Lib.hid (NC2.out.alloc hBF (.cells #[.map (some m1)] 79))
      have HM2_3 := Lib.hid (HM2_2.out.kept (World.grownBy_alloc Y2 (.cells #[.map (some m1)] 79) none) (by simp))
      have HM1_3 := Lib.hid (HM1_2.out.kept (World.grownBy_alloc Y2 (.cells #[.map (some m1)] 79) none) (by simp))
      have HS1_3 := Lib.hid (Blk.new Y2 79 #[.map (some m1)])
      obtain ⟨s1, hs1⟩ : ∃ q, Hid (Y2.heap.size = q) := ⟨_, Lib.hid rfl⟩
      have hFs1 : F ≤ s1 := by rw [← hs1.out]; exact NC2.out.hf
      rw [hs1.out] at HS1_3 ⊢
      generalize hW3 : World.alloc Y2 _ = Y3 at NC3 HM2_3 HM1_3 HS1_3 ⊢
      clear hW3 NC2 HM2_2 HM1_2
      refine hK.out _ _ ?_ ?_
      ·exact fun _ => ⟨NC3.out.hbx.cell 0, NC3.out.lbx.cell 0⟩
      clear hK K
      try simp only [Act.put, List.setIfInBounds_toArray, List.set_cons_zero, List.set_cons_succ]
      refine till_ready (rs := [3, 6]) (by kernel_rfl) (by simp) ?_
      refine TillAll.cons (iatLS (iatSS (iatSS (iatSS iatZS)))) (fun K hK => ?_) (TillAll.cons (iatLS (iatSS (iatSS (iatSS (iatSS (iatSS (iatSS iatZS))))))) (fun K hK => ?_) (TillAll.nil))
      ·
       obtain ⟨b1, d1, Y4, hr1, hN1, hg1⟩ := NbC.app1 (W := Y3.drew) NC3.out.drew hBF m1 s1 HS1_3.out hk1000
       have HM2_4 := Lib.hid ((show SetZ Y3.drew m2 0 (fun _ => false) from HM2_3.out).kept hg1 (fun e => map_ne_row HM2_3.out NC3.out.r1 _ e.symm rfl))
       have HM1_4 := Lib.hid ((show SetZ Y3.drew m1 0 (fun _ => false) from HM1_3.out).kept hg1 (fun e => map_ne_row HM1_3.out NC3.out.r1 _ e.symm rfl))
       have NC4 := Lib.hid hN1
       refine stepAppS rfl _ _ 75 75 rfl _ _ _ _ rfl rfl hr1 ?_
       clear hr1 hN1 hg1 NC3 HS1_3 HM2_3 HM1_3
       refine hK.out _ _ ?_ ?_
       ·exact fun _ => ⟨NC4.out.hbx.cell 0, NC4.out.lbx.cell 0⟩
       clear hK K
       try simp only [Act.put, List.setIfInBounds_toArray, List.set_cons_zero, List.set_cons_succ]
       refine till_ready (rs := [6]) (by kernel_rfl) (by simp) ?_
       refine TillAll.cons (iatLS (iatSS (iatSS (iatSS (iatSS (iatSS (iatSS iatZS))))))) (fun K hK => ?_) (TillAll.nil)
       go_simp
       have NC5 := Lib.hid (NC4.out.alloc hBF (.cells #[.map (some m2)] 79))
       have HM2_5 := Lib.hid (HM2_4.out.kept (World.grownBy_alloc Y4 (.cells #[.map (some m2)] 79) none) (by simp))
       have HM1_5 := Lib.hid (HM1_4.out.kept (World.grownBy_alloc Y4 (.cells #[.map (some m2)] 79) none) (by simp))
       have HS2_5 := Lib.hid (Blk.new Y4 79 #[.map (some m2)])
       obtain ⟨s2, hs2⟩ : ∃ q, Hid (Y4.heap.size = q) := ⟨_, Lib.hid rfl⟩
       have hFs2 : F ≤ s2 := by rw [← hs2.out]; exact NC4.out.hf
       rw [hs2.out] at HS2_5 ⊢
       generalize hW5 : World.alloc Y4 _ = Y5 at NC5 HM2_5 HM1_5 HS2_5 ⊢
       clear hW5 NC4 HM2_4 HM1_4
       refine hK.out _ _ ?_ ?_
       ·exact fun _ => ⟨NC5.out.hbx.cell 0, NC5.out.lbx.cell 0⟩
       clear hK K
       try simp only [Act.put, List.setIfInBounds_toArray, List.set_cons_zero, List.set_cons_succ]
       refine till_ready (rs := [7]) (by kernel_rfl) (by simp) ?_
       refine TillAll.cons (iatLS (iatSS (iatSS (iatSS (iatSS (iatSS (iatSS (iatSS iatZS)))))))) (fun K hK => ?_) (TillAll.nil)
       obtain ⟨b2, d2, Y6, hr2, hN2, hg2⟩ := NbC.app2 (W := Y5) NC5.out hBF m2 s2 HS2_5.out hk1000
       have HM2_6 := Lib.hid ((show SetZ Y5 m2 0 (fun _ => false) from HM2_5.out).kept hg2 (fun e => map_ne_row HM2_5.out NC5.out.r2 _ e.symm rfl))
       have HM1_6 := Lib.hid ((show SetZ Y5 m1 0 (fun _ => false) from HM1_5.out).kept hg2 (fun e => map_ne_row HM1_5.out NC5.out.r2 _ e.symm rfl))
       have NC6 := Lib.hid hN2
       have y0 := NC6.out.hbx.cell 0
       have y1 := NC6.out.lbx.cell 0
       have yl := NC6.out.hbx.lt
       have yl1 := NC6.out.lbx.lt
       have yf := NC6.out.hbx.frozen 0
       have yf1 := NC6.out.lbx.frozen 0
       simp only [List.getElem?_cons_zero] at y0 y1
       refine stepAppS rfl _ _ 75 75 rfl _ _ _ _ rfl rfl hr2 ?_
       clear hr2 hN2 hg2 NC5 HS2_5 HM2_5 HM1_5
       refine hK.out _ _ ?_ ?_
       ·exact fun _ => ⟨NC6.out.hbx.cell 0, NC6.out.lbx.cell 0⟩
       clear hK K
       try simp only [Act.put, List.setIfInBounds_toArray, List.set_cons_zero, List.set_cons_succ]
       refine till_ready (rs := [8]) (by kernel_rfl) (by simp) ?_
       refine TillAll.cons (iatLS (iatSS (iatSS (iatSS (iatSS (iatSS (iatSS (iatSS (iatSS iatZS))))))))) (fun K hK => ?_) TillAll.nil
       go_simp
       refine hK.out _ _ ?_ ?_
       ·exact fun h => nomatch (show (true : Bool) = false from h)
       clear hK K
       try simp only [Act.put, List.setIfInBounds_toArray, List.set_cons_zero, List.set_cons_succ]
       refine till_ready (rs := [9]) (by kernel_rfl) (by simp) ?_
       refine TillAll.cons (iatLS (iatSS (iatSS (iatSS (iatSS (iatSS (iatSS (iatSS (iatSS (iatSS iatZS)))))))))) (fun K hK => ?_) TillAll.nil
       go_simp
       refine hK.out _ _ ?_ ?_
       ·exact fun h => nomatch (show (true : Bool) = false from h)
       clear hK K
       try simp only [Act.put, List.setIfInBounds_toArray, List.set_cons_zero, List.set_cons_succ]
       refine till_done (by kernel_rfl) ?_ _
       obtain ⟨hNf, hbf⟩ := NC6.out.fin HM1_6.out HM2_6.out hne12.symm hFm1 hFm2 Hp.out Hi1.out Hi2.out Hne.out hbl hBF
       have HNf := Lib.hid hNf
       clear hNf y0 y1 yl yl1 yf yf1
       generalize hWf : World.setCell (World.setCell Y6 _ _) _ _ = Yf at HNf hbf ⊢
       clear hWf
       go_wp2_with (fail)
       exact ⟨⟨k + 1, b1, d1, b2, d2, _, _, by omega, by go_num, HNf, hbf⟩, by simp [RowKit.intOf]; omega⟩
      ·
       go_simp
       have NC4 := Lib.hid (NC3.out.alloc hBF (.cells #[.map (some m2)] 79))
       have HM2_4 := Lib.hid (HM2_3.out.kept (World.grownBy_alloc Y3 (.cells #[.map (some m2)] 79) none) (by simp))
       have HM1_4 := Lib.hid (HM1_3.out.kept (World.grownBy_alloc Y3 (.cells #[.map (some m2)] 79) none) (by simp))
       have HS1_4 := Lib.hid (HS1_3.out.alloc (.cells #[.map (some m2)] 79))
       have HS2_4 := Lib.hid (Blk.new Y3 79 #[.map (some m2)])
       obtain ⟨s2, hs2⟩ : ∃ q, Hid (Y3.heap.size = q) := ⟨_, Lib.hid rfl⟩
       have hFs2 : F ≤ s2 := by rw [← hs2.out]; exact NC3.out.hf
       rw [hs2.out] at HS2_4 ⊢
       generalize hW4 : World.alloc Y3 _ = Y4 at NC4 HM2_4 HM1_4 HS1_4 HS2_4 ⊢
       clear hW4 NC3 HM2_3 HM1_3 HS1_3
       refine hK.out _ _ ?_ ?_
       ·exact fun _ => ⟨NC4.out.hbx.cell 0, NC4.out.lbx.cell 0⟩
       clear hK K
       try simp only [Act.put, List.setIfInBounds_toArray, List.set_cons_zero, List.set_cons_succ]
       refine till_ready (rs := [3]) (by kernel_rfl) (by simp) ?_
       refine TillAll.cons (iatLS (iatSS (iatSS (iatSS iatZS)))) (fun K hK => ?_) (TillAll.nil)
       obtain ⟨b1, d1, Y5, hr1, hN1, hg1⟩ := NbC.app1 (W := Y4.drew) NC4.out.drew hBF m1 s1 HS1_4.out hk1000
       have HM2_5 := Lib.hid ((show SetZ Y4.drew m2 0 (fun _ => false) from HM2_4.out).kept hg1 (fun e => map_ne_row HM2_4.out NC4.out.r1 _ e.symm rfl))
       have HM1_5 := Lib.hid ((show SetZ Y4.drew m1 0 (fun _ => false) from HM1_4.out).kept hg1 (fun e => map_ne_row HM1_4.out NC4.out.r1 _ e.symm rfl))
       have HS2_5 := Lib.hid ((show Blk Y4.drew s2 79 [.map (some m2)] from HS2_4.out).kept hg1 (fun e => by have := hlo1.out s2 e.symm; omega))
       have NC5 := Lib.hid hN1
       refine stepAppS rfl _ _ 75 75 rfl _ _ _ _ rfl rfl hr1 ?_
       clear hr1 hN1 hg1 NC4 HS1_4 HM2_4 HM1_4 HS2_4
       refine hK.out _ _ ?_ ?_
       ·exact fun _ => ⟨NC5.out.hbx.cell 0, NC5.out.lbx.cell 0⟩
       clear hK K
       try simp only [Act.put, List.setIfInBounds_toArray, List.set_cons_zero, List.set_cons_succ]
       refine till_ready (rs := [7]) (by kernel_rfl) (by simp) ?_
       refine TillAll.cons (iatLS (iatSS (iatSS (iatSS (iatSS (iatSS (iatSS (iatSS iatZS)))))))) (fun K hK => ?_) (TillAll.nil)
       obtain ⟨b2, d2, Y6, hr2, hN2, hg2⟩ := NbC.app2 (W := Y5) NC5.out hBF m2 s2 HS2_5.out hk1000
       have HM2_6 := Lib.hid ((show SetZ Y5 m2 0 (fun _ => false) from HM2_5.out).kept hg2 (fun e => map_ne_row HM2_5.out NC5.out.r2 _ e.symm rfl))
       have HM1_6 := Lib.hid ((show SetZ Y5 m1 0 (fun _ => false) from HM1_5.out).kept hg2 (fun e => map_ne_row HM1_5.out NC5.out.r2 _ e.symm rfl))
       have NC6 := Lib.hid hN2
       have y0 := NC6.out.hbx.cell 0
       have y1 := NC6.out.lbx.cell 0
       have yl := NC6.out.hbx.lt
       have yl1 := NC6.out.lbx.lt
       have yf := NC6.out.hbx.frozen 0
       have yf1 := NC6.out.lbx.frozen 0
       simp only [List.getElem?_cons_zero] at y0 y1
       refine stepAppS rfl _ _ 75 75 rfl _ _ _ _ rfl rfl hr2 ?_
       clear hr2 hN2 hg2 NC5 HS2_5 HM2_5 HM1_5
       refine hK.out _ _ ?_ ?_
       ·exact fun _ => ⟨NC6.out.hbx.cell 0, NC6.out.lbx.cell 0⟩
       clear hK K
       try simp only [Act.put, List.setIfInBounds_toArray, List.set_cons_zero, List.set_cons_succ]
       refine till_ready (rs := [8]) (by kernel_rfl) (by simp) ?_
       refine TillAll.cons (iatLS (iatSS (iatSS (iatSS (iatSS (iatSS (iatSS (iatSS (iatSS iatZS))))))))) (fun K hK => ?_) TillAll.nil
       go_simp
       refine hK.out _ _ ?_ ?_
       ·exact fun h => nomatch (show (true : Bool) = false from h)
       clear hK K
       try simp only [Act.put, List.setIfInBounds_toArray, List.set_cons_zero, List.set_cons_succ]
       refine till_ready (rs := [9]) (by kernel_rfl) (by simp) ?_
       refine TillAll.cons (iatLS (iatSS (iatSS (iatSS (iatSS (iatSS (iatSS (iatSS (iatSS (iatSS iatZS)))))))))) (fun K hK => ?_) TillAll.nil
       go_simp
       refine hK.out _ _ ?_ ?_
       ·exact fun h => nomatch (show (true : Bool) = false from h)
       clear hK K
       try simp only [Act.put, List.setIfInBounds_toArray, List.set_cons_zero, List.set_cons_succ]
       refine till_done (by kernel_rfl) ?_ _
       obtain ⟨hNf, hbf⟩ := NC6.out.fin HM1_6.out HM2_6.out hne12.symm hFm1 hFm2 Hp.out Hi1.out Hi2.out Hne.out hbl hBF
       have HNf := Lib.hid hNf
       clear hNf y0 y1 yl yl1 yf yf1
       generalize hWf : World.setCell (World.setCell Y6 _ _) _ _ = Yf at HNf hbf ⊢
       clear hWf
       go_wp2_with (fail)
       exact ⟨⟨k + 1, b1, d1, b2, d2, _, _, by omega, by go_num, HNf, hbf⟩, by simp [RowKit.intOf]; omega⟩
     ·
      go_simp
      have NC3 := Lib.hid (NC2.out.alloc hBF (.cells #[.map (some m2)] 79))
      have HM2_3 := Lib.hid (HM2_2.out.kept (World.grownBy_alloc Y2 (.cells #[.map (some m2)] 79) none) (by simp))
      have HM1_3 := Lib.hid (HM1_2.out.kept (World.grownBy_alloc Y2 (.cells #[.map (some m2)] 79) none) (by simp))
      have HS2_3 := Lib.hid (Blk.new Y2 79 #[.map (some m2)])
      obtain ⟨s2, hs2⟩ : ∃ q, Hid (Y2.heap.size = q) := ⟨_, Lib.hid rfl⟩
      have hFs2 : F ≤ s2 := by rw [← hs2.out]; exact NC2.out.hf
      rw [hs2.out] at HS2_3 ⊢
      generalize hW3 : World.alloc Y2 _ = Y3 at NC3 HM2_3 HM1_3 HS2_3 ⊢
      clear hW3 NC2 HM2_2 HM1_2
      refine hK.out _ _ ?_ ?_
      ·exact fun _ => ⟨NC3.out.hbx.cell 0, NC3.out.lbx.cell 0⟩
      clear hK K
      try simp only [Act.put, List.setIfInBounds_toArray, List.set_cons_zero, List.set_cons_succ]
      refine till_ready (rs := [2]) (by kernel_rfl) (by simp) ?_
      refine TillAll.cons (iatLS (iatSS (iatSS iatZS))) (fun K hK => ?_) (TillAll.nil)
      go_simp
      have NC4 := Lib.hid (NC3.out.alloc hBF (.cells #[.map (some m1)] 79))
      have HM2_4 := Lib.hid (HM2_3.out.kept (World.grownBy_alloc Y3 (.cells #[.map (some m1)] 79) none) (by simp))
      have HM1_4 := Lib.hid (HM1_3.out.kept (World.grownBy_alloc Y3 (.cells #[.map (some m1)] 79) none) (by simp))
      have HS2_4 := Lib.hid (HS2_3.out.alloc (.cells #[.map (some m1)] 79))
      have HS1_4 := Lib.hid (Blk.new Y3 79 #[.map (some m1)])
      obtain ⟨s1, hs1⟩ : ∃ q, Hid (Y3.heap.size = q) := ⟨_, Lib.hid rfl⟩
      have hFs1 : F ≤ s1 := by rw [← hs1.out]; exact NC3.out.hf
      rw [hs1.out] at HS1_4 ⊢
      generalize hW4 : World.alloc Y3 _ = Y4 at NC4 HM2_4 HM1_4 HS2_4 HS1_4 ⊢
      clear hW4 NC3 HM2_3 HM1_3 HS2_3
      refine hK.out _ _ ?_ ?_
      ·exact fun _ => ⟨NC4.out.hbx.cell 0, NC4.out.lbx.cell 0⟩
      clear hK K
      try simp only [Act.put, List.setIfInBounds_toArray, List.set_cons_zero, List.set_cons_succ]
      refine till_ready (rs := [3]) (by kernel_rfl) (by simp) ?_
      refine TillAll.cons (iatLS (iatSS (iatSS (iatSS iatZS)))) (fun K hK => ?_) (TillAll.nil)
      obtain ⟨b1, d1, Y5, hr1, hN1, hg1⟩ := NbC.app1 (W := Y4.drew) NC4.out.drew hBF m1 s1 HS1_4.out hk1000
      have HM2_5 := Lib.hid ((show SetZ Y4.drew m2 0 (fun _ => false) from HM2_4.out).kept hg1 (fun e => map_ne_row HM2_4.out NC4.out.r1 _ e.symm rfl))
      have HM1_5 := Lib.hid ((show SetZ Y4.drew m1 0 (fun _ => false) from HM1_4.out).kept hg1 (fun e => map_ne_row HM1_4.out NC4.out.r1 _ e.symm rfl))
      have HS2_5 := Lib.hid ((show Blk Y4.drew s2 79 [.map (some m2)] from HS2_4.out).kept hg1 (fun e => by have := hlo1.out s2 e.symm; omega))
      have NC5 := Lib.hid hN1
      refine stepAppS rfl _ _ 75 75 rfl _ _ _ _ rfl rfl hr1 ?_
      clear hr1 hN1 hg1 NC4 HS1_4 HM2_4 HM1_4 HS2_4
      refine hK.out _ _ ?_ ?_
      ·exact fun _ => ⟨NC5.out.hbx.cell 0, NC5.out.lbx.cell 0⟩
      clear hK K
      try simp only [Act.put, List.setIfInBounds_toArray, List.set_cons_zero, List.set_cons_succ]
      refine till_ready (rs := [7]) (by kernel_rfl) (by simp) ?_
      refine TillAll.cons (iatLS (iatSS (iatSS (iatSS (iatSS (iatSS (iatSS (iatSS iatZS)))))))) (fun K hK => ?_) (TillAll.nil)
      obtain ⟨b2, d2, Y6, hr2, hN2, hg2⟩ := NbC.app2 (W := Y5) NC5.out hBF m2 s2 HS2_5.out hk1000
      have HM2_6 := Lib.hid ((show SetZ Y5 m2 0 (fun _ => false) from HM2_5.out).kept hg2 (fun e => map_ne_row HM2_5.out NC5.out.r2 _ e.symm rfl))
      have HM1_6 := Lib.hid ((show SetZ Y5 m1 0 (fun _ => false) from HM1_5.out).kept hg2 (fun e => map_ne_row HM1_5.out NC5.out.r2 _ e.symm rfl))
      have NC6 := Lib.hid hN2
      have y0 := NC6.out.hbx.cell 0
      have y1 := NC6.out.lbx.cell 0
      have yl := NC6.out.hbx.lt
      have yl1 := NC6.out.lbx.lt
      have yf := NC6.out.hbx.frozen 0
      have yf1 := NC6.out.lbx.frozen 0
      simp only [List.getElem?_cons_zero] at y0 y1
      refine stepAppS rfl _ _ 75 75 rfl _ _ _ _ rfl rfl hr2 ?_
      clear hr2 hN2 hg2 NC5 HS2_5 HM2_5 HM1_5
      refine hK.out _ _ ?_ ?_
      ·exact fun _ => ⟨NC6.out.hbx.cell 0, NC6.out.lbx.cell 0⟩
      clear hK K
      try simp only [Act.put, List.setIfInBounds_toArray, List.set_cons_zero, List.set_cons_succ]
      refine till_ready (rs := [8]) (by kernel_rfl) (by simp) ?_
      refine TillAll.cons (iatLS (iatSS (iatSS (iatSS (iatSS (iatSS (iatSS (iatSS (iatSS iatZS))))))))) (fun K hK => ?_) TillAll.nil
      go_simp
      refine hK.out _ _ ?_ ?_
      ·exact fun h => nomatch (show (true : Bool) = false from h)
      clear hK K
      try simp only [Act.put, List.setIfInBounds_toArray, List.set_cons_zero, List.set_cons_succ]
      refine till_ready (rs := [9]) (by kernel_rfl) (by simp) ?_
      refine TillAll.cons (iatLS (iatSS (iatSS (iatSS (iatSS (iatSS (iatSS (iatSS (iatSS (iatSS iatZS)))))))))) (fun K hK => ?_) TillAll.nil
      go_simp
      refine hK.out _ _ ?_ ?_
      ·exact fun h => nomatch (show (true : Bool) = false from h)
      clear hK K
      try simp only [Act.put, List.setIfInBounds_toArray, List.set_cons_zero, List.set_cons_succ]
      refine till_done (by kernel_rfl) ?_ _
      obtain ⟨hNf, hbf⟩ := NC6.out.fin HM1_6.out HM2_6.out hne12.symm hFm1 hFm2 Hp.out Hi1.out Hi2.out Hne.out hbl hBF
      have HNf := Lib.hid hNf
      clear hNf y0 y1 yl yl1 yf yf1
      generalize hWf : World.setCell (World.setCell Y6 _ _) _ _ = Yf at HNf hbf ⊢
      clear hWf
      go_wp2_with (fail)
      exact ⟨⟨k + 1, b1, d1, b2, d2, _, _, by omega, by go_num, HNf, hbf⟩, by simp [RowKit.intOf]; omega⟩
    ·
     go_simp
     have NC2 := Lib.hid (NC1.out.alloc hBF (.cells #[.map (some m2)] 79))
     have HM2_2 := Lib.hid (HM2_1.out.kept (World.grownBy_alloc Y1 (.cells #[.map (some m2)] 79) none) (by simp))
     have HS2_2 := Lib.hid (Blk.new Y1 79 #[.map (some m2)])
     obtain ⟨s2, hs2⟩ : ∃ q, Hid (Y1.heap.size = q) := ⟨_, Lib.hid rfl⟩
     have hFs2 : F ≤ s2 := by rw [← hs2.out]; exact NC1.out.hf
     rw [hs2.out] at HS2_2 ⊢
     generalize hW2 : World.alloc Y1 _ = Y2 at NC2 HM2_2 HS2_2 ⊢
     clear hW2 NC1 HM2_1
     refine hK.out _ _ ?_ ?_
     ·exact fun _ => ⟨NC2.out.hbx.cell 0, NC2.out.lbx.cell 0⟩
     clear hK K
     try simp only [Act.put, List.setIfInBounds_toArray, List.set_cons_zero, List.set_cons_succ]
     refine till_ready (rs := [1]) (by kernel_rfl) (by simp) ?_
     refine TillAll.cons (iatLS (iatSS iatZS)) (fun K hK => ?_) (TillAll.nil)
     go_simp
     have NC3 := Lib.hid (NC2.out.alloc hBF (.map #[] 0))
     have HM2_3 := Lib.hid (HM2_2.out.kept (World.grownBy_alloc Y2 (.map #[] 0) none) (by simp))
     have HS2_3 := Lib.hid (HS2_2.out.alloc (.map #[] 0))
     have HM1_3 := Lib.hid (SetZ.new Y2)
     obtain ⟨m1, hm1⟩ : ∃ q, Hid (Y2.heap.size = q) := ⟨_, Lib.hid rfl⟩
     have hne12 : m2 ≠ m1 := by have h1 := HM2_2.out.lt; have h2 := hm1.out; omega
     have hFm1 : F ≤ m1 := by rw [← hm1.out]; exact NC2.out.hf
     rw [hm1.out] at HM1_3 ⊢
     generalize hW3 : World.alloc Y2 _ = Y3 at NC3 HM2_3 HS2_3 HM1_3 ⊢
     clear hW3 NC2 HM2_2 HS2_2
     refine hK.out _ _ ?_ ?_
     ·exact fun _ => ⟨NC3.out.hbx.cell 0, NC3.out.lbx.cell 0⟩
     clear hK K
     try simp only [Act.put, List.setIfInBounds_toArray, List.set_cons_zero, List.set_cons_succ]
     refine till_ready (rs := [2]) (by kernel_rfl) (by simp) ?_
     refine TillAll.cons (iatLS (iatSS (iatSS iatZS))) (fun K hK => ?_) (TillAll.nil)
     go_simp
     have NC4 := Lib.hid (NC3.out.alloc hBF (.cells #[.map (some m1)] 79))
     have HM2_4 := Lib.hid (HM2_3.out.kept (World.grownBy_alloc Y3 (.cells #[.map (some m1)] 79) none) (by simp))
     have HM1_4 := Lib.hid (HM1_3.out.kept (World.grownBy_alloc Y3 (.cells #[.map (some m1)] 79) none) (by simp))
     have HS2_4 := Lib.hid (HS2_3.out.alloc (.cells #[.map (some m1)] 79))
     have HS1_4 := Lib.hid (Blk.new Y3 79 #[.map (some m1)])
     obtain ⟨s1, hs1⟩ : ∃ q, Hid (Y3.heap.size = q) := ⟨_, Lib.hid rfl⟩
     have hFs1 : F ≤ s1 := by rw [← hs1.out]; exact NC3.out.hf
     rw [hs1.out] at HS1_4 ⊢
     generalize hW4 : World.alloc Y3 _ = Y4 at NC4 HM2_4 HM1_4 HS2_4 HS1_4 ⊢
     clear hW4 NC3 HM2_3 HM1_3 HS2_3
     refine hK.out _ _ ?_ ?_
     ·exact fun _ => ⟨NC4.out.hbx.cell 0, NC4.out.lbx.cell 0⟩
     clear hK K
     try simp only [Act.put, List.setIfInBounds_toArray, List.set_cons_zero, List.set_cons_succ]
     refine till_ready (rs := [3]) (by kernel_rfl) (by simp) ?_
     refine TillAll.cons (iatLS (iatSS (iatSS (iatSS iatZS)))) (fun K hK => ?_) (TillAll.nil)
     obtain ⟨b1, d1, Y5, hr1, hN1, hg1⟩ := NbC.app1 (W := Y4.drew) NC4.out.drew hBF m1 s1 HS1_4.out hk1000
     have HM2_5 := Lib.hid ((show SetZ Y4.drew m2 0 (fun _ => false) from HM2_4.out).kept hg1 (fun e => map_ne_row HM2_4.out NC4.out.r1 _ e.symm rfl))
     have HM1_5 := Lib.hid ((show SetZ Y4.drew m1 0 (fun _ => false) from HM1_4.out).kept hg1 (fun e => map_ne_row HM1_4.out NC4.out.r1 _ e.symm rfl))
     have HS2_5 := Lib.hid ((show Blk Y4.drew s2 79 [.map (some m2)] from HS2_4.out).kept hg1 (fun e => by have := hlo1.out s2 e.symm; omega))
     have NC5 := Lib.hid hN1
     refine stepAppS rfl _ _ 75 75 rfl _ _ _ _ rfl rfl hr1 ?_
     clear hr1 hN1 hg1 NC4 HS1_4 HM2_4 HM1_4 HS2_4
     refine hK.out _ _ ?_ ?_
     ·exact fun _ => ⟨NC5.out.hbx.cell 0, NC5.out.lbx.cell 0⟩
     clear hK K
     try simp only [Act.put, List.setIfInBounds_toArray, List.set_cons_zero, List.set_cons_succ]
     refine till_ready (rs := [7]) (by kernel_rfl) (by simp) ?_
     refine TillAll.cons (iatLS (iatSS (iatSS (iatSS (iatSS (iatSS (iatSS (iatSS iatZS)))))))) (fun K hK => ?_) (TillAll.nil)
     obtain ⟨b2, d2, Y6, hr2, hN2, hg2⟩ := NbC.app2 (W := Y5) NC5.out hBF m2 s2 HS2_5.out hk1000
     have HM2_6 := Lib.hid ((show SetZ Y5 m2 0 (fun _ => false) from HM2_5.out).kept hg2 (fun e => map_ne_row HM2_5.out NC5.out.r2 _ e.symm rfl))
     have HM1_6 := Lib.hid ((show SetZ Y5 m1 0 (fun _ => false) from HM1_5.out).kept hg2 (fun e => map_ne_row HM1_5.out NC5.out.r2 _ e.symm rfl))
     have NC6 := Lib.hid hN2
     have y0 := NC6.out.hbx.cell 0
     have y1 := NC6.out.lbx.cell 0
     have yl := NC6.out.hbx.lt
     have yl1 := NC6.out.lbx.lt
     have yf := NC6.out.hbx.frozen 0
     have yf1 := NC6.out.lbx.frozen 0
     simp only [List.getElem?_cons_zero] at y0 y1
     refine stepAppS rfl _ _ 75 75 rfl _ _ _ _ rfl rfl hr2 ?_
     clear hr2 hN2 hg2 NC5 HS2_5 HM2_5 HM1_5
     refine hK.out _ _ ?_ ?_
     ·exact fun _ => ⟨NC6.out.hbx.cell 0, NC6.out.lbx.cell 0⟩
     clear hK K
     try simp only [Act.put, List.setIfInBounds_toArray, List.set_cons_zero, List.set_cons_succ]
     refine till_ready (rs := [8]) (by kernel_rfl) (by simp) ?_
     refine TillAll.cons (iatLS (iatSS (iatSS (iatSS (iatSS (iatSS (iatSS (iatSS (iatSS iatZS))))))))) (fun K hK => ?_) TillAll.nil
     go_simp
     refine hK.out _ _ ?_ ?_
     ·exact fun h => nomatch (show (true : Bool) = false from h)
     clear hK K
     try simp only [Act.put, List.setIfInBounds_toArray, List.set_cons_zero, List.set_cons_succ]
     refine till_ready (rs := [9]) (by kernel_rfl) (by simp) ?_
     refine TillAll.cons (iatLS (iatSS (iatSS (iatSS (iatSS (iatSS (iatSS (iatSS (iatSS (iatSS iatZS)))))))))) (fun K hK => ?_) TillAll.nil
     go_simp
     refine hK.out _ _ ?_ ?_
     ·exact fun h => nomatch (show (true : Bool) = false from h)
     clear hK K
     try simp only [Act.put, List.setIfInBounds_toArray, List.set_cons_zero, List.set_cons_succ]
     refine till_done (by kernel_rfl) ?_ _
     obtain ⟨hNf, hbf⟩ := NC6.out.fin HM1_6.out HM2_6.out hne12.symm hFm1 hFm2 Hp.out Hi1.out Hi2.out Hne.out hbl hBF
     have HNf := Lib.hid hNf
     clear hNf y0 y1 yl yl1 yf yf1
     generalize hWf : World.setCell (World.setCell Y6 _ _) _ _ = Yf at HNf hbf ⊢
     clear hWf
     go_wp2_with (fail)
     exact ⟨⟨k + 1, b1, d1, b2, d2, _, _, by omega, by go_num, HNf, hbf⟩, by simp [RowKit.intOf]; omega⟩
  ·have hke : k = L := by omega
   have hkI : ¬ (k : Int) < (L : Int) := by omega
   rw [hke] at HN
   clear hke
   have HBu := Lib.hid (HBx.out.below hbr hbx9)
   have x0 := HBu.out.cell 0
   have xl := HBu.out.lt
   simp only [List.getElem?_cons_zero] at x0
   have HN0 : Hid (NbAt U base base lb L (1000 * (G 0).length) ba bc la lc p q (mbO f (G 0)) (mlO f (G 0))) := Lib.hid (by rw [hG0.out]; exact HN.out.congr (fun r x => rfl) (fun r x => rfl))
   clear HN
   go_wp2_with (fail)
   clear x0 xl
   go_loopw [29] (fun iv wr => ∃ i : Nat, i ≤ L ∧ iv = .int .i64 (i : Int) ∧ Hid (NbAt wr base base lb L (1000 * (G i).length) ba bc la lc p q (mbO f (G i)) (mlO f (G i))) ∧ Below base W0 wr) (fun iv _ => L - (RowKit.intOf iv).toNat)
   case atStart => exact ⟨0, Nat.zero_le _, rfl, HN0, hbr⟩
   case round =>
    clear HN0 hbr hkI HBu
    obtain ⟨i, hi, rfl, HN, hbr⟩ := hrel
    obtain ⟨U2, rfl⟩ : ∃ U, U = wr := ⟨_, rfl⟩
    have hb0 : Below W0.heap.size W0 U2 := by rw [hbase.out]; exact hbr
    by_cases hlt : i < L
    ·have hiI : (i : Int) < (L : Int) := by omega
     have hiI0 : (0 : Int) ≤ (i : Int) := by omega
     have hil : i < xa.length := by rw [HL.out]; exact hlt
     have hrow := HX3.out.grown hb0
     have hst := Lib.hid (hGs.out i hil)
     have hGi := hGl.out i (by omega)
     obtain ⟨b, bo, hb⟩ := hrow.at_ i (by rw [List.length_map]; exact hil)
     have cb := hrow.cell b bo hb i (by rw [List.length_map]; exact hil)
     rw [List.getElem_map] at cb
     have hm : xa[i] ∈ xa := List.getElem_mem hil
     obtain ⟨e, he⟩ : ∃ v, Hid (xa[i] = v) := ⟨_, Lib.hid rfl⟩
     rw [he.out] at cb hm hst
     have hblb := World.block_lt_of_cell? _ _ cb
     obtain ⟨ed, ea, ec⟩ := e
     change _ = some (Value.slice ea ed.length ec) at cb
     have hal : AltsI W0 ea ec ed := HX4.out _ hm
     have hdm : ed.length ≤ ec ∧ ec ≤ 9223372036854775807 := ⟨by have := hal.row.le; rwa [List.length_map] at this, hal.row.max⟩
     have hd30 : ed.length ≤ 30 := HF4.out _ hm
     have Hd5 := Lib.hid (HF5.out _ hm)
     dsimp only at Hd5
     have Hal := Lib.hid hal
     have hpl : (IrD.p ⟨ed, ea, ec⟩).length = ed.length := List.length_map _
     obtain ⟨OR, hOR⟩ : ∃ q, Hid (occR i (IrD.p ⟨ed, ea, ec⟩) = q) := ⟨_, Lib.hid rfl⟩
     have hOR0 : Hid (OR 0 = []) := Lib.hid (by rw [← hOR.out]; rfl)
     have hORs : Hid (∀ j (h : j < ed.length), OR (j + 1) = OR j ++ occA i ed[j].l ed[j].l.length) := Lib.hid (fun j h => by rw [← hOR.out, occR_snoc _ _ j (by rw [hpl]; exact h)]; unfold IrD.p; rw [List.getElem_map])
     have hORl : Hid (∀ j, j ≤ ed.length → (OR j).length ≤ j * 30) := Lib.hid (fun j h => by
      rw [← hOR.out]
      refine occR_len _ _ (fun a ha => ?_) j (by rw [hpl]; exact h)
      obtain ⟨y, hy, rfl⟩ := List.mem_map.1 ha
      exact (Hd5.out y hy).1)
     rw [hpl, hOR.out] at hst
     obtain ⟨M, hM⟩ : ∃ q, Hid (ed.length = q) := ⟨_, Lib.hid rfl⟩
     rw [hM.out] at cb hdm hd30 hst hORl
     have HN1 : Hid (NbAt U2 base base lb L (1000 * (G i ++ OR 0).length) ba bc la lc p q (mbO f (G i ++ OR 0)) (mlO f (G i ++ OR 0))) := Lib.hid (by rw [hOR0.out, List.append_nil]; exact HN.out)
     subst hb
     clear hm hal hrow hb0 HN hpl
     go_wp2_with (fail)
     clear cb hblb
     go_loopw [36] (fun jv wr => ∃ j : Nat, j ≤ M ∧ jv = .int .i64 (j : Int) ∧ Hid (NbAt wr base base lb L (1000 * (G i ++ OR j).length) ba bc la lc p q (mbO f (G i ++ OR j)) (mlO f (G i ++ OR j))) ∧ Below base W0 wr) (fun jv _ => M - (RowKit.intOf jv).toNat)
     case atStart => exact ⟨0, Nat.zero_le _, rfl, HN1, hbr⟩
     case round =>
      clear HN1 hbr
      obtain ⟨j, hj, rfl, HN, hbr⟩ := hrel
      obtain ⟨U3, rfl⟩ : ∃ U, U = wr := ⟨_, rfl⟩
      have hb0 : Below W0.heap.size W0 U3 := by rw [hbase.out]; exact hbr
      by_cases hltj : j < M
      ·have hjI : (j : Int) < (M : Int) := by omega
       have hjI0 : (0 : Int) ≤ (j : Int) := by omega
       have hjl : j < ed.length := by rw [hM.out]; exact hltj
       have hrow := Hal.out.row.grown hb0
       have hst2 := Lib.hid (hORs.out j hjl)
       have hORj := hORl.out j (by omega)
       obtain ⟨c, co, hc⟩ := hrow.at_ j (by rw [List.length_map]; exact hjl)
       have cc := hrow.cell c co hc j (by rw [List.length_map]; exact hjl)
       rw [List.getElem_map] at cc
       have hm : ed[j] ∈ ed := List.getElem_mem hjl
       obtain ⟨e, he⟩ : ∃ v, Hid (ed[j] = v) := ⟨_, Lib.hid rfl⟩
       rw [he.out] at cc hm hst2
       have hblc := World.block_lt_of_cell? _ _ cc
       obtain ⟨el, ela, elc⟩ := e
       change _ = some (Value.slice ela el.length elc) at cc
       dsimp only at hst2
       have hnd : Ints W0 ela elc el := Hal.out.nms _ hm
       have hem : el.length ≤ elc ∧ elc ≤ 9223372036854775807 := ⟨by have := hnd.le; rwa [List.length_map] at this, hnd.max⟩
       obtain ⟨h30, hok⟩ := Hd5.out _ hm
       dsimp only at h30 hok
       have Hnd := Lib.hid hnd
       have Hok := Lib.hid hok
       obtain ⟨OA, hOA⟩ : ∃ q, Hid (occA i el = q) := ⟨_, Lib.hid rfl⟩
       have hOA0 : Hid (OA 0 = []) := Lib.hid (by rw [← hOA.out]; rfl)
       have hOAs : Hid (∀ m (h : m < el.length), OA (m + 1) = OA m ++ (if el[m] < 0 then [(ruL el[m], i, el.drop (m + 1))] else [])) := Lib.hid (fun m h => by rw [← hOA.out]; exact occA_snoc i el m h)
       have hOAl : Hid (∀ m, m ≤ el.length → (OA m).length ≤ m) := Lib.hid (fun m h => by rw [← hOA.out]; exact occA_len i el m h)
       rw [hOA.out] at hst2
       obtain ⟨E, hE⟩ : ∃ q, Hid (el.length = q) := ⟨_, Lib.hid rfl⟩
       rw [hE.out] at cc hem h30 hst2 hOAl
       have HN1 : Hid (NbAt U3 base base lb L (1000 * (G i ++ OR j ++ OA 0).length) ba bc la lc p q (mbO f (G i ++ OR j ++ OA 0)) (mlO f (G i ++ OR j ++ OA 0))) := Lib.hid (by rw [hOA0.out, List.append_nil]; exact HN.out)
       subst hc
       clear hm hnd hok hrow hb0 HN
       go_wp2_with (fail)
       clear cc hblc
       go_loopw [42] (fun mv wr => ∃ m : Nat, m ≤ E ∧ mv = .int .i64 (m : Int) ∧ Hid (NbAt wr base base lb L (1000 * (G i ++ OR j ++ OA m).length) ba bc la lc p q (mbO f (G i ++ OR j ++ OA m)) (mlO f (G i ++ OR j ++ OA m))) ∧ Below base W0 wr) (fun mv _ => E - (RowKit.intOf mv).toNat)
       case atStart => exact ⟨0, Nat.zero_le _, rfl, HN1, hbr⟩
       case round =>
        clear HN1 hbr
        obtain ⟨m, hm, rfl, HN, hbr⟩ := hrel
        obtain ⟨U4, rfl⟩ : ∃ U, U = wr := ⟨_, rfl⟩
        have hb0 : Below W0.heap.size W0 U4 := by rw [hbase.out]; exact hbr
        by_cases hltm : m < E
        ·have hmI : (m : Int) < (E : Int) := by omega
         have hmI0 : (0 : Int) ≤ (m : Int) := by omega
         have hml : m < el.length := by rw [hE.out]; exact hltm
         have hrow := Hnd.out.grown hb0
         have hst3 := Lib.hid (hOAs.out m hml)
         have hOAm := hOAl.out m (by omega)
         have hoky := Hok.out _ (List.getElem_mem hml)
         obtain ⟨z, zo, hz⟩ := hrow.at_ m (by rw [List.length_map]; exact hml)
         have cz := hrow.cell z zo hz m (by rw [List.length_map]; exact hml)
         rw [List.getElem_map] at cz
         obtain ⟨y, hy⟩ : ∃ v, Hid (el[m] = v) := ⟨_, Lib.hid rfl⟩
         rw [hy.out] at cz hst3 hoky
         have hblz := World.block_lt_of_cell? _ _ cz
         by_cases h0 : y < 0
         ·have hru := ruleOf_any y U4.drew (by omega)
          have hrl : ruL y < L := by unfold ruL; omega
          have hst4 : Hid (OA (m + 1) = OA m ++ [(ruL y, i, el.drop (m + 1))]) := Lib.hid (by rw [hst3.out, if_pos h0])
          have Hru := Lib.hid hru
          have hsa : ∃ sa sc, Ints W0 sa sc (el.drop (m + 1)) ∧ sc = elc - (m + 1) ∧ sa = (if elc = m + 1 then some ⟨z, zo, none⟩ else some ⟨z, zo + (m + 1), none⟩) := by
           subst hz
           by_cases hce : elc = m + 1
           ·refine ⟨_, _, ?_, rfl, rfl⟩
            rw [if_pos hce, List.drop_eq_nil_of_le (by rw [hE.out]; omega)]
            exact ints_end _ (by omega)
           ·refine ⟨_, _, ?_, rfl, rfl⟩
            rw [if_neg hce]
            exact ints_drop Hnd.out (m + 1) (by rw [hE.out]; omega)
          obtain ⟨sa, sc, hsi, hsc, hsae⟩ := hsa
          have hdl : (el.drop (m + 1)).length = E - (m + 1) := by rw [List.length_drop, hE.out]
          have Hcg := Lib.hid (Hgr'.out U4.drew _ ba bc la lc p q _ _ (ruL y) i (el.drop (m + 1)) sa sc hbr.drew (HN.out.below (Below.refl _ U4).drew) hrl hlt hsi (fun x hx => Hok.out x (List.mem_of_mem_drop hx)) (by rw [hdl]; omega) (by
           rw [List.length_append, List.length_append]
           have h1 : i * 900 ≤ 60 * 900 := Nat.mul_le_mul_right _ (by omega)
           have h2 : j * 30 ≤ 30 * 30 := Nat.mul_le_mul_right _ (by omega)
           omega))
          have HNn : Hid (∀ W' , NbAt W' base base lb L (1000 * (G i ++ OR j ++ OA m).length + 1000) ba bc la lc p q (fun t x => mbO f (G i ++ OR j ++ OA m) t x || (decide (t = ruL y) && decide (x ∈ ahd f (el.drop (m + 1))))) (fun t x => mlO f (G i ++ OR j ++ OA m) t x || (decide (t = ruL y) && (emp f (el.drop (m + 1)) && decide (x = (i : Int))))) → NbAt W' base base lb L (1000 * (G i ++ OR j ++ OA (m + 1)).length) ba bc la lc p q (mbO f (G i ++ OR j ++ OA (m + 1))) (mlO f (G i ++ OR j ++ OA (m + 1)))) := Lib.hid (fun W' h => by
           have e9 : G i ++ OR j ++ OA (m + 1) = (G i ++ OR j ++ OA m) ++ [(ruL y, i, el.drop (m + 1))] := by rw [hst4.out]; simp
           rw [e9, List.length_append]
           refine (h.mono ?_).congr (fun t x => (mbO_snoc f (G i ++ OR j ++ OA m) (ruL y, i, el.drop (m + 1)) t x).symm) (fun t x => (mlO_snoc f (G i ++ OR j ++ OA m) (ruL y, i, el.drop (m + 1)) t x).symm)
           simp only [List.length_singleton]
           omega)
          have hbU4 : base ≤ U4.drew.heap.size := by rw [← hbase.out]; exact hbr.size
          have Hbd := Lib.hid hbr.drew
          have hw1 : IntKind.i64.wrap ((m : Int) + 1) = ((m + 1 : Nat) : Int) := by rw [show (m : Int) + 1 = ((m + 1 : Nat) : Int) by omega]; exact IntWalk.i64_in _ (by omega)
          have hle1 : (m : Int) + 1 ≤ (E : Int) := by omega
          have hle0 : (0 : Int) ≤ (m : Int) + 1 := by omega
          rw [hdl] at Hcg
          subst hz
          subst hsc
          subst hsae
          clear hsi hrow hb0 hru hdl
          go_wp2_with (fail)
          refine wp_region_held_drew (S := fun w' => True) (by kernel_rfl) ?_ (fun hHeld => ?_)
          ·exact trivial
          refine wpAnyH_take (i := 0) (v := ?_) (iatLS iatZS) (by kernel_rfl) (by kernel_rfl) (by kernel_rfl) (fun _ _ _ h => h) (Or.inl ⟨by rfl, ?_⟩) (by assumption) ?_
          rotate_left
          ·intro w hSw
           try dsimp only at hSw
           go_simp
           all_goals with_reducible rfl
          try simp only [Act.put, List.setIfInBounds_toArray, List.set_cons_zero, List.set_cons_succ]
          refine wpAnyH_take (i := 1) (v := ?_) (iatLS (iatSS iatZS)) (by kernel_rfl) (by kernel_rfl) (by kernel_rfl) (fun _ _ _ h => h) (Or.inl ⟨by rfl, ?_⟩) (by assumption) ?_
          rotate_left
          ·intro w hSw
           try dsimp only at hSw
           go_simp
           all_goals with_reducible rfl
          try simp only [Act.put, List.setIfInBounds_toArray, List.set_cons_zero, List.set_cons_succ]
          refine wpAnyH_take (i := 3) (v := ?_) (iatLS (iatSS (iatSS (iatSS iatZS)))) (by kernel_rfl) (by kernel_rfl) (by kernel_rfl) (fun _ _ _ h => h) (Or.inl ⟨by rfl, ?_⟩) (by assumption) ?_
          rotate_left
          ·intro w hSw
           try dsimp only at hSw
           go_simp
           all_goals with_reducible rfl
          try simp only [Act.put, List.setIfInBounds_toArray, List.set_cons_zero, List.set_cons_succ]
          refine wpAnyH_take (i := 4) (v := ?_) (iatLS (iatSS (iatSS (iatSS (iatSS iatZS))))) (by kernel_rfl) (by kernel_rfl) (by kernel_rfl) (fun _ _ _ h => h) (Or.inl ⟨by rfl, ?_⟩) (by assumption) ?_
          rotate_left
          ·intro w hSw
           try dsimp only at hSw
           go_simp
           all_goals with_reducible rfl
          try simp only [Act.put, List.setIfInBounds_toArray, List.set_cons_zero, List.set_cons_succ]
          refine wpAnyH_take (i := 5) (v := ?_) (iatLS (iatSS (iatSS (iatSS (iatSS (iatSS iatZS)))))) (by kernel_rfl) (by kernel_rfl) (by kernel_rfl) (fun _ _ _ h => h) (Or.inl ⟨by rfl, ?_⟩) (by assumption) ?_
          rotate_left
          ·intro w hSw
           try dsimp only at hSw
           go_simp
           all_goals with_reducible rfl
          try simp only [Act.put, List.setIfInBounds_toArray, List.set_cons_zero, List.set_cons_succ]
          refine wpAnyH_take (i := 6) (v := ?_) (iatLS (iatSS (iatSS (iatSS (iatSS (iatSS (iatSS iatZS))))))) (by kernel_rfl) (by kernel_rfl) (by kernel_rfl) (fun _ _ _ h => h) (Or.inl ⟨by rfl, ?_⟩) (by assumption) ?_
          rotate_left
          ·intro w hSw
           try dsimp only at hSw
           go_simp
           all_goals with_reducible rfl
          try simp only [Act.put, List.setIfInBounds_toArray, List.set_cons_zero, List.set_cons_succ]
          refine wpAnyH_take (i := 7) (v := ?_) (iatLS (iatSS (iatSS (iatSS (iatSS (iatSS (iatSS (iatSS iatZS)))))))) (by kernel_rfl) (by kernel_rfl) (by kernel_rfl) (fun _ _ _ h => h) (Or.inl ⟨by rfl, ?_⟩) (by assumption) ?_
          rotate_left
          ·intro w hSw
           try dsimp only at hSw
           go_simp
           all_goals with_reducible rfl
          try simp only [Act.put, List.setIfInBounds_toArray, List.set_cons_zero, List.set_cons_succ]
          refine wpAnyH_ready (rs := [2]) (by kernel_rfl) (by simp) ?_
          refine AllReadyH.cons (iatLS (iatSS (iatSS iatZS))) (fun K hK => ?_) AllReadyH.nil
          go_simp
          (with_reducible refine Hru.out.mono ?_)
          rintro e7 W7 ⟨rfl, rfl⟩
          try dsimp only
          refine hK.out _ _ ?_ (fun hHeld => ?_)
          ·exact trivial
          clear hK K
          try simp only [Act.put, List.setIfInBounds_toArray, List.set_cons_zero, List.set_cons_succ]
          refine wpAnyH_ready (rs := [8]) (by kernel_rfl) (by simp) ?_
          refine AllReadyH.cons (iatLS (iatSS (iatSS (iatSS (iatSS (iatSS (iatSS (iatSS (iatSS iatZS))))))))) (fun K hK => ?_) AllReadyH.nil
          go_simp
          (with_reducible refine Hcg.out.mono ?_)
          rintro e8 W8 ⟨rfl, hN8, hb8⟩
          have HN8 := Lib.hid (HNn.out _ hN8)
          have Hb8 := Lib.hid (Hbd.out.trans hb8)
          clear hN8 hb8
          try dsimp only
          refine hK.out _ _ ?_ (fun hHeld => ?_)
          ·exact trivial
          clear hK K
          try simp only [Act.put, List.setIfInBounds_toArray, List.set_cons_zero, List.set_cons_succ]
          refine wpAnyH_done (by kernel_rfl) ?_ _
          go_wp2_with (fail)
          exact ⟨⟨m + 1, by omega, by go_num, HN8, Hb8.out⟩, by simp [RowKit.intOf]; omega⟩
         ·have hnx : ¬ y < 0 := h0
          have hst4 : Hid (OA (m + 1) = OA m) := Lib.hid (by rw [hst3.out, if_neg h0, List.append_nil])
          have HN5 : Hid (NbAt U4 base base lb L (1000 * (G i ++ OR j ++ OA (m + 1)).length) ba bc la lc p q (mbO f (G i ++ OR j ++ OA (m + 1))) (mlO f (G i ++ OR j ++ OA (m + 1)))) := Lib.hid (by rw [hst4.out]; exact HN.out)
          subst hz
          clear hrow hb0
          go_wp2_with (fail)
          exact ⟨⟨m + 1, by omega, by go_num, HN5, hbr⟩, by simp [RowKit.intOf]; omega⟩
        ·have hme : m = E := by omega
         have hmI : ¬ (m : Int) < (E : Int) := by omega
         have HN5 : Hid (NbAt U4 base base lb L (1000 * (G i ++ OR (j + 1)).length) ba bc la lc p q (mbO f (G i ++ OR (j + 1))) (mlO f (G i ++ OR (j + 1)))) := Lib.hid (by rw [hst2.out, ← List.append_assoc, ← hme]; exact HN.out)
         clear hme hb0
         go_wp2_with (fail)
         exact ⟨⟨j + 1, by omega, by go_num, HN5, hbr⟩, by simp [RowKit.intOf]; omega⟩
      ·have hje : j = M := by omega
       have hjI : ¬ (j : Int) < (M : Int) := by omega
       have HN5 : Hid (NbAt U3 base base lb L (1000 * (G (i + 1)).length) ba bc la lc p q (mbO f (G (i + 1))) (mlO f (G (i + 1)))) := Lib.hid (by rw [hst.out, ← hje]; exact HN.out)
       clear hje hb0
       go_wp2_with (fail)
       exact ⟨⟨i + 1, by omega, by go_num, HN5, hbr⟩, by simp [RowKit.intOf]; omega⟩
    ·have hie : i = L := by omega
     have hiI : ¬ (i : Int) < (L : Int) := by omega
     rw [hie] at HN
     clear hie hb0
     have HS0 : Hid (U2.drew.cell? ⟨base, 0, none⟩ = some (.slice ba L bc) ∧ U2.drew.cell? ⟨lb, 0, none⟩ = some (.slice la L lc)) := Lib.hid ⟨HN.out.hbx.cell 0, HN.out.lbx.cell 0⟩
     have HNd := Lib.hid (HN.out.below (Below.refl _ U2).drew)
     have Hbd := Lib.hid hbr.drew
     have hbB : base ≤ U2.drew.heap.size := by rw [← hbase.out]; exact Hbd.out.size
     have y0 := HNd.out.hbx.cell 0
     have y1 := HNd.out.lbx.cell 0
     have yl := HNd.out.hbx.lt
     have yl1 := HNd.out.lbx.lt
     have yf := HNd.out.hbx.frozen 0
     have yf1 := HNd.out.lbx.frozen 0
     simp only [List.getElem?_cons_zero] at y0 y1
     clear hbr
     go_wp2_with (fail)
     refine wp_region_held_drew (S := fun w' => w'.cell? ⟨base, 0, none⟩ = some (.slice ba L bc) ∧ w'.cell? ⟨lb, 0, none⟩ = some (.slice la L lc)) (by kernel_rfl) ?_ (fun hHeld => ?_)
     ·exact HS0.out
     refine wpAnyH_take (i := 0) (v := ?_) (iatLS iatZS) (by kernel_rfl) (by kernel_rfl) (by kernel_rfl) (fun _ _ _ h => h) (Or.inl ⟨by rfl, ?_⟩) (by assumption) ?_
     rotate_left
     ·intro w hSw
      try dsimp only at hSw
      go_simp
      all_goals with_reducible rfl
     try simp only [Act.put, List.setIfInBounds_toArray, List.set_cons_zero, List.set_cons_succ]
     refine wpAnyH_take (i := 1) (v := ?_) (iatLS (iatSS iatZS)) (by kernel_rfl) (by kernel_rfl) (by kernel_rfl) (fun _ _ _ h => h) (Or.inl ⟨by rfl, ?_⟩) (by assumption) ?_
     rotate_left
     ·intro w hSw
      try dsimp only at hSw
      go_simp
      all_goals with_reducible rfl
     try simp only [Act.put, List.setIfInBounds_toArray, List.set_cons_zero, List.set_cons_succ]
     refine wpAnyH_ready (rs := [2]) (by kernel_rfl) (by simp) ?_
     refine AllReadyH.cons (iatLS (iatSS (iatSS iatZS))) (fun K hK => ?_) AllReadyH.nil
     go_simp
     have HNa := Lib.hid (HNd.out.same1)
     have Hba := Lib.hid (Hbd.out.setCell (p := ⟨base, 0, none⟩) (Nat.le_refl _) (.slice ba L bc))
     clear y0 y1 yl yl1 yf yf1
     have hWe : (World.setCell U2 ⟨base, 0, none⟩ (.slice ba L bc)).drew = U2.drew.setCell ⟨base, 0, none⟩ (.slice ba L bc) := rfl
     rw [hWe]
     generalize hW5 : World.setCell U2.drew _ _ = V5 at HNa Hba ⊢
     clear hW5 hWe
     have y1 := HNa.out.lbx.cell 0
     have yl1 := HNa.out.lbx.lt
     have yf1 := HNa.out.lbx.frozen 0
     simp only [List.getElem?_cons_zero] at y1
     refine hK.out _ _ ?_ (fun hHeld => ?_)
     ·exact ⟨HNa.out.hbx.cell 0, HNa.out.lbx.cell 0⟩
     clear hK K
     try simp only [Act.put, List.setIfInBounds_toArray, List.set_cons_zero, List.set_cons_succ]
     refine wpAnyH_ready (rs := [3]) (by kernel_rfl) (by simp) ?_
     refine AllReadyH.cons (iatLS (iatSS (iatSS (iatSS iatZS)))) (fun K hK => ?_) AllReadyH.nil
     go_simp
     have HNb := Lib.hid (HNa.out.same2)
     have Hbb := Lib.hid (Hba.out.setCell (p := ⟨lb, 0, none⟩) hbl.2.1 (.slice la L lc))
     clear y1 yl1 yf1
     generalize hW6 : World.setCell V5 _ _ = V6 at HNb Hbb ⊢
     clear hW6
     refine hK.out _ _ ?_ (fun hHeld => ?_)
     ·exact ⟨HNb.out.hbx.cell 0, HNb.out.lbx.cell 0⟩
     clear hK K
     try simp only [Act.put, List.setIfInBounds_toArray, List.set_cons_zero, List.set_cons_succ]
     refine wpAnyH_done (by kernel_rfl) ?_ _
     have y0 := HNb.out.hbx.cell 0
     have y1 := HNb.out.lbx.cell 0
     have yl := HNb.out.hbx.lt
     have yl1 := HNb.out.lbx.lt
     simp only [List.getElem?_cons_zero] at y0 y1
     have Hfin : Hid (Q (.returned (.tuple #[.slice ba L bc, .slice la L lc])) V6) := Lib.hid (by
      rw [← HQ.out]
      have hww : w.heap.size ≤ base := by omega
      have hGL := hGl.out L (Nat.le_refl _)
      have h9 : L * 900 ≤ 60 * 900 := Nat.mul_le_mul_right _ hr60
      exact ⟨base, base, lb, _, ba, bc, la, lc, p, q, rfl, by omega, HNb.out, hww, hBW0.out.trans (Hbb.out.mono (by omega))⟩)
     go_wp2_with (fail)
     first | exact Hfin.out | exact bodyPost_ret (v := .tuple #[.slice ba L bc, .slice la L lc]) (by simp [results, Try.results60, go_sem, y0, y1]; try first | rfl | assumption | omega) rfl Hfin.out
end Go.Proofs.Ytldmgifphkpdlaa
