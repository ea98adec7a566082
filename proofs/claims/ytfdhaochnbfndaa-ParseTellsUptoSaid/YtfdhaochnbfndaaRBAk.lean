/- Texts joined: Jo Ju Jp Jq Jr Js Jt Wc Wd Wm Wn Wq Wr Wt. -/
import Derived.Test.YtfdhaochnbfndaaRBAg
import Derived.OrdersHeld
import Derived.Deep.RegionHeld
import Derived.Test.YtfdhaochnbfndaaRBAj
set_option linter.unusedVariables false
set_option linter.unusedSimpArgs false
namespace Go.Proofs.Ytfdhaochnbfndaa
open Go.RowKit Go.Maps
attribute [local go_sem] Oper.semAt_some
section
variable {W W' : World} {B hb lb N n bc lc : Nat} {ba la : Option Addr} {p q : Nat → Nat} {MB ML : Nat → Int → Bool}
end
end Go.Proofs.Ytfdhaochnbfndaa
namespace Go.Proofs.Ytfdhaochnbfndaa
open Go.RowKit Go.Maps
section
variable {P : Program} {ops : Array Oper} {Q : Exit → Act → World → Prop} {md : Region.Mode} {S : World → Prop} {z : Nat}
/-- In whatever order; S holds till operation z is on the list. -/
def wpTill (P : Program) (md : Region.Mode) (ops : Array Oper) (Q : Exit → Act → World → Prop) (z : Nat) (S : World → Prop) : Nat → Array Bool → Act → World → Prop
 | 0, L, a, w => Region.ready md ops L = [] ∧ Q .normal a w
 | n + 1, L, a, w => (Region.ready md ops L = [] → Q .normal a w) ∧ ∀ i ∈ Region.ready md ops L, wpOp P ops Q i (fun b u => ((L.setIfInBounds i true).getD z true = false → S u) ∧ wpTill P md ops Q z S n (L.setIfInBounds i true) b u) a w
theorem any_of_till : ∀ (n : Nat) (L : Array Bool) (a : Act) (w : World), wpTill P md ops Q z S n L a w → wpAny P md ops Q n L a w
 | 0, _, _, _, h => h
 | n + 1, _, _, _, h => ⟨h.1, fun i hi => wpOp_mono (fun b u k => any_of_till n _ b u k.2) (h.2 i hi)⟩
/-- Whether one operation waits for another. -/
def waitsFor (md : Region.Mode) (ops : Array Oper) (z i : Nat) : Bool := (ops[z]?).any (fun o => o.after.any (fun e => Region.binds md e && e.on == i))
theorem waits_spec {z i : Nat} (h : waitsFor md ops z i = true) : ∀ oz, ops[z]? = some oz → ∃ e ∈ oz.after, Region.binds md e = true ∧ e.on = i := by
 intro oz hoz
 unfold waitsFor at h
 rw [hoz] at h
 obtain ⟨k, hk, h2⟩ := Array.any_eq_true.1 (show oz.after.any (fun e => Region.binds md e && e.on == i) = true from h)
 rw [Bool.and_eq_true, beq_iff_eq] at h2
 exact ⟨_, Array.getElem_mem hk, h2⟩
/-- Each of those that may come up. -/
def TillAll (P : Program) (md : Region.Mode) (ops : Array Oper) (Q : Exit → Act → World → Prop) (z : Nat) (S : World → Prop) (n : Nat) (L : Array Bool) (a : Act) (w : World) (rs : List Nat) : Prop :=
 ∀ i ∈ rs, wpOp P ops Q i (fun b u => ((L.setIfInBounds i true).getD z true = false → S u) ∧ wpTill P md ops Q z S n (L.setIfInBounds i true) b u) a w
theorem TillAll.nil {n : Nat} {L : Array Bool} {a : Act} {w : World} : TillAll P md ops Q z S n L a w [] := fun i h => absurd h List.not_mem_nil
theorem TillAll.cons {n : Nat} {L : Array Bool} {a : Act} {w : World} {i : Nat} {o : Oper} {rs : List Nat} (ho : ops[i]? = some o)
 (h : ∀ K : Act → World → Prop, Shut (∀ b u, ((L.setIfInBounds i true).getD z true = false → S u) → wpTill P md ops Q z S n (L.setIfInBounds i true) b u → K b u) → if Region.wanted o (yielded ops a.tmps) = true then Oper.wp P o a w K Q else K (a.put o.dst undef) w)
 (hs : TillAll P md ops Q z S n L a w rs) : TillAll P md ops Q z S n L a w (i :: rs) := by
 intro j hj
 rcases List.mem_cons.1 hj with e | hj
 ·rw [e]
  exact wpOp_step ho (fun K hK => h K (fun b u h1 h2 => hK b u ⟨h1, h2⟩))
 ·exact hs j hj
theorem till_ready {rs : List Nat} {n : Nat} {L : Array Bool} {a : Act} {w : World} (hr : Region.ready md ops L = rs) (hne : rs ≠ []) (h : TillAll P md ops Q z S n L a w rs) : wpTill P md ops Q z S (n + 1) L a w :=
 ⟨fun h0 => absurd (hr.symm.trans h0) hne, fun i hi => h i (hr ▸ hi)⟩
theorem till_done {L : Array Bool} {a : Act} {w : World} (hr : Region.ready md ops L = []) (h : Q .normal a w) : ∀ n, wpTill P md ops Q z S n L a w
 | 0 => ⟨hr, h⟩
 | _ + 1 => ⟨fun _ => h, fun i hi => absurd hi (by rw [hr]; exact List.not_mem_nil)⟩
theorem region_till {id : Nat} {a : Act} {w : World} (z : Nat) (S : World → Prop) (hm : P.follows .mixedOrders = true) (h : wpTill P .any ops Q z S ops.size (Array.replicate ops.size false) a w.drew) : (Code.region id ops true).wp P Q a w :=
 wp_region_any hm (any_of_till _ _ _ _ h)
end
end Go.Proofs.Ytfdhaochnbfndaa
namespace Go.Proofs.Ytfdhaochnbfndaa
open Go.RowKit Go.Maps
attribute [local go_sem] Oper.semAt_some
section
variable {V W : World} {B F hb lb k : Nat} {hv lv : Value} {a1 : Option Addr} {n1 c1 : Nat} {l1 : List Value} {a2 : Option Addr} {n2 c2 : Nat} {l2 : List Value} {p q : Nat → Nat}
end
end Go.Proofs.Ytfdhaochnbfndaa
namespace Go.Proofs.Ytfdhaochnbfndaa
open Go.RowKit Go.Maps
attribute [local go_sem] Oper.semAt_some
/-- The row behind its first numbers. -/
theorem ints_drop {w : World} {b off cap : Nat} {s : List Int} (h : Ints w (some ⟨b, off, none⟩) cap s) (i : Nat) (hi : i ≤ s.length) : Ints w (some ⟨b, off + i, none⟩) (cap - i) (s.drop i) := by
 have hl := h.le
 rw [List.length_map] at hl
 have hm := h.max
 refine ⟨by rw [List.length_map, List.length_drop]; omega, by omega, fun e => (by cases e), fun j hj => ⟨b, off + i, rfl⟩, fun b2 off2 e j hj => ?_⟩
 rw [List.length_map, List.length_drop] at hj
 injection e with e
 injection e with e1 e2
 subst e1
 subst e2
 have := h.cell b off rfl (i + j) (by rw [List.length_map]; omega)
 rw [show off + i + j = off + (i + j) by omega, this]
 simp
theorem ints_end {w : World} {b off : Nat} (c : Nat) (hc : c ≤ 9223372036854775807) : Ints w (some ⟨b, off, none⟩) c [] := ⟨Nat.zero_le _, hc, fun e => (by cases e), fun i hi => absurd hi (Nat.not_lt_zero _), fun b2 off2 e i hi => absurd hi (Nat.not_lt_zero _)⟩
end Go.Proofs.Ytfdhaochnbfndaa
namespace Go.Proofs.Ytfdhaochnbfndaa
open Go.RowKit Go.Maps
attribute [local go_sem] Oper.semAt_some
theorem pair_nodup {l : List Int} (h : l.Pairwise (· < ·)) : l.Nodup := h.imp (fun h => by omega)
theorem ris_len {l : List Int} {P : Int → Prop} (h : Ris l P) (U : List Int) (hU : ∀ x, P x → x ∈ U) : l.length ≤ U.length := nodupLe l U (pair_nodup h.up) (fun x hx => hU x ((h.mem x).1 hx))
end Go.Proofs.Ytfdhaochnbfndaa
namespace Go.Proofs.Ytfdhaochnbfndaa
open Go.RowKit Go.Maps
attribute [local go_sem] Oper.semAt_some
end Go.Proofs.Ytfdhaochnbfndaa
namespace Go.Proofs.Ytfdhaochnbfndaa
open Go.RowKit Go.Maps
attribute [local go_sem] Oper.semAt_some
end Go.Proofs.Ytfdhaochnbfndaa
namespace Go.Proofs.Ytfdhaochnbfndaa
open Go.RowKit Go.Maps
attribute [local go_sem] Oper.semAt_some
/-- What is made one behind the other. -/
def allocs (w : World) : List Obj → World
 | [] => w
 | o :: os => allocs (w.alloc o) os
theorem allocs_below : ∀ (os : List Obj) (w : World), Below w.heap.size w (allocs w os)
 | [], w => Below.refl _ w
 | o :: os, w => (up1 w o).trans ((allocs_below os (w.alloc o)).mono (by simp))
theorem allocs_at : ∀ (os : List Obj) (w : World) (i : Nat) (o : Obj), os[i]? = some o → (allocs w os).heap[w.heap.size + i]? = some o
 | [], w, i, o, h => by cases h
 | p :: os, w, 0, o, h => by
  have e : p = o := by simpa using h
  subst e
  have := (allocs_below os (w.alloc p)).block w.heap.size (by simp)
  rw [Nat.add_zero]
  show (allocs (w.alloc p) os).heap[w.heap.size]? = some p
  rw [this]
  exact World.alloc_heap_new w p
 | p :: os, w, i + 1, o, h => by
  have := allocs_at os (w.alloc p) i o (by simpa using h)
  rw [show (w.alloc p).heap.size + i = w.heap.size + (i + 1) by simp; omega] at this
  exact this
theorem allocs_blk (os : List Obj) (w : World) (i : Nat) (xs : List Value) (e : TypeId) (h : os[i]? = some (.cells xs.toArray e)) : Blk (allocs w os) (w.heap.size + i) e xs := allocs_at os w i _ h
theorem allocs_vs (os : List Obj) (w : World) (i : Nat) (xs : List Value) (e : TypeId) (h : os[i]? = some (.cells xs.toArray e)) (n : Nat) (hn : xs.length = n) (hm : n ≤ maxLen) : Vs (allocs w os) (some ⟨w.heap.size + i, 0, none⟩) n xs := own_vals (e := e) (base := 0) ⟨by rw [hn, Nat.mul_one], .inr ⟨w.heap.size + i, n, xs.toArray, rfl, Nat.zero_le _, allocs_blk os w i xs e h, Nat.le_refl _, hm, by simp [hn], by rw [List.take_of_length_le (by simp [hn])]⟩⟩ hn.symm
def e9CD (h : Nat) : CfD := ⟨[⟨#[97]⟩, ⟨#[98]⟩], some ⟨h, 0, none⟩, 2, [⟨#[83]⟩], some ⟨h + 1, 0, none⟩, 1, [⟨[⟨[0, -1, 1], some ⟨h + 1 + 1, 0, none⟩, 3⟩, ⟨[], none, 0⟩], some ⟨h + 1 + 1 + 1, 0, none⟩, 2⟩], some ⟨h + 1 + 1 + 1 + 1, 0, none⟩, 1⟩
theorem e9_mx (n : Nat) (h : n ≤ 10) : n ≤ maxLen := by unfold maxLen; omega
end Go.Proofs.Ytfdhaochnbfndaa
namespace Go.Proofs.Ytfdhaochnbfndaa
open Go.RowKit Go.Maps
attribute [local go_sem] Oper.semAt_some
end Go.Proofs.Ytfdhaochnbfndaa
namespace Go.Proofs.Ytfdhaochnbfndaa
open Go.RowKit Go.Maps
attribute [local go_sem] Oper.semAt_some
theorem OwnKZ.app {w : World} {base cap : Nat} {a : Option Addr} {l : List Int} (h : OwnKZ w base a cap l) (b : Option Addr) (bc : Nat) (m : List Int) (hm : Ints w b bc m) (ty : TypeId) (hn : l.length + m.length ≤ 1099511627780) (hb : base ≤ w.heap.size) :
 ∃ a' c' w', (Builtin.append_ #[35, 35] ty #[.slice a l.length cap, .slice b m.length bc]).run Try.prog w = .ok (.slice a' (l.length + m.length) c') w' ∧
  OwnKZ w' base a' c' (l ++ m) ∧ Below base w w' := by
 obtain ⟨i0, hi, hz0, hz1, hz2⟩ := info_parts info_keyZ
 cases b with
 | none =>
  have e0 := hm.nil_ rfl
  have hml : m = [] := by
   have := hm.le
   rw [e0] at this
   simpa using this
  subst e0
  subst hml
  exact ⟨a, cap, w, run_append_owned_none (P := Try.prog) w base _ ty _ i0 1 Try.underlying35 hi _ _ _ h, by simpa [OwnKZ] using h, Below.refl _ w⟩
 | some b' =>
  have hnew : ∀ j u, (m.map (Value.int .i64))[j]? = some u → w.cell? (b'.add j) = some u := by
   intro j u hj
   have hjl : j < (m.map (Value.int .i64)).length := (List.getElem?_eq_some_iff.1 hj).1
   obtain ⟨b2, off, e⟩ := hm.at_ j hjl
   have e := Option.some.inj e
   subst e
   have := hm.cell b2 off rfl j hjl
   rw [show (⟨b2, off, none⟩ : Addr).add j = ⟨b2, off + j, none⟩ from by unfold Addr.add; split <;> simp_all]
   exact this.trans ((List.getElem?_eq_getElem hjl).symm.trans hj)
  obtain ⟨v', w', hrun, ho, hg, _⟩ := run_append_own (P := Try.prog) w base 35 ty 3 i0 _ 1 8 Try.underlying35 hi hz0 hz1 hz2 rfl (by decide) _ l.length _ h b' m.length bc (m.map (Value.int .i64)) (by simp) hnew (fun u hu => by
   obtain ⟨x, _, rfl⟩ := List.mem_map.1 hu
   rfl) (by unfold maxLen; omega) (by omega) hb
  obtain ⟨a', cap', rfl⟩ := slice_of_own ho
  refine ⟨a', cap', w', hrun, ?_, belowAt hg (fun g e0 => (own_typ h g e0).1) hb⟩
  unfold OwnKZ
  rw [List.map_append, List.length_append]
  exact ho
end Go.Proofs.Ytfdhaochnbfndaa
namespace Go.Proofs.Ytfdhaochnbfndaa
open Go.RowKit Go.Maps
attribute [local go_sem] Oper.semAt_some
/-- What begins a list is a grammar's token. -/
theorem tok_near {d : CfD} (hf : FitC d) {f : Nat → Bool} {l : List Int} (hl : OkL d.toks.length d.alts.length l) {t : Int} (h : TokP (d.alts.map IrD.p) f l t) : 0 ≤ t ∧ t ≤ 100 := by
 have := rchd_near hf (fun x hx => ⟨(hl x hx).1, by have := (hl x hx).2; have := hf.t; omega⟩) h.2
 exact ⟨h.1, this.2⟩
theorem ris_len101 {l : List Int} {P : Int → Prop} (h : Ris l P) (hP : ∀ t, P t → 0 ≤ t ∧ t ≤ 100) : l.length ≤ 300 := by
 have := ris_len h (nearU 0) (fun x hx => nearU_mem.2 (by have := hP x hx; omega))
 have e : (nearU 0).length = 300 := by unfold nearU; rw [List.length_map, List.length_range]
 omega
theorem ris_take {y : List Int} {P : Int → Prop} {r : List Int} {k : Nat} (h : k < y.length) (hr : Ris r (fun t => P t ∨ t ∈ y.take k)) : Ris (withZ r y[k]) (fun t => P t ∨ t ∈ y.take (k + 1)) := by
 refine ⟨withZ_up hr.up, fun t => ?_⟩
 rw [withZ_mem, hr.mem t, List.take_add_one, List.getElem?_eq_getElem h, List.mem_append]
 constructor
 ·rintro ((h1 | h1) | h1)
  ·exact .inl h1
  ·exact .inr (.inl h1)
  ·exact .inr (.inr (by simp [h1]))
 ·rintro (h1 | h1 | h1)
  ·exact .inl (.inl h1)
  ·exact .inl (.inr h1)
  ·exact .inr (by simpa using h1)
end Go.Proofs.Ytfdhaochnbfndaa
namespace Go.Proofs.Ytfdhaochnbfndaa
open Go.RowKit Go.Maps
attribute [local go_sem] Oper.semAt_some
set_option maxRecDepth 100000 in
set_option maxHeartbeats 16000000 in
theorem rule9_any (d : CfD) (x : Int) (w : World) (hd : CfAt w d) (hx : -(d.alts.length : Int) ≤ x ∧ x ≤ 1000000000) (hl : d.alts.length ≤ 1000000) :
 Calls Try.prog 74 #[d.v, .int .i64 x] w fun e w' => e = .returned (.int .i64 (if x < 0 then ((ruL x : Nat) : Int) else -1)) ∧ Below w.heap.size w w' := by
 obtain ⟨xt, xta, xtc, xn, xna, xnc, xa, xaa, xac⟩ := d
 have hxm : xa.length ≤ xac ∧ xac ≤ 9223372036854775807 := ⟨by have := hd.alts.le; rwa [List.length_map] at this, hd.alts.max⟩
 dsimp only [CfD.v] at *
 have hb1 : Below w.heap.size w (w.alloc (.cells #[.slice xta xt.length xtc, .slice xna xn.length xnc, .slice xaa xa.length xac] 25)) := (Below.refl _ w).alloc (Nat.le_refl _) _
 have hA := Blk.new w 25 #[.slice xta xt.length xtc, .slice xna xn.length xnc, .slice xaa xa.length xac]
 obtain ⟨T, HT⟩ : ∃ q, Hid (xt.length = q) := ⟨_, Lib.hid rfl⟩
 obtain ⟨N, HN⟩ : ∃ q, Hid (xn.length = q) := ⟨_, Lib.hid rfl⟩
 obtain ⟨L, HL⟩ : ∃ q, Hid (xa.length = q) := ⟨_, Lib.hid rfl⟩
 rw [HT.out, HN.out, HL.out] at hA hb1
 rw [HT.out, HN.out, HL.out]
 have x0 := hA.cell 0
 have x1 := hA.cell 1
 have x2 := hA.cell 2
 have xl := hA.lt
 simp only [List.getElem?_cons_zero, List.getElem?_cons_succ] at x0 x1 x2
 have HA := Lib.hid hA
 have Hb1 := Lib.hid hb1
 rw [HL.out] at hxm hx hl
 clear hd hA hb1 HA
 by_cases h0 : x < 0
 ·rw [if_pos h0]
  obtain ⟨r, hr⟩ : ∃ r, Hid (ruL x = r) := ⟨_, Lib.hid rfl⟩
  have hxr : x = -1 - (r : Int) := by rw [← hr.out]; exact (of_ruL h0).symm
  rw [hr.out]
  clear hr
  subst hxr
  have hw : IntKind.i64.wrap (-1 - (-1 - (r : Int))) = (r : Int) := by rw [show (-1 - (-1 - (r : Int))) = (r : Int) by omega]; exact IntWalk.i64_in _ (by omega)
  have hI : (r : Int) < (L : Int) := by omega
  go_enter Try.func74, Try.ntmps74
  go_wp2_with (fail)
  exact bodyPost_ret (v := .int .i64 (r : Int)) (by simp [results, Try.results74, go_sem]; try first | rfl | assumption | omega) rfl ⟨rfl, Hb1.out⟩
 ·rw [if_neg h0]
  go_enter Try.func74, Try.ntmps74
  go_wp2_with (fail)
  exact bodyPost_ret (v := .int .i64 (-1)) (by simp [results, Try.results74, go_sem]; try first | rfl | assumption | omega) rfl ⟨rfl, Hb1.out⟩
set_option maxRecDepth 100000 in
set_option maxHeartbeats 16000000 in
theorem emp9_any (d : CfD) (s : List Int) (sa : Option Addr) (sc : Nat) (na : Option Addr) (nc : Nat) (f : Nat → Bool) (w : World) (hd : CfAt w d) (hs : Ints w sa sc s) (hn : BlsF w na nc d.alts.length f) (hx : ∀ x ∈ s, -(d.alts.length : Int) ≤ x ∧ x ≤ 1000000000) (hl : d.alts.length ≤ 1000000) :
 Calls Try.prog 61 #[d.v, .slice sa s.length sc, .slice na d.alts.length nc] w fun e w' => e = .returned (.bool (emp f s)) ∧ Below w.heap.size w w' := by
 have HR := Lib.hid (fun x (hx : -(d.alts.length : Int) ≤ x ∧ x ≤ 1000000000) W (hb : Below w.heap.size w W) => rule9_any d x W (hd.grown hb) hx hl)
 have hsm : s.length ≤ sc ∧ sc ≤ 9223372036854775807 := ⟨by have := hs.le; rwa [List.length_map] at this, hs.max⟩
 have hnm : d.alts.length ≤ nc ∧ nc ≤ 9223372036854775807 := ⟨by have := hn.le; simpa using this, hn.max⟩
 have Hs := Lib.hid hs
 have Hn := Lib.hid hn
 have Hx := Lib.hid hx
 obtain ⟨xt, xta, xtc, xn, xna, xnc, xa, xaa, xac⟩ := d
 dsimp only [CfD.v] at *
 have hb1 : Below w.heap.size w (w.alloc (.cells #[.slice xta xt.length xtc, .slice xna xn.length xnc, .slice xaa xa.length xac] 25)) := (Below.refl _ w).alloc (Nat.le_refl _) _
 have hA := Blk.new w 25 #[.slice xta xt.length xtc, .slice xna xn.length xnc, .slice xaa xa.length xac]
 obtain ⟨T, HT⟩ : ∃ q, Hid (xt.length = q) := ⟨_, Lib.hid rfl⟩
 obtain ⟨N, HN⟩ : ∃ q, Hid (xn.length = q) := ⟨_, Lib.hid rfl⟩
 obtain ⟨L, HL⟩ : ∃ q, Hid (xa.length = q) := ⟨_, Lib.hid rfl⟩
 rw [HT.out, HN.out, HL.out] at hA hb1
 rw [HT.out, HN.out, HL.out]
 have x0 := hA.cell 0
 have x1 := hA.cell 1
 have x2 := hA.cell 2
 have xl := hA.lt
 simp only [List.getElem?_cons_zero, List.getElem?_cons_succ] at x0 x1 x2
 have HA := Lib.hid hA
 have Hb1 := Lib.hid hb1
 obtain ⟨S, HS⟩ : ∃ q, Hid (s.length = q) := ⟨_, Lib.hid rfl⟩
 rw [HS.out] at hsm ⊢
 rw [HL.out] at hnm hl Hn Hx
 rw [HT.out, HN.out, HL.out] at HR
 obtain ⟨B, HB⟩ : ∃ q, Hid (emp f s = q) := ⟨_, Lib.hid rfl⟩
 rw [HB.out]
 clear hd hA hb1 hs hn hx
 go_enter Try.func61, Try.ntmps61
 go_wp2_with (fail)
 obtain ⟨bx, hbx⟩ : ∃ q, Hid (w.heap.size = q) := ⟨_, Lib.hid rfl⟩
 rw [hbx.out] at HA x0 x1 x2 xl ⊢
 generalize hV : World.alloc w _ = V at HA x0 x1 x2 xl Hb1 ⊢
 clear hV x0 x1 x2 xl
 go_loopw [12] (fun iv wr => ∃ k : Nat, k ≤ S ∧ iv = .int .i64 (k : Int) ∧ Hid (B = emp f (s.drop k)) ∧ Hid (Blk wr bx 25 [.slice xta T xtc, .slice xna N xnc, .slice xaa L xac]) ∧ Below w.heap.size w wr) (fun iv _ => S - (RowKit.intOf iv).toNat)
 case atStart => exact ⟨0, Nat.zero_le _, rfl, Lib.hid HB.out.symm, HA, Hb1.out⟩
 case round =>
  clear HA Hb1
  obtain ⟨k, hk, rfl, HE, HA, hbr⟩ := hrel
  obtain ⟨U, rfl⟩ : ∃ U, U = wr := ⟨_, rfl⟩
  by_cases hlt : k < S
  ·have hkI : (k : Int) < (S : Int) := by omega
   have hkI0 : (0 : Int) ≤ (k : Int) := by omega
   have hkl : k < s.length := by rw [HS.out]; exact hlt
   have hrow := Hs.out.grown hbr
   have hdr := List.drop_eq_getElem_cons hkl
   obtain ⟨b, bo, hb⟩ := hrow.at_ k (by rw [List.length_map]; exact hkl)
   have cb := hrow.cell b bo hb k (by rw [List.length_map]; exact hkl)
   rw [List.getElem_map] at cb
   have hm := Hx.out _ (List.getElem_mem hkl)
   obtain ⟨x, hx⟩ : ∃ v, Hid (s[k] = v) := ⟨_, Lib.hid rfl⟩
   rw [hx.out] at cb hm hdr
   have hblb := World.block_lt_of_cell? _ _ cb
   subst hb
   have x0 := HA.out.cell 0
   have x1 := HA.out.cell 1
   have x2 := HA.out.cell 2
   have xl := HA.out.lt
   simp only [List.getElem?_cons_zero, List.getElem?_cons_succ] at x0 x1 x2
   have HE2 : Hid (B = ((decide (x < 0) && f (ruL x)) && emp f (s.drop (k + 1)))) := Lib.hid (by rw [HE.out, hdr, emp_cons])
   have Hru := Lib.hid (HR.out x hm U hbr)
   clear hrow hdr
   by_cases h0 : x < 0
   ·rw [if_pos h0] at Hru
    rw [decide_eq_true h0, Bool.true_and] at HE2
    have hrL : ruL x < L := by unfold ruL; omega
    obtain ⟨r, hr⟩ : ∃ r, Hid (ruL x = r) := ⟨_, Lib.hid rfl⟩
    rw [hr.out] at Hru HE2 hrL
    have hrI : (r : Int) < (L : Int) := by omega
    have hrI0 : (0 : Int) ≤ (r : Int) := by omega
    go_wp2_with (fail)
    refine Hru.out.mono ?_
    rintro e w3 ⟨rfl, hb3⟩
    have Hb3 := Lib.hid (hbr.trans (hb3.mono hbr.size))
    have HA3 := Lib.hid (HA.out.below hb3 HA.out.lt)
    have hn3 := Vs.grown Hn.out Hb3.out
    obtain ⟨n0, no, hn0⟩ := hn3.at_ r (by simpa using hrL)
    have cn := hn3.cell n0 no hn0 r (by simpa using hrL)
    rw [range_at] at cn
    have hbln := World.block_lt_of_cell? _ _ cn
    subst hn0
    obtain ⟨q, hq⟩ : ∃ v, Hid (f r = v) := ⟨_, Lib.hid rfl⟩
    rw [hq.out] at cn HE2
    clear x0 x1 x2 xl hb3 hn3 hbr
    cases q
    ·have HBf : Hid (B = false) := Lib.hid (by rw [HE2.out]; rfl)
     go_wp2_with (fail)
     exact bodyPost_ret (v := .bool false) (by simp [results, Try.results61, go_sem]; try first | rfl | assumption | omega) rfl ⟨by rw [HBf.out], Hb3.out⟩
    ·have HBn : Hid (B = emp f (s.drop (k + 1))) := Lib.hid (by rw [HE2.out]; rfl)
     go_wp2_with (fail)
     exact ⟨⟨k + 1, by omega, by go_num, HBn, HA3, Hb3.out⟩, by simp [RowKit.intOf]; omega⟩
   ·rw [if_neg h0] at Hru
    rw [decide_eq_false h0, Bool.false_and, Bool.false_and] at HE2
    go_wp2_with (fail)
    refine Hru.out.mono ?_
    rintro e w3 ⟨rfl, hb3⟩
    have Hb3 := Lib.hid (hbr.trans (hb3.mono hbr.size))
    clear x0 x1 x2 xl hb3 hbr
    go_wp2_with (fail)
    exact bodyPost_ret (v := .bool false) (by simp [results, Try.results61, go_sem]; try first | rfl | assumption | omega) rfl ⟨by rw [HE2.out], Hb3.out⟩
  ·have hke : k = S := by omega
   have hkI : ¬ (k : Int) < (S : Int) := by omega
   have HBt : Hid (B = true) := Lib.hid (by rw [HE.out, List.drop_eq_nil_of_le (by rw [HS.out]; omega)]; rfl)
   clear hke
   go_wp2_with (fail)
   exact bodyPost_ret (v := .bool true) (by simp [results, Try.results61, go_sem]; try first | rfl | assumption | omega) rfl ⟨by rw [HBt.out], hbr⟩
set_option maxRecDepth 100000 in
set_option maxHeartbeats 16000000 in
theorem all9_any (l m : List Int) (a b : Option Addr) (ac bc : Nat) (P : Int → Prop) (w : World) (hl : Ints w a ac l) (hm : Ints w b bc m) (hr : Ris l P) (hP : ∀ t, P t → 0 ≤ t ∧ t ≤ 100) (hmr : ∀ t ∈ m, 0 ≤ t ∧ t ≤ 100) :
 Calls Try.prog 66 #[.slice a l.length ac, .slice b m.length bc] w fun e w' => ∃ oa oc, ∃ r : List Int, e = .returned (.slice oa r.length oc) ∧ Ints w' oa oc r ∧ Ris r (fun t => P t ∨ t ∈ m) ∧ (oa = a ∨ FrB w.heap.size oa) ∧ Below w.heap.size w w' := by
 have hmm : m.length ≤ bc ∧ bc ≤ 9223372036854775807 := ⟨by have := hm.le; rwa [List.length_map] at this, hm.max⟩
 obtain ⟨L, HL⟩ : ∃ q, Hid (l.length = q) := ⟨_, Lib.hid rfl⟩
 obtain ⟨M, HM⟩ : ∃ q, Hid (m.length = q) := ⟨_, Lib.hid rfl⟩
 rw [HM.out] at hmm ⊢
 rw [HL.out]
 have Hl := Lib.hid hl
 have Hm := Lib.hid hm
 have Hr := Lib.hid hr
 have HP := Lib.hid hP
 have Hmr := Lib.hid hmr
 clear hl hm hr hP hmr
 go_enter Try.func66, Try.ntmps66
 go_wp2_with (fail)
 go_loopw [0, 9] (fun sv iv wr => ∃ (k n : Nat) (oa : Option Addr) (oc : Nat) (r : List Int), k ≤ M ∧ iv = .int .i64 (k : Int) ∧ sv = .slice oa n oc ∧ Hid (n = r.length) ∧ Hid (Ints wr oa oc r) ∧ Hid (Ris r (fun t => P t ∨ t ∈ m.take k)) ∧ Hid (oa = a ∨ FrB w.heap.size oa) ∧ Below w.heap.size w wr) (fun _ iv _ => M - (RowKit.intOf iv).toNat)
 case atStart => exact ⟨0, L, a, ac, l, Nat.zero_le _, rfl, rfl, Lib.hid HL.out.symm, Hl, Lib.hid ⟨Hr.out.up, fun t => by rw [Hr.out.mem t]; simp⟩, Lib.hid (.inl rfl), Below.refl _ _⟩
 case round =>
  obtain ⟨k, n, oa, oc, r, hk, rfl, rfl, hn, HI, HR, HF, hbr⟩ := hrel
  obtain ⟨U, rfl⟩ : ∃ U, U = wr := ⟨_, rfl⟩
  by_cases hlt : k < M
  ·have hkI : (k : Int) < (M : Int) := by omega
   have hkI0 : (0 : Int) ≤ (k : Int) := by omega
   have hkl : k < m.length := by rw [HM.out]; exact hlt
   have hrow := Hm.out.grown hbr
   have HRn := Lib.hid (ris_take hkl HR.out)
   have hrl : r.length ≤ 300 := ris_len101 HR.out (fun t ht => ht.elim (HP.out t) (fun h => Hmr.out t (List.mem_of_mem_take h)))
   obtain ⟨b9, b9o, hb9⟩ := hrow.at_ k (by rw [List.length_map]; exact hkl)
   have cb9 := hrow.cell b9 b9o hb9 k (by rw [List.length_map]; exact hkl)
   rw [List.getElem_map] at cb9
   obtain ⟨x, hx⟩ : ∃ v, Hid (m[k] = v) := ⟨_, Lib.hid rfl⟩
   rw [hx.out] at cb9 HRn
   have hblb9 := World.block_lt_of_cell? _ _ cb9
   subst hb9
   have Hw := Lib.hid (with9_any r x oa oc U HI.out (by omega))
   rw [← hn.out] at Hw
   clear hrow hrl
   go_wp2_with (fail)
   refine Hw.out.mono ?_
   rintro e w9 ⟨⟨oa2, oc2, rfl, hi9, hf9⟩, hb9⟩
   have HI9 := Lib.hid hi9
   have HF9 : Hid (oa2 = a ∨ FrB w.heap.size oa2) := Lib.hid (by
    rcases hf9 with rfl | hf9
    ·exact HF.out
    ·exact .inr (fun b off e => Nat.le_trans hbr.size (hf9 b off e)))
   have Hb9 := Lib.hid (hbr.trans (hb9.mono hbr.size))
   clear hi9 hb9 hf9 Hw
   go_wp2_with (fail)
   exact ⟨⟨k + 1, _, oa2, oc2, _, by omega, by go_num, rfl, Lib.hid rfl, HI9, HRn, HF9, Hb9.out⟩, by simp [RowKit.intOf]; omega⟩
  ·have hke : k = M := by omega
   have hkI : ¬ (k : Int) < (M : Int) := by omega
   have HRe : Hid (Ris r (fun t => P t ∨ t ∈ m)) := Lib.hid (by have := HR.out; rwa [hke, List.take_of_length_le (by rw [HM.out]; exact Nat.le_refl _)] at this)
   have HFin : Hid (∃ oa' oc', ∃ r' : List Int, Ending.returned (.slice oa n oc) = .returned (.slice oa' r'.length oc') ∧ Ints U oa' oc' r' ∧ Ris r' (fun t => P t ∨ t ∈ m) ∧ (oa' = a ∨ FrB w.heap.size oa') ∧ Below w.heap.size w U) := Lib.hid ⟨oa, oc, r, by rw [hn.out], HI.out, HRe.out, HF.out, hbr⟩
   clear hke hbr
   go_wp2_with (fail)
   exact bodyPost_ret (v := .slice oa n oc) (by simp [results, Try.results66, go_sem]; try first | rfl | assumption | omega) rfl HFin.out
end Go.Proofs.Ytfdhaochnbfndaa
namespace Go.Proofs.Ytfdhaochnbfndaa
open Go.RowKit Go.Maps
attribute [local go_sem] Oper.semAt_some
/-- What begins a list, if so much begins each rule. -/
def ldQ (K : Nat → Int → Prop) (s : List Int) (t : Int) : Prop := ∃ y ∈ s, (0 ≤ y ∧ t = y) ∨ (y < 0 ∧ K (ruL y) t)
def ldP (K : Nat → Int → Prop) (f : Nat → Bool) (s : List Int) (t : Int) : Prop := ldQ K (ahd f s) t
theorem ldQ_app {K : Nat → Int → Prop} {s u : List Int} {t : Int} : ldQ K (s ++ u) t ↔ ldQ K s t ∨ ldQ K u t := by
 unfold ldQ
 constructor
 ·rintro ⟨y, hy, h⟩
  rcases List.mem_append.1 hy with hy | hy
  ·exact .inl ⟨y, hy, h⟩
  ·exact .inr ⟨y, hy, h⟩
 ·rintro (⟨y, hy, h⟩ | ⟨y, hy, h⟩)
  ·exact ⟨y, List.mem_append.2 (.inl hy), h⟩
  ·exact ⟨y, List.mem_append.2 (.inr hy), h⟩
theorem ldQ_one {K : Nat → Int → Prop} {x t : Int} : ldQ K [x] t ↔ (0 ≤ x ∧ t = x) ∨ (x < 0 ∧ K (ruL x) t) := by
 unfold ldQ
 simp
theorem ahd_at {f : Nat → Bool} {s : List Int} {k : Nat} (h : k < s.length) (he : emp f (s.take k) = true) (hx : (decide (s[k] < 0) && f (ruL s[k])) = false) : ahd f s = s.take k ++ [s[k]] := by
 have e : s = s.take k ++ s[k] :: s.drop (k + 1) := by rw [← List.drop_eq_getElem_cons h, List.take_append_drop]
 conv => lhs; rw [e]
 exact ahd_stop hx he
theorem emp_at {f : Nat → Bool} {s : List Int} {k : Nat} (h : k < s.length) (he : emp f (s.take k) = true) (hx : (decide (s[k] < 0) && f (ruL s[k])) = true) : emp f (s.take (k + 1)) = true := by
 rw [List.take_add_one, List.getElem?_eq_getElem h, emp_app, he]
 simpa [emp] using hx
theorem ris_or {P Q : Int → Prop} {r : List Int} (h : Ris r P) (e : ∀ t, P t ↔ Q t) : Ris r Q := ⟨h.up, fun t => (h.mem t).trans (e t)⟩
set_option maxRecDepth 100000 in
set_option maxHeartbeats 16000000 in
theorem lead9_any (d : CfD) (s : List Int) (sa : Option Addr) (sc : Nat) (na : Option Addr) (nc : Nat) (f : Nat → Bool) (ka : Option Addr) (kc : Nat) (ds : List IltD) (K : Nat → Int → Prop) (w : World) (hd : CfAt w d) (hs : Ints w sa sc s) (hn : BlsF w na nc d.alts.length f) (hx : ∀ x ∈ s, -(d.alts.length : Int) ≤ x ∧ x ≤ 100) (hl : d.alts.length ≤ 1000000) (hk : AltsI w ka kc ds) (hkl : ds.length = d.alts.length) (hK : ∀ r (h : r < ds.length), Ris ds[r].l (K r)) (hKb : ∀ r t, K r t → 0 ≤ t ∧ t ≤ 100) :
 Calls Try.prog 67 #[d.v, .slice sa s.length sc, .slice na d.alts.length nc, .slice ka ds.length kc] w fun e w' => ∃ oa oc, ∃ r : List Int, e = .returned (.slice oa r.length oc) ∧ Ints w' oa oc r ∧ Ris r (ldP K f s) ∧ Below w.heap.size w w' := by
 have HR := Lib.hid (fun x (hx : -(d.alts.length : Int) ≤ x ∧ x ≤ 1000000000) W (hb : Below w.heap.size w W) => rule9_any d x W (hd.grown hb) hx hl)
 have hsm : s.length ≤ sc ∧ sc ≤ 9223372036854775807 := ⟨by have := hs.le; rwa [List.length_map] at this, hs.max⟩
 have hnm : d.alts.length ≤ nc ∧ nc ≤ 9223372036854775807 := ⟨by have := hn.le; simpa using this, hn.max⟩
 have hkm : ds.length ≤ kc ∧ kc ≤ 9223372036854775807 := ⟨by have := hk.row.le; rwa [List.length_map] at this, hk.row.max⟩
 have Hs := Lib.hid hs
 have Hn := Lib.hid hn
 have Hx := Lib.hid hx
 have Hk := Lib.hid hk
 have HK := Lib.hid hK
 have HKb := Lib.hid hKb
 have Hkl := Lib.hid hkl
 obtain ⟨xt, xta, xtc, xn, xna, xnc, xa, xaa, xac⟩ := d
 dsimp only [CfD.v] at *
 rw [hkl] at hkm ⊢
 have hb1 : Below w.heap.size w (w.alloc (.cells #[.slice xta xt.length xtc, .slice xna xn.length xnc, .slice xaa xa.length xac] 25)) := (Below.refl _ w).alloc (Nat.le_refl _) _
 have hA := Blk.new w 25 #[.slice xta xt.length xtc, .slice xna xn.length xnc, .slice xaa xa.length xac]
 obtain ⟨T, HT⟩ : ∃ q, Hid (xt.length = q) := ⟨_, Lib.hid rfl⟩
 obtain ⟨N, HN⟩ : ∃ q, Hid (xn.length = q) := ⟨_, Lib.hid rfl⟩
 obtain ⟨L, HL⟩ : ∃ q, Hid (xa.length = q) := ⟨_, Lib.hid rfl⟩
 rw [HT.out, HN.out, HL.out] at hA hb1
 rw [HT.out, HN.out, HL.out]
 have x0 := hA.cell 0
 have x1 := hA.cell 1
 have x2 := hA.cell 2
 have xl := hA.lt
 simp only [List.getElem?_cons_zero, List.getElem?_cons_succ] at x0 x1 x2
 have HA := Lib.hid hA
 have Hb1 := Lib.hid hb1
 obtain ⟨S, HS⟩ : ∃ q, Hid (s.length = q) := ⟨_, Lib.hid rfl⟩
 rw [HS.out] at hsm ⊢
 rw [HL.out] at hnm hl Hn Hx hkm Hkl
 rw [HT.out, HN.out, HL.out] at HR
 clear hd hA hb1 hs hn hx hk hK hKb hkl
 go_enter Try.func67, Try.ntmps67
 go_wp2_with (fail)
 obtain ⟨bx, hbx⟩ : ∃ q, Hid (w.heap.size = q) := ⟨_, Lib.hid rfl⟩
 rw [hbx.out] at HA x0 x1 x2 xl ⊢
 generalize hV : World.alloc w _ = V at HA x0 x1 x2 xl Hb1 ⊢
 clear hV x0 x1 x2 xl
 go_loopw [9, 15] (fun sv iv wr => ∃ (k n : Nat) (oa : Option Addr) (oc : Nat) (r : List Int), k ≤ S ∧ iv = .int .i64 (k : Int) ∧ sv = .slice oa n oc ∧ Hid (n = r.length) ∧ Hid (Ints wr oa oc r) ∧ Hid (Ris r (ldQ K (s.take k))) ∧ Hid (emp f (s.take k) = true) ∧ Hid (Blk wr bx 25 [.slice xta T xtc, .slice xna N xnc, .slice xaa L xac]) ∧ Below w.heap.size w wr) (fun _ iv _ => S - (RowKit.intOf iv).toNat)
 case atStart => exact ⟨0, 0, none, 0, [], Nat.zero_le _, rfl, rfl, Lib.hid rfl, Lib.hid (Vs.nil _), Lib.hid ⟨List.Pairwise.nil, fun t => by simp [ldQ]⟩, Lib.hid rfl, HA, Hb1.out⟩
 case round =>
  clear HA Hb1
  obtain ⟨k, n, oa, oc, r, hk, rfl, rfl, hn, HI, Hr, HE, HA, hbr⟩ := hrel
  obtain ⟨U, rfl⟩ : ∃ U, U = wr := ⟨_, rfl⟩
  by_cases hlt : k < S
  ·have hkI : (k : Int) < (S : Int) := by omega
   have hkI0 : (0 : Int) ≤ (k : Int) := by omega
   have hkl : k < s.length := by rw [HS.out]; exact hlt
   have hrow := Hs.out.grown hbr
   have hst : s.take (k + 1) = s.take k ++ [s[k]] := by rw [List.take_add_one, List.getElem?_eq_getElem hkl]; rfl
   have hah : (decide (s[k] < 0) && f (ruL s[k])) = false → ahd f s = s.take k ++ [s[k]] := fun h => ahd_at hkl HE.out h
   have hem : (decide (s[k] < 0) && f (ruL s[k])) = true → emp f (s.take (k + 1)) = true := fun h => emp_at hkl HE.out h
   have hbd : ∀ t, ldQ K (s.take k) t → 0 ≤ t ∧ t ≤ 100 := fun t ht => by
    obtain ⟨y, hy, ⟨h1, rfl⟩ | ⟨_, h1⟩⟩ := ht
    ·exact ⟨h1, (Hx.out _ (List.mem_of_mem_take hy)).2⟩
    ·exact HKb.out _ t h1
   have Hbd := Lib.hid hbd
   obtain ⟨b, bo, hb⟩ := hrow.at_ k (by rw [List.length_map]; exact hkl)
   have cb := hrow.cell b bo hb k (by rw [List.length_map]; exact hkl)
   rw [List.getElem_map] at cb
   have hm := Hx.out _ (List.getElem_mem hkl)
   obtain ⟨x, hx⟩ : ∃ v, Hid (s[k] = v) := ⟨_, Lib.hid rfl⟩
   rw [hx.out] at cb hm hst hah hem
   have hblb := World.block_lt_of_cell? _ _ cb
   subst hb
   have x0 := HA.out.cell 0
   have x1 := HA.out.cell 1
   have x2 := HA.out.cell 2
   have xl := HA.out.lt
   simp only [List.getElem?_cons_zero, List.getElem?_cons_succ] at x0 x1 x2
   have Hah := Lib.hid hah
   have Hem := Lib.hid hem
   have Hst := Lib.hid hst
   have Hru := Lib.hid (HR.out x ⟨hm.1, by omega⟩ U hbr)
   clear hrow hst hah hem hbd
   by_cases h0 : x < 0
   ·rw [if_pos h0] at Hru
    rw [decide_eq_true h0, Bool.true_and] at Hah Hem
    have hge : ¬ (0 : Int) ≤ x := by omega
    have hrL : ruL x < L := by unfold ruL; omega
    have Hor : Hid (∀ t, (ldQ K (s.take k) t ∨ K (ruL x) t) ↔ ldQ K (s.take k ++ [x]) t) := Lib.hid (fun t => by
     rw [ldQ_app, ldQ_one]
     exact or_congr Iff.rfl ⟨fun h => .inr ⟨h0, h⟩, fun h => h.elim (fun h => absurd h.1 hge) (fun h => h.2)⟩)
    obtain ⟨ru, hru⟩ : ∃ r, Hid (ruL x = r) := ⟨_, Lib.hid rfl⟩
    rw [hru.out] at Hru Hah Hem hrL Hor
    have hrI : (ru : Int) < (L : Int) := by omega
    have hrI0 : (0 : Int) ≤ (ru : Int) := by omega
    go_wp2_with (fail)
    refine Hru.out.mono ?_
    rintro e w3 ⟨rfl, hb3⟩
    have Hb3 := Lib.hid (hbr.trans (hb3.mono hbr.size))
    have HA3 := Lib.hid (HA.out.below hb3 HA.out.lt)
    have HI3 := Lib.hid (HI.out.grown hb3)
    have hk3 := Hk.out.grown Hb3.out
    have hrd : ru < ds.length := by rw [Hkl.out]; exact hrL
    obtain ⟨k0, ko, hk0⟩ := hk3.row.at_ ru (by rw [List.length_map]; exact hrd)
    have ck := hk3.row.cell k0 ko hk0 ru (by rw [List.length_map]; exact hrd)
    rw [List.getElem_map] at ck
    have hki := hk3.nms _ (List.getElem_mem hrd)
    have hkr := HK.out ru hrd
    obtain ⟨u, hu⟩ : ∃ v, Hid (ds[ru] = v) := ⟨_, Lib.hid rfl⟩
    rw [hu.out] at ck hki hkr
    obtain ⟨ul, ua, uc⟩ := u
    change _ = some (Value.slice ua ul.length uc) at ck
    dsimp only at hki hkr
    have hblk := World.block_lt_of_cell? _ _ ck
    have Hall := Lib.hid (all9_any r ul oa ua oc uc (ldQ K (s.take k)) w3 HI3.out hki Hr.out Hbd.out (fun t ht => HKb.out _ t ((hkr.mem t).1 ht)))
    have Hkr := Lib.hid hkr
    rw [← hn.out] at Hall
    obtain ⟨UL, hUL⟩ : ∃ v, Hid (ul.length = v) := ⟨_, Lib.hid rfl⟩
    rw [hUL.out] at Hall ck
    subst hk0
    clear x0 x1 x2 xl hb3 hk3 hki hkr hbr
    go_wp2_with (fail)
    clear ck hblk
    refine Hall.out.mono ?_
    rintro e w4 ⟨oa2, oc2, r2, rfl, hi4, hr4, _, hb4⟩
    have HI4 := Lib.hid hi4
    have Hr4 : Hid (Ris r2 (ldQ K (s.take k ++ [x]))) := Lib.hid (ris_or hr4 (fun t => (or_congr Iff.rfl (Hkr.out.mem t)).trans (Hor.out t)))
    have Hb4 := Lib.hid (Hb3.out.trans (hb4.mono Hb3.out.size))
    have HA4 := Lib.hid (HA3.out.below hb4 HA3.out.lt)
    have hn4 := Vs.grown Hn.out Hb4.out
    obtain ⟨n0, no, hn0⟩ := hn4.at_ ru (by simpa using hrL)
    have cn := hn4.cell n0 no hn0 ru (by simpa using hrL)
    rw [range_at] at cn
    have hbln := World.block_lt_of_cell? _ _ cn
    subst hn0
    obtain ⟨q, hq⟩ : ∃ v, Hid (f ru = v) := ⟨_, Lib.hid rfl⟩
    rw [hq.out] at cn Hah Hem
    obtain ⟨n2, hn2⟩ : ∃ v, Hid (v = r2.length) := ⟨_, Lib.hid rfl⟩
    rw [← hn2.out]
    clear hi4 hr4 hb4 hn4
    cases q
    ·have hFin : Hid (∃ oa oc, ∃ r : List Int, Ending.returned (.slice oa2 n2 oc2) = .returned (.slice oa r.length oc) ∧ Ints w4 oa oc r ∧ Ris r (ldP K f s) ∧ Below w.heap.size w w4) := Lib.hid ⟨oa2, oc2, r2, by rw [hn2.out], HI4.out, by unfold ldP; rw [Hah.out rfl]; exact Hr4.out, Hb4.out⟩
     go_wp2_with (fail)
     exact bodyPost_ret (v := .slice oa2 n2 oc2) (by simp [results, Try.results67, go_sem]; try first | rfl | assumption | omega) rfl hFin.out
    ·have HEn : Hid (emp f (s.take (k + 1)) = true) := Lib.hid (Hem.out rfl)
     have HrN : Hid (Ris r2 (ldQ K (s.take (k + 1)))) := Lib.hid (by rw [Hst.out]; exact Hr4.out)
     go_wp2_with (fail)
     exact ⟨⟨k + 1, n2, oa2, oc2, r2, by omega, by go_num, rfl, hn2, HI4, HrN, HEn, HA4, Hb4.out⟩, by simp [RowKit.intOf]; omega⟩
   ·rw [if_neg h0] at Hru
    rw [decide_eq_false h0, Bool.false_and] at Hah
    have Hah2 := Lib.hid (Hah.out rfl)
    clear Hah Hem
    have hge : (0 : Int) ≤ x := by omega
    have Hor : Hid (∀ t, (ldQ K (s.take k) t ∨ t = x) ↔ ldQ K (s.take k ++ [x]) t) := Lib.hid (fun t => by
     rw [ldQ_app, ldQ_one]
     exact or_congr Iff.rfl ⟨fun h => .inl ⟨hge, h⟩, fun h => h.elim (fun h => h.2) (fun h => absurd h.1 h0)⟩)
    have hrl : r.length ≤ 300 := ris_len101 Hr.out Hbd.out
    go_wp2_with (fail)
    refine Hru.out.mono ?_
    rintro e w3 ⟨rfl, hb3⟩
    have Hb3 := Lib.hid (hbr.trans (hb3.mono hbr.size))
    have HI3 := Lib.hid (HI.out.grown hb3)
    have Hw := Lib.hid (with9_any r x oa oc w3 HI3.out (by omega))
    rw [← hn.out] at Hw
    clear x0 x1 x2 xl hb3 hrl hbr
    go_wp2_with (fail)
    refine Hw.out.mono ?_
    rintro e w4 ⟨⟨oa2, oc2, rfl, hi4, _⟩, hb4⟩
    have hFin : Hid (∃ oa oc, ∃ r' : List Int, Ending.returned (.slice oa2 (withZ r x).length oc2) = .returned (.slice oa r'.length oc) ∧ Ints w4 oa oc r' ∧ Ris r' (ldP K f s) ∧ Below w.heap.size w w4) := Lib.hid ⟨oa2, oc2, withZ r x, rfl, hi4, by unfold ldP; rw [Hah2.out]; exact ris_or (Hr.out.with_ x) Hor.out, Hb3.out.trans (hb4.mono Hb3.out.size)⟩
    clear hi4 hb4 Hw
    go_wp2_with (fail)
    exact bodyPost_ret (v := .slice oa2 (withZ r x).length oc2) (by simp [results, Try.results67, go_sem]; try first | rfl | assumption | omega) rfl hFin.out
  ·have hke : k = S := by omega
   have hkI : ¬ (k : Int) < (S : Int) := by omega
   have hFin : Hid (∃ oa' oc', ∃ r' : List Int, Ending.returned (.slice oa n oc) = .returned (.slice oa' r'.length oc') ∧ Ints U oa' oc' r' ∧ Ris r' (ldP K f s) ∧ Below w.heap.size w U) := Lib.hid (by
    have h1 := Hr.out
    have h2 := HE.out
    rw [hke, List.take_of_length_le (by rw [HS.out]; exact Nat.le_refl _)] at h1 h2
    exact ⟨oa, oc, r, by rw [hn.out], HI.out, by unfold ldP; rw [ahd_emp h2]; exact h1, hbr⟩)
   clear hke hbr
   go_wp2_with (fail)
   exact bodyPost_ret (v := .slice oa n oc) (by simp [results, Try.results67, go_sem]; try first | rfl | assumption | omega) rfl hFin.out
end Go.Proofs.Ytfdhaochnbfndaa
namespace Go.Proofs.Ytfdhaochnbfndaa
open Go.RowKit Go.Maps
attribute [local go_sem] Oper.semAt_some
/-- Where a round over rules and alternatives stands: what was kept is kept, what is known is true, what could be known is. -/
structure NuK (al : List (List (List Int))) (V0 V : Nat → Bool) (k j : Nat) : Prop where
 mono : ∀ r, V0 r = true → V r = true
 sound : ∀ r, V r = true → nulB al r = true
 done : ∀ r, r < k → ∀ a ∈ al.getD r [], emp V0 a = true → V r = true
 part : ∀ a ∈ (al.getD k []).take j, emp V0 a = true → V k = true
theorem NuK.start {al : List (List (List Int))} {V : Nat → Bool} (h : ∀ r, V r = true → nulB al r = true) : NuK al V V 0 0 := ⟨fun _ h => h, h, fun r hr => absurd hr (by omega), fun a ha => by simp at ha⟩
theorem NuK.put {al : List (List (List Int))} {V0 V : Nat → Bool} {k j : Nat} (h : NuK al V0 V k j) (hk : k < al.length) {a : List Int} (ha : (al.getD k [])[j]? = some a) {b : Bool} (hb : b = (V k || emp V a)) : NuK al V0 (fun s => if s = k then b else V s) k (j + 1) := by
 have hm : ∀ r, V r = true → (if r = k then b else V r) = true := fun r hr => by
  split
  ·next e => subst e; rw [hb, hr]; rfl
  ·exact hr
 refine ⟨fun r hr => hm r (h.mono r hr), fun r hr => ?_, fun r hr a ha he => hm r (h.done r hr a ha he), fun c hc he => ?_⟩
 ·split at hr
  ·next e =>
   subst e
   rw [hb, Bool.or_eq_true] at hr
   rcases hr with hr | hr
   ·exact h.sound _ hr
   ·exact (nul_iff hk).2 ⟨a, List.mem_of_getElem? ha, emp_mono h.sound hr⟩
  ·exact h.sound r hr
 ·rw [List.take_add_one, List.mem_append] at hc
  rcases hc with hc | hc
  ·exact hm k (h.part c hc he)
  ·rw [ha] at hc
   have : c = a := by simpa using hc
   subst this
   rw [if_pos rfl, hb, emp_mono h.mono he, Bool.or_true]
theorem NuK.row {al : List (List (List Int))} {V0 V : Nat → Bool} {k j : Nat} (h : NuK al V0 V k j) (hj : (al.getD k []).length ≤ j) : NuK al V0 V (k + 1) 0 :=
 ⟨h.mono, h.sound, fun r hr a ha he => by
  by_cases e : r = k
  ·subst e
   exact h.part a (by rwa [List.take_of_length_le hj]) he
  ·exact h.done r (by omega) a ha he, fun a ha => by simp at ha⟩
set_option maxRecDepth 100000 in
set_option maxHeartbeats 16000000 in
theorem nul9_any (d : CfD) (w : World) (hd : CfAt w d) (hf : FitC d) :
 Calls Try.prog 19 #[d.v] w (NulQ w d.alts.length (nulB (d.alts.map IrD.p))) := by
 have hAl : Hid (∀ k (h : k < d.alts.length), (d.alts.map IrD.p).getD k [] = (d.alts[k]).ds.map (fun x => x.l)) := Lib.hid (fun k h => by
  rw [List.getD_eq_getElem?_getD, List.getElem?_map, List.getElem?_eq_getElem h]
  rfl)
 have Hem := Lib.hid (fun (s : List Int) sa sc na nc (f : Nat → Bool) W (hb : Below w.heap.size w W) (hs : Ints W sa sc s) (hn : BlsF W na nc d.alts.length f) (hx : ∀ x ∈ s, -(d.alts.length : Int) ≤ x ∧ x ≤ 1000000000) => emp9_any d s sa sc na nc f W (hd.grown hb) hs hn hx (by have := hf.r; omega))
 have hpl : (d.alts.map IrD.p).length = d.alts.length := List.length_map _
 have hNB : Hid (∀ r : Nat, d.alts.length ≤ r → nulB (d.alts.map IrD.p) r = false) := Lib.hid (fun r h => by
  cases e : nulB (d.alts.map IrD.p) r
  ·rfl
  ·have := nulB_lt e
   rw [hpl] at this
   omega)
 obtain ⟨xt, xta, xtc, xn, xna, xnc, xa, xaa, xac⟩ := d
 obtain ⟨hx1, hx2, hx3, hx4⟩ := hd
 obtain ⟨hf1, hf2, hf3, hf4, hf5⟩ := hf
 dsimp only [CfD.v] at *
 have hxm : xa.length ≤ xac ∧ xac ≤ 9223372036854775807 := ⟨by have := hx3.le; rwa [List.length_map] at this, hx3.max⟩
 have HX3 := Lib.hid hx3
 have HX4 := Lib.hid hx4
 have HF4 := Lib.hid hf4
 have HF5 := Lib.hid hf5
 obtain ⟨al, hal9⟩ : ∃ q, Hid (xa.map IrD.p = q) := ⟨_, Lib.hid rfl⟩
 rw [hal9.out] at hAl hpl hNB ⊢
 obtain ⟨Q, hQ⟩ : ∃ Q, Hid (NulQ w xa.length (nulB al) = Q) := ⟨_, Lib.hid rfl⟩
 rw [hQ.out]
 have hb1 : Below w.heap.size w (w.alloc (.cells #[.slice xta xt.length xtc, .slice xna xn.length xnc, .slice xaa xa.length xac] 25)) := (Below.refl _ w).alloc (Nat.le_refl _) _
 have hA := Blk.new w 25 #[.slice xta xt.length xtc, .slice xna xn.length xnc, .slice xaa xa.length xac]
 obtain ⟨T, HT⟩ : ∃ q, Hid (xt.length = q) := ⟨_, Lib.hid rfl⟩
 obtain ⟨N, HN⟩ : ∃ q, Hid (xn.length = q) := ⟨_, Lib.hid rfl⟩
 obtain ⟨L, HL⟩ : ∃ q, Hid (xa.length = q) := ⟨_, Lib.hid rfl⟩
 rw [HT.out, HN.out, HL.out] at hA hb1
 rw [HT.out, HN.out, HL.out]
 have x0 := hA.cell 0
 have x1 := hA.cell 1
 have x2 := hA.cell 2
 have xl := hA.lt
 simp only [List.getElem?_cons_zero, List.getElem?_cons_succ] at x0 x1 x2
 have HA := Lib.hid hA
 have Hb1 := Lib.hid hb1
 rw [HL.out] at hxm hf1 hf2 hQ hpl hNB
 rw [HL.out, HT.out] at HF5
 rw [HT.out, HN.out, HL.out] at Hem
 have HQ := Lib.hid hQ.out
 have Hpl := Lib.hid hpl
 have hround := Lib.hid (fun V0 V h1 h2 k hk => nul_round (al := al) (V0 := V0) (V := V) h1 h2 k hk)
 obtain ⟨iE, hiE, hzE, hsE, hbE⟩ := info_parts info_elB
 have Hmk := Lib.hid (fun (W : World) => run_makeSlice_full (P := Try.prog) (w := W) w.heap.size 29 4 iE (.bool false) 1 Try.underlying29 hiE hzE hsE .i64 .i64 L (by omega) (by rw [hbE]; omega) (by unfold maxLen; omega))
 rw [HT.out] at hf3
 clear hA hx1 hx2 hx3 hx4 hf4 hf5 hQ hb1 hpl x0 x1 hiE hzE hsE hbE
 obtain ⟨w2, hrun2, ho2, hg2⟩ := Hmk.out _ Hb1.out.size
 rw [made_fill _ rfl, rng_const] at ho2
 have HA2 := Lib.hid (HA.out.kept hg2 (by simp))
 have Hb2 := Lib.hid (Hb1.out.trans (belowAt hg2 (B := w.heap.size) (fun i e => by cases e) Hb1.out.size))
 have HO2 : Hid (OwnBl w2 w.heap.size (some ⟨w.heap.size + 1, 0, none⟩) L L (fun _ => false)) := Lib.hid (by simpa using ho2)
 rw [show (w.alloc (.cells #[.slice xta T xtc, .slice xna N xnc, .slice xaa L xac] 25)).heap.size = w.heap.size + 1 by simp] at hrun2
 clear ho2 hg2 Hmk
 go_enter Try.func19, Try.ntmps19
 go_wp2_with (fail)
 clear hrun2 x2 xl
 obtain ⟨bx, hbx⟩ : ∃ q, Hid (w.heap.size = q) := ⟨_, Lib.hid rfl⟩
 have hbW : bx ≤ w.heap.size := by rw [hbx.out]; exact Nat.le_refl _
 have hbW2 : w.heap.size ≤ bx := by rw [hbx.out]; exact Nat.le_refl _
 rw [hbx.out] at HA2 HO2 ⊢
 obtain ⟨g, hg⟩ : ∃ q, Hid (bx + 1 = q) := ⟨_, Lib.hid rfl⟩
 have hgb : bx ≠ g := by rw [← hg.out]; omega
 rw [hg.out] at HO2 ⊢
 have Hst0 : Hid (nulL al (fun _ => false) ≤ L) := Lib.hid (by
  unfold nulL
  have := List.countP_le_length (p := fun r => nulB al r && !(fun _ : Nat => false) r) (l := List.range al.length)
  rw [List.length_range] at this
  exact Nat.le_trans this (Nat.le_of_eq Hpl.out))
 go_loopw [14] (fun iv wr => ∃ (i : Nat) (V : Nat → Bool), i ≤ L ∧ iv = .int .i64 (i : Int) ∧ Hid (∀ r, V r = true → nulB al r = true) ∧ Hid (nulL al V ≤ L - i) ∧ Hid (OwnBl wr bx (some ⟨g, 0, none⟩) L L V) ∧ Hid (Blk wr bx 25 [.slice xta T xtc, .slice xna N xnc, .slice xaa L xac]) ∧ Below w.heap.size w wr) (fun iv _ => L - (RowKit.intOf iv).toNat)
 case atStart => exact ⟨0, _, Nat.zero_le _, rfl, Lib.hid (fun r h => by cases h), Hst0, HO2, HA2, Hb2.out⟩
 case round =>
  clear HO2 HA2 Hb2 Hst0
  obtain ⟨i, V0, hi, rfl, Hsd, Hct, HO, HAr, hbr⟩ := hrel
  obtain ⟨U0, rfl⟩ : ∃ U, U = wr := ⟨_, rfl⟩
  by_cases hlti : i < L
  ·have hiI : (i : Int) < (L : Int) := by omega
   have x2 := HAr.out.cell 2
   have xl := HAr.out.lt
   simp only [List.getElem?_cons_zero, List.getElem?_cons_succ] at x2
   have Hnk := Lib.hid (NuK.start (V := V0) Hsd.out)
   go_wp2_with (fail)
   clear x2 xl
   go_loopw [19] (fun iv wr => ∃ (k : Nat) (V : Nat → Bool), k ≤ L ∧ iv = .int .i64 (k : Int) ∧ Hid (NuK al V0 V k 0) ∧ Hid (OwnBl wr bx (some ⟨g, 0, none⟩) L L V) ∧ Hid (Blk wr bx 25 [.slice xta T xtc, .slice xna N xnc, .slice xaa L xac]) ∧ Below w.heap.size w wr) (fun iv _ => L - (RowKit.intOf iv).toNat)
   case atStart => exact ⟨0, V0, Nat.zero_le _, rfl, Hnk, HO, HAr, hbr⟩
   case round =>
    clear HO HAr hbr Hnk
    obtain ⟨k, V, hk, rfl, HK, HO, HAr, hbr⟩ := hrel
    obtain ⟨U, rfl⟩ : ∃ U, U = wr := ⟨_, rfl⟩
    by_cases hlt : k < L
    ·have hkI : (k : Int) < (L : Int) := by omega
     have hkI0 : (0 : Int) ≤ (k : Int) := by omega
     have hkl : k < xa.length := by rw [HL.out]; exact hlt
     have hrow := HX3.out.grown hbr
     have hst := hAl.out k hkl
     obtain ⟨p, po, hp⟩ := hrow.at_ k (by rw [List.length_map]; exact hkl)
     have cp := hrow.cell p po hp k (by rw [List.length_map]; exact hkl)
     rw [List.getElem_map] at cp
     have hm : xa[k] ∈ xa := List.getElem_mem hkl
     obtain ⟨e, he⟩ : ∃ v, Hid (xa[k] = v) := ⟨_, Lib.hid rfl⟩
     rw [he.out] at cp hm hst
     have hblp := World.block_lt_of_cell? _ _ cp
     obtain ⟨ed, ea, ec⟩ := e
     change _ = some (Value.slice ea ed.length ec) at cp
     have hal : AltsI w ea ec ed := HX4.out _ hm
     have hdm : ed.length ≤ ec ∧ ec ≤ 9223372036854775807 := ⟨by have := hal.row.le; rwa [List.length_map] at this, hal.row.max⟩
     have hd30 : ed.length ≤ 30 := HF4.out _ hm
     have hok := Lib.hid (HF5.out _ hm)
     have Hal := Lib.hid hal
     have Hst := Lib.hid hst
     obtain ⟨M, hM⟩ : ∃ q, Hid (ed.length = q) := ⟨_, Lib.hid rfl⟩
     rw [hM.out] at cp hdm hd30
     subst hp
     clear hm hal hrow hst
     go_wp2_with (fail)
     clear cp hblp
     go_loopw [26] (fun jv wr => ∃ (j : Nat) (V : Nat → Bool), j ≤ M ∧ jv = .int .i64 (j : Int) ∧ Hid (NuK al V0 V k j) ∧ Hid (OwnBl wr bx (some ⟨g, 0, none⟩) L L V) ∧ Hid (Blk wr bx 25 [.slice xta T xtc, .slice xna N xnc, .slice (some ⟨p, po, none⟩) L xac]) ∧ Below w.heap.size w wr) (fun jv _ => M - (RowKit.intOf jv).toNat)
     case atStart => exact ⟨0, V, Nat.zero_le _, rfl, HK, HO, HAr, hbr⟩
     case round =>
      clear HK HO HAr hbr
      obtain ⟨j, V, hj, rfl, HK, HO, HAr, hbr⟩ := hrel
      obtain ⟨U2, rfl⟩ : ∃ U, U = wr := ⟨_, rfl⟩
      by_cases hltj : j < M
      ·have hjI : (j : Int) < (M : Int) := by omega
       have hjI0 : (0 : Int) ≤ (j : Int) := by omega
       have hjl : j < ed.length := by rw [hM.out]; exact hltj
       have hrow := Hal.out.row.grown hbr
       have hok2 := hok.out _ (List.getElem_mem hjl)
       have hin : (al.getD k [])[j]? = some (ed[j]).l := by rw [Hst.out, List.getElem?_map, List.getElem?_eq_getElem hjl]; rfl
       have hnm := (Hal.out.nms _ (List.getElem_mem hjl)).grown hbr
       obtain ⟨c, co, hc⟩ := hrow.at_ j (by rw [List.length_map]; exact hjl)
       have cc := hrow.cell c co hc j (by rw [List.length_map]; exact hjl)
       rw [List.getElem_map] at cc
       obtain ⟨e, he⟩ : ∃ v, Hid (ed[j] = v) := ⟨_, Lib.hid rfl⟩
       rw [he.out] at cc hok2 hin hnm
       have hblc := World.block_lt_of_cell? _ _ cc
       obtain ⟨el, ela, elc⟩ := e
       change _ = some (Value.slice ela el.length elc) at cc
       dsimp only at hok2 hin hnm
       have hpt := Lib.hid (fun (b : Bool) (hb : b = (V k || emp V el)) => HK.out.put (by rw [Hpl.out]; exact hlt) hin hb)
       have Hcl := Lib.hid (Hem.out el ela elc (some ⟨g, 0, none⟩) L V U2 hbr hnm HO.out.bls (fun x hx => ⟨(hok2.2 x hx).1, by have := (hok2.2 x hx).2; omega⟩))
       have z0 := HO.out.cellAt k (by rw [Nat.mul_one]; exact hlt)
       rw [rng_cell _ _ hlt] at z0
       have zl : g < U2.heap.size := (World.ownsRow.lt HO.out g rfl).2
       have x0 := HAr.out.cell 0
       have x1 := HAr.out.cell 1
       have x2 := HAr.out.cell 2
       have xl := HAr.out.lt
       simp only [List.getElem?_cons_zero, List.getElem?_cons_succ] at x0 x1 x2
       obtain ⟨EL, hEL⟩ : ∃ q, Hid (el.length = q) := ⟨_, Lib.hid rfl⟩
       rw [hEL.out] at Hcl cc
       obtain ⟨y, hy⟩ : ∃ q, Hid (V k = q) := ⟨_, Lib.hid rfl⟩
       rw [hy.out] at z0 hpt
       obtain ⟨E, hE⟩ : ∃ q, Hid (emp V el = q) := ⟨_, Lib.hid rfl⟩
       rw [hE.out] at hpt Hcl
       subst hc
       clear hrow hnm hin hok2
       cases y
       ·have HK2 : Hid (NuK al V0 (fun s => if s = k then E else V s) k (j + 1)) := Lib.hid (hpt.out E (by rw [Bool.false_or]))
        have zf := own_frz (j := k) HO.out
        go_wp2_with (fail)
        refine Hcl.out.mono ?_
        rintro e w5 ⟨rfl, hb5⟩
        have hO5 := World.ownsRow.kept HO.out (below_grownBy hb5 none) (by cases e : (Value.slice (some ⟨g, 0, none⟩) L L).ownBlock <;> simp)
        have HA5 := Lib.hid (HAr.out.below hb5 HAr.out.lt)
        have hbr5 := hbr.trans (hb5.mono hbr.size)
        clear z0 zl zf x0 x1 x2 xl hb5 hbr
        have zf := own_frz (j := k) hO5
        have zl : g < w5.heap.size := (World.ownsRow.lt hO5 g rfl).2
        have z0 := hO5.cellAt k (by rw [Nat.mul_one]; exact hlt)
        rw [rng_cell _ _ hlt, hy.out] at z0
        obtain ⟨hO7, hg7⟩ := hO5.stored k (.bool E)
        have HO7 : Hid (OwnBl (w5.setCell ⟨g, k, none⟩ (.bool E)) bx (some ⟨g, 0, none⟩) L L (fun s => if s = k then E else V s)) := Lib.hid (by
         rw [set_rng] at hO7
         unfold OwnBl
         refine (congrArg (fun l => (w5.setCell ⟨g, k, none⟩ (.bool E)).ownsRow bx 4 1 (.slice (some ⟨g, 0, none⟩) L L) L l) (List.map_congr_left (fun s _ => ?_))).mp hO7
         dsimp only
         split <;> rfl)
        have HA7 := Lib.hid (HA5.out.kept hg7 (by simpa using hgb))
        have Hb7 := Lib.hid (hbr5.trans (belowAt hg7 (B := w.heap.size) (fun i e => by injection e with e; have := (World.ownsRow.lt hO5 g rfl).1; omega) hbr5.size))
        clear hO7 hg7 hbr5 hO5
        go_wp2_with (fail)
        exact ⟨⟨j + 1, _, by omega, by go_num, HK2, HO7, HA7, Hb7.out⟩, by simp [RowKit.intOf]; omega⟩
       ·have HK2 : Hid (NuK al V0 (fun s => if s = k then true else V s) k (j + 1)) := Lib.hid (hpt.out true (by rw [Bool.true_or]))
        have zf := own_frz (j := k) HO.out
        obtain ⟨hO7, hg7⟩ := HO.out.stored k (.bool true)
        have HO7 : Hid (OwnBl (U2.setCell ⟨g, k, none⟩ (.bool true)) bx (some ⟨g, 0, none⟩) L L (fun s => if s = k then true else V s)) := Lib.hid (by
         rw [set_rng] at hO7
         unfold OwnBl
         refine (congrArg (fun l => (U2.setCell ⟨g, k, none⟩ (.bool true)).ownsRow bx 4 1 (.slice (some ⟨g, 0, none⟩) L L) L l) (List.map_congr_left (fun s _ => ?_))).mp hO7
         dsimp only
         split <;> rfl)
        have HA7 := Lib.hid (HAr.out.kept hg7 (by simpa using hgb))
        have Hb7 := Lib.hid (hbr.trans (belowAt hg7 (B := w.heap.size) (fun i e => by injection e with e; have := (World.ownsRow.lt HO.out g rfl).1; omega) hbr.size))
        clear hO7 hg7 hbr HO HAr
        go_wp2_with (fail)
        exact ⟨⟨j + 1, _, by omega, by go_num, HK2, HO7, HA7, Hb7.out⟩, by simp [RowKit.intOf]; omega⟩
      ·have hje : j = M := by omega
       have hjI : ¬ (j : Int) < (M : Int) := by omega
       have HK2 : Hid (NuK al V0 V (k + 1) 0) := Lib.hid (HK.out.row (by rw [Hst.out, List.length_map, hM.out, hje]; exact Nat.le_refl _))
       clear hje
       go_wp2_with (fail)
       exact ⟨⟨k + 1, V, by omega, by go_num, HK2, HO, HAr, hbr⟩, by simp [RowKit.intOf]; omega⟩
    ·have hke : k = L := by omega
     have hkI : ¬ (k : Int) < (L : Int) := by omega
     have Hct2 : Hid (nulL al V ≤ L - (i + 1)) := Lib.hid (by
      have := hround.out V0 V HK.out.mono (fun r hr a ha he => HK.out.done r (by rw [hke, ← Hpl.out]; exact hr) a ha he) (L - i) Hct.out
      omega)
     have Hsd2 : Hid (∀ r, V r = true → nulB al r = true) := Lib.hid HK.out.sound
     clear hke
     go_wp2_with (fail)
     exact ⟨⟨i + 1, V, by omega, by go_num, Hsd2, Hct2, HO, HAr, hbr⟩, by simp [RowKit.intOf]; omega⟩
  ·have hie : i = L := by omega
   have hiI : ¬ (i : Int) < (L : Int) := by omega
   have HOe : Hid (OwnBl U0 w.heap.size (some ⟨g, 0, none⟩) L L (nulB al)) := Lib.hid (by
    have h1 := nul_all (al := al) (V := V0) (by have := Hct.out; omega) Hsd.out
    have h2 := HO.out
    rw [← hbx.out] at h2
    unfold OwnBl at h2 ⊢
    refine (congrArg (fun l => U0.ownsRow w.heap.size 4 1 (.slice (some ⟨g, 0, none⟩) L L) L l) (List.map_congr_left (fun r hr => ?_))).mp h2
    rw [h1 r (by rw [Hpl.out]; exact List.mem_range.1 hr)])
   clear hie
   go_wp2_with (fail)
   first | (change Q (.returned (.slice (some ⟨g, 0, none⟩) L L)) U0; rw [← HQ.out]; exact ⟨some ⟨g, 0, none⟩, L, rfl, HOe.out, hbr⟩) | exact bodyPost_ret (v := .slice (some ⟨g, 0, none⟩) L L) (by simp [results, Try.results19, go_sem]; try first | rfl | assumption | omega) rfl (by rw [← HQ.out]; exact ⟨some ⟨g, 0, none⟩, L, rfl, HOe.out, hbr⟩)
end Go.Proofs.Ytfdhaochnbfndaa
