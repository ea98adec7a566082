/- wire.Encode. -/
import Derived.Test.YtahibjiiaocjkaaHead2
namespace Go.Proofs.Ytahibjiiaocjkaa
open Go.RowKit Go.Shelf

attribute [local go_sem] Oper.semAt_some

/-- The bytes of these nodes, one behind the other. -/
def encL (all : List Nd) : List UInt8 := (all.map fun x => headB x.h x.len).flatten
/-- What Encode writes. -/
def encB (all : List Nd) : List UInt8 := if checkE all = 0 then encL all else []
/-- How much room is surely enough. -/
def wt : List Nd → Nat
  | [] => 0
  | x :: r => 30 + x.h.s.size + wt r

theorem encL_snoc (all : List Nd) (x : Nd) : encL (all ++ [x]) = encL all ++ headB x.h x.len := by simp [encL]
theorem wt_append (a b : List Nd) : wt (a ++ b) = wt a + wt b := by induction a <;> simp [wt, *]; omega

theorem headB_le (h : Hd) (len : Nat) (hl : len < 9223372036854775808) (hs : h.s.size < 9223372036854775808) : (headB h len).length ≤ 30 + h.s.size := by
  have c1 := countB_length (n := len) hl
  have c2 := countB_length (n := h.s.size) hs
  have hd : h.s.data.toList.length = h.s.size := by rw [Array.length_toList]; rfl
  unfold headB
  simp only [List.length_cons]
  split
  · rw [hiB_length]; omega
  · split
    · rw [List.length_append, hd]; omega
    · omega

theorem pre_len (f : Fo) : ∀ d, ∀ x ∈ f.pre d, x.len ≤ f.size := by
  induction f with
  | nil => intro d x hx; simp [Fo.pre] at hx
  | cons h kids rest ihk ihr =>
    intro d x hx
    simp only [Fo.pre, List.mem_cons, List.mem_append] at hx
    rcases hx with rfl | hx | hx
    · have := kids.len_le; simp [Fo.size]; omega
    · have := ihk _ x hx; simp [Fo.size]; omega
    · have := ihr _ x hx; simp [Fo.size]; omega

theorem encL_le (all : List Nd) (h : ∀ x ∈ all, x.len < 9223372036854775808 ∧ x.h.s.size < 9223372036854775808) : (encL all).length ≤ wt all := by
  induction all with
  | nil => simp [encL, wt]
  | cons x r ih =>
    have h1 := headB_le x.h x.len (h x (by simp)).1 (h x (by simp)).2
    have h2 := ih (fun y hy => h y (by simp [hy]))
    simp only [encL, List.map_cons, List.flatten_cons, List.length_append, wt]
    unfold encL at h2
    omega

/-- Between two rounds: the variable out holds what was written. -/
def EncI (w : World) (B : Nat) (pre : List Nx) (W : World) : Prop :=
  Below w.heap.size w W ∧ ∃ a c, Boxed W B 31 (.slice a (encL (pre.map (·.nd))).length c) ∧ OwnB W w.heap.size a (encL (pre.map (·.nd))).length c (encL (pre.map (·.nd)))

theorem encI_bears (w : World) (B n : Nat) (hn : w.heap.size ≤ n) : Bears n itT (EncI w B) := by
  rintro s W W' row ⟨hB, a, c, hb, ho⟩ hg hr
  refine ⟨bears_below (β := Unit) hn (Nat.le_refl _) () W W' row hB hg hr, a, c, bears_boxed (β := Unit) n B 31 (by decide) (fun _ => _) () W W' row hb hg hr, ?_⟩
  by_cases hob : (Value.slice a (encL (s.map (·.nd))).length c).ownBlock = none
  · exact ho.kept hg (.inl hob)
  refine ho.kept hg (.inr fun e => ?_)
  cases hrow : row with
  | none => exact hob (e.trans hrow)
  | some i =>
    rw [hrow] at e
    obtain ⟨_, cs, fr, e2⟩ := ho.row i e
    obtain ⟨_, o, e3, ht⟩ := hr i hrow
    rw [e2] at e3
    cases e3
    rcases ht with ht | ⟨cs', t', fr', e4, ht⟩
    · cases ht
    · cases e4; cases ht

set_option maxRecDepth 100000 in
set_option maxHeartbeats 400000 in
theorem wencode_any (hh : Hd) (kids : Fo) (a : Option Addr) (cap : Nat) (w : World) (hk : Items w a cap kids) (hN : kids.size ≤ 1099511627776) (hwt : wt (Fo.pre 1 (.cons hh kids .nil)) ≤ 70368744177664) :
    Calls Try.prog 20 #[itemV hh a kids.len cap] w fun e w' => ∃ a' c', e = .returned (.tuple #[.slice a' (encB (Fo.pre 1 (.cons hh kids .nil))).length c', .int .i64 (checkE (Fo.pre 1 (.cons hh kids .nil)))]) ∧
      OwnB w' w.heap.size a' (encB (Fo.pre 1 (.cons hh kids .nil))).length c' (encB (Fo.pre 1 (.cons hh kids .nil))) ∧ Below w.heap.size w w' := by
  refine (callsIn_wide (n := 0)).1 ?_
  refine callsIn_of_wp_marks Try.func20 rfl trivial ?_ rfl
  simp only [Try.ntmps20, List.size_toArray, List.length_cons, List.length_nil, Nat.reduceAdd, Nat.reduceSub, Array.replicate_succ, Array.replicate_zero, List.push_toArray, List.append_toArray, List.nil_append, List.cons_append]
  have hb0 := Blk.new w 24 #[.int .i64 hh.k, .int .i64 hh.n, .string hh.s, .slice a kids.len cap]
  have hbel0 : Below w.heap.size w (w.alloc (.cells #[.int .i64 hh.k, .int .i64 hh.n, .string hh.s, .slice a kids.len cap] 24)) := (Below.refl _ w).alloc (Nat.le_refl _) _
  have hk1 := hk.grown hbel0
  gi_wp2_with (fail)
  refine ⟨trivial, rfl, ((callsIn_wide (n := 0)).2 (wcheck_any hh kids a cap _ hk1 hN)).mono ?_⟩
  rintro e w1 ⟨rfl, hb1⟩
  have hbx := hb0.below hb1 hb0.lt
  have hbel1 := hbel0.trans (hb1.mono hbel0.size)
  have hencE : encB (Fo.pre 1 (.cons hh kids .nil)) = if checkE (Fo.pre 1 (.cons hh kids .nil)) = 0 then encL (Fo.pre 1 (.cons hh kids .nil)) else [] := rfl
  have HencE := Lib.hid hencE
  clear hencE hb0 hbel0 hk1 hb1
  generalize hEq : checkE (Fo.pre 1 (.cons hh kids .nil)) = E at HencE
  have HEq := Lib.hid hEq
  clear hEq
  have hz := hbel1.size
  have hlt1 := hbx.lt
  have x0 := hbx.cell 0
  have x1 := hbx.cell 1
  have x2 := hbx.cell 2
  have x3 := hbx.cell 3
  simp only [List.getElem?_cons_zero, List.getElem?_cons_succ] at x0 x1 x2 x3
  by_cases hE : E = 0
  · have hE1 : (E != 0) = false := by simp [hE]
    have HE := Lib.hid hE
    clear hE
    gi_wp2_with (fail)
    refine ⟨trivial, rfl, ((callsIn_wide (n := 0)).2 (all_any _ rfl _)).mono ?_⟩
    rintro e w' ⟨rfl, rfl⟩
    gi_wp2_with (fail)
    have hbo : Boxed (((w1.alloc (.cells #[.slice none 0 0] 31)).alloc (.cells #[.int .i64 hh.k, .int .i64 hh.n, .string hh.s, .slice a kids.len cap] 24)).alloc (.cells #[inV] 55)) w1.heap.size 31 (.slice none 0 0) := ((Boxed.new w1 31 (.slice none 0 0)).alloc _).alloc _
    have hB3 := (Blk.new (w1.alloc (.cells #[.slice none 0 0] 31)) 24 #[.int .i64 hh.k, .int .i64 hh.n, .string hh.s, .slice a kids.len cap]).alloc (.cells #[inV] 55)
    have hBi := World.alloc_heap_new ((w1.alloc (.cells #[.slice none 0 0] 31)).alloc (.cells #[.int .i64 hh.k, .int .i64 hh.n, .string hh.s, .slice a kids.len cap] 24)) (.cells #[inV] 55)
    rw [World.size_alloc, World.size_alloc] at hBi
    rw [World.size_alloc] at hB3
    have hbel : Below w.heap.size w (((w1.alloc (.cells #[.slice none 0 0] 31)).alloc (.cells #[.int .i64 hh.k, .int .i64 hh.n, .string hh.s, .slice a kids.len cap] 24)).alloc (.cells #[inV] 55)) := ((hbel1.alloc hz _).alloc (by simp; omega) _).alloc (by simp; omega) _
    have hws : w1.heap.size + 3 ≤ (((w1.alloc (.cells #[.slice none 0 0] 31)).alloc (.cells #[.int .i64 hh.k, .int .i64 hh.n, .string hh.s, .slice a kids.len cap] 24)).alloc (.cells #[inV] 55)).heap.size := by simp
    clear x0 x1 x2 x3 hbx
    generalize (((w1.alloc (.cells #[.slice none 0 0] 31)).alloc (.cells #[.int .i64 hh.k, .int .i64 hh.n, .string hh.s, .slice a kids.len cap] 24)).alloc (.cells #[inV] 55)) = wl at hbo hB3 hBi hbel hws ⊢
    refine range_law (T := itT) (n₀ := w.heap.size) (encs := encs) (Good := Good (Fo.pre 1 (.cons hh kids .nil))) (Full := Full (Fo.pre 1 (.cons hh kids .nil))) (gf := 49) (lb := #[.pointer (some ⟨w1.heap.size + 1, 0, none⟩), .pointer (some ⟨w1.heap.size + 1 + 1, 0, none⟩)]) rfl (enters_of Try.func49 (by kernel_rfl) rfl)
      hbel.size (all_walks w wl (w1.heap.size + 1) (w1.heap.size + 1 + 1) hh kids a cap hk hbel hN (hB3.cell 0) (hB3.cell 1) (hB3.cell 2) (hB3.cell 3) hBi) (fun _ => rfl)
      (EncI w w1.heap.size) (fun _ _ => False) (encI_bears w _ _ hbel.size) (fun _ _ _ _ hs _ _ => hs) ⟨hbel, none, 0, hbo, OwnB.nil _ _⟩ ?round ?done ?stop
    case round =>
      rintro l pre ⟨⟨d, hd, len⟩, xa, xcap⟩ W hl ⟨r, hr⟩ hI hgood
      obtain ⟨hB, ao, co, hbo1, hown⟩ := hI
      have hroom : (encL (pre.map (·.nd))).length + 30 + hd.s.size ≤ 70368744177664 ∧ len < 9223372036854775808 := by
        obtain ⟨rr, hrr⟩ := hgood
        rw [List.map_append] at hrr
        have hmem : ∀ x ∈ Fo.pre 1 (.cons hh kids .nil), x.len < 9223372036854775808 ∧ x.h.s.size < 9223372036854775808 := by
          intro x hx
          have h1 := pre_len _ 1 x hx
          refine ⟨by simp [Fo.size] at h1; omega, ?_⟩
          have : ∀ (l : List Nd), x ∈ l → x.h.s.size ≤ wt l := by
            intro l
            induction l with
            | nil => intro h; cases h
            | cons y r ih => intro h; rcases List.mem_cons.1 h with rfl | h
                             · simp [wt]; omega
                             · have := ih h; simp [wt]; omega
          have := this _ hx
          omega
        have hle := encL_le (pre.map (·.nd)) (fun x hx => hmem x (by rw [← hrr]; simp only [List.mem_append]; exact .inl (.inl hx)))
        have hlen := (hmem ⟨d, hd, len⟩ (by rw [← hrr]; simp)).1
        rw [← hrr, wt_append, wt_append] at hwt
        simp only [List.map_cons, List.map_nil, wt] at hwt
        exact ⟨by omega, hlen⟩
      obtain ⟨hr1, hr2⟩ := hroom
      have hsn := Lib.hid (encL_snoc (pre.map (·.nd)) ⟨d, hd, len⟩)
      have hmap : (pre ++ [(⟨⟨d, hd, len⟩, xa, xcap⟩ : Nx)]).map (·.nd) = pre.map (·.nd) ++ [⟨d, hd, len⟩] := by simp
      have Hmap := Lib.hid hmap
      clear hgood hmap
      generalize encL (pre.map (·.nd)) = L at hbo1 hown hr1 hsn
      dsimp only [encs, itemV]
      have hlW : l < W.heap.size := (Array.getElem?_eq_some_iff.1 hr).1
      gi_wp2_with (fail)
      refine ⟨(KeepsOthers.alloc W _).from _, Spares.grown (World.grownBy_alloc W _ none) hB.size (fun r e => by cases e), fun W2 hg2 => ?_⟩
      have hx := (Blk.new W 24 #[.int .i64 hd.k, .int .i64 hd.n, .string hd.s, .slice xa len xcap]).kept hg2 (by simp; omega)
      have hb1 := (hbo1.alloc (.cells #[.int .i64 hd.k, .int .i64 hd.n, .string hd.s, .slice xa len xcap] 24)).kept hg2 (by simp; omega)
      have ho2 : OwnB W2 w.heap.size ao L.length co L := OwnB.kept (World.ownsRow.alloc hown _) hg2 (by
        by_cases hob : (Value.slice ao L.length co).ownBlock = none
        · exact .inl hob
        · refine .inr fun e => ?_
          obtain ⟨_, cs, fr, e2⟩ := hown.row l e
          rw [hr] at e2; cases e2)
      have hB2 : Below w.heap.size w W2 := hB.trans (((Below.refl w.heap.size W).alloc hB.size _).grown hg2 (by have := hB.size; simp; omega) (fun k e => by cases e; omega))
      have x0 := hx.cell 0
      have x1 := hx.cell 1
      have x2 := hx.cell 2
      have x3 := hx.cell 3
      simp only [List.getElem?_cons_zero, List.getElem?_cons_succ] at x0 x1 x2 x3
      have kb := hb1.cell
      clear hx hg2 hr hB hlW hbo1 hown
      gi_wp2_with (fail)
      refine ⟨trivial, rfl, (CallsIn.inRound l ((callsIn_wide (n := 0)).2 (head_any hd ao xa L.length co len xcap w.heap.size L _ ho2 (by omega) hB2.size hr2))).mono ?_⟩
      rintro e W3 ⟨a3, c3, rfl, ho3, hon3⟩
      have hb3 := hon3.boxed hb1 (by decide)
      have k3 := hb3.cell
      have f3 := hb3.frozen
      have hs3 : Spares w.heap.size itT W2 W3 := hon3.spares (Nat.le_refl _) hB2.size (by decide)
      have hk3 : KeepsFrom wl.heap.size W2 W3 := hon3.keeps _
      have hB3' := hB2.trans hs3.below
      clear x0 x1 x2 x3 kb hb1 ho2 hon3
      gi_wp2
      have hg4 := grownBy_set W3 w1.heap.size 0 (.slice a3 (L.length + (headB hd len).length) c3)
      have hb4 := hb3.set (.slice a3 (L.length + (headB hd len).length) c3)
      refine ⟨hk3.trans ((KeepsOthers.setCell W3 _ _).from _), hs3.trans (Spares.grown hg4 hB3'.size (fun r e => by cases e; exact ⟨by omega, fun cs t fr hcs => by rw [show W3.heap[w1.heap.size]? = _ from hb3] at hcs; cases hcs; decide⟩)), hB3'.setCell (p := ⟨w1.heap.size, 0, none⟩) (by simp; omega) _, a3, c3, ?_, ?_⟩
      · rw [Hmap.out, hsn.out, List.length_append]; exact hb4
      · rw [Hmap.out, hsn.out, List.length_append]
        exact ho3.kept hg4 (.inr fun e => by
          obtain ⟨_, cs, fr, e2⟩ := ho3.row _ e
          rw [show W3.heap[w1.heap.size]? = _ from hb3] at e2; cases e2)
    case done =>
      rintro D xs W hD hfull hI hK
      obtain ⟨hB, ao, co, hbo1, hown⟩ := hI
      have hf : xs.map (·.nd) = Fo.pre 1 (.cons hh kids .nil) := hfull
      rw [hf] at hbo1 hown
      have hfin := HencE.out
      rw [if_pos HE.out] at hfin
      rw [← hfin] at hbo1 hown
      generalize hR : encB (Fo.pre 1 (.cons hh kids .nil)) = R at hbo1 hown
      have HR := Lib.hid hR
      clear hR
      clear hf hfull HencE hwt
      clear hfin
      have k3 := hbo1.cell
      gi_wp2
      refine ⟨by simp, .inl ⟨_, _, rfl, run_takeDeferred hK, ?_⟩⟩
      refine ⟨_, results_tmp2 rfl _ _ _, ao, co, ?_, ?_, ?_⟩
      · rw [HEq.out, HE.out, HR.out]; rfl
      · rw [HR.out]; exact ownsRow_putObj hown _ hK rfl
      · exact hB.trans ((Below.refl w.heap.size _).grown (grownBy_putObj' _ D (.deferred none)) hB.size (fun k e => by cases e; omega))
    case stop =>
      rintro D pre W hD hgood hI hK
      exact hI.elim
  · have hE1 : (E != 0) = true := by simp [hE]
    have HE := Lib.hid hE
    clear hE
    gi_wp2
    refine ⟨_, results_tmp2 rfl _ _ _, none, 0, ?_, ?_, hbel1⟩
    · rw [HencE.out, if_neg HE.out, HEq.out]; rfl
    · rw [HencE.out, if_neg HE.out]; exact OwnB.nil _ _
end Go.Proofs.Ytahibjiiaocjkaa
