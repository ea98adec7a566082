/- Texts of layer 2 joined: NSame. -/
import Derived.Test.YtkdfobnkebkpfaaJC
import Derived.Deep.LoopGhost
import Derived.StillTailTactics
import Derived.BigRegion
import Derived.Deep.Cut
import Derived.Deep.CutRange
import Derived.Deep.RegionWith
set_option linter.unusedVariables false
set_option linter.unusedSimpArgs false
/- nest.Same over items: two items gone through side by side; wire.Same. -/
namespace Go.Proofs.Ytkdfobnkebkpfaa
open Go.RowKit

/-- The function that tells whether two items are alike, as a value. -/
abbrev likeV : Value := .func (.func 37) #[] #[]

/-- Two lists that are open, side by side: what is left of both, and their values. -/
structure En where
  f : Fo
  g : Fo
  a : Option Addr
  c : Nat
  b : Option Addr
  d : Nat
def En.row (e : En) : List Value := [.slice e.a e.f.len e.c, .slice e.b e.g.len e.d]
def En.ok (w : World) (e : En) : Prop := Items w e.a e.c e.f ∧ Items w e.b e.d e.g ∧ e.f.len = e.g.len
/-- The row of open lists, the innermost ones last. -/
def rowOf : List En → List Value
  | [] => []
  | e :: r => rowOf r ++ e.row
theorem rowOf_length (st : List En) : (rowOf st).length = st.length * 2 := by
  induction st with
  | nil => rfl
  | cons e r ih => simp [rowOf, En.row, ih]; omega
def left2 : List En → Nat
  | [] => 0
  | e :: r => 2 * e.f.size + 1 + left2 r
def sizes : List En → Nat
  | [] => 0
  | e :: r => e.f.size + sizes r

theorem info_sides : (Try.prog.info? 84).map (fun i => (i.zero, i.size, i.bytes)) = some (some (.agg #[.slice none 0 0, .slice none 0 0]), 2, 48) := by kernel_rfl

theorem gb_alloc {a b : World} (h : a.grownBy b none) (o : Obj) : a.grownBy (b.alloc o) none := grownBy_trans h (World.grownBy_alloc b o none) (fun i e => .inl e)
theorem gb_drew {a b : World} (h : a.grownBy b none) : a.grownBy b.drew none := grownBy_trans h (grownBy_drew b none) (fun i e => .inl e)

theorem new_cells2 (W : World) (v v' : Value) (t : TypeId) : ∀ j u, [v, v'][j]? = some u → (W.alloc (.cells #[v, v'] t)).cell? ((⟨W.heap.size, 0, none⟩ : Addr).add j) = some u := by
  intro j u h
  have hb := Blk.new W t #[v, v']
  rw [show (⟨W.heap.size, 0, none⟩ : Addr).add j = ⟨W.heap.size, 0 + j, none⟩ from by unfold Addr.add; split <;> simp_all, Nat.zero_add, hb.cell j]
  exact h

theorem Blk.top2 (w : World) (o : Obj) (e : TypeId) (cs : Array Value) : Blk ((w.alloc o).alloc (.cells cs e)).drew (w.heap.size + 1) e cs.toList := by
  have := Blk.new (w.alloc o) e cs
  rw [World.size_alloc] at this
  exact this
theorem Blk.low2 (w : World) (o : Obj) (e : TypeId) (cs : Array Value) : Blk ((w.alloc (.cells cs e)).alloc o).drew w.heap.size e cs.toList := (Blk.new w e cs).alloc o
theorem Blk.top3 (w : World) (o o' : Obj) (e : TypeId) (cs : Array Value) : Blk (((w.alloc o).alloc o').alloc (.cells cs e)).drew (w.heap.size + 1 + 1) e cs.toList := by
  have := Blk.new ((w.alloc o).alloc o') e cs
  rw [World.size_alloc, World.size_alloc] at this
  exact this
theorem Blk.mid3 (w : World) (o o' : Obj) (e : TypeId) (cs : Array Value) : Blk (((w.alloc o).alloc (.cells cs e)).alloc o').drew (w.heap.size + 1) e cs.toList := Blk.alloc (Blk.top2 w o e cs) o'
theorem Blk.low3 (w : World) (o o' : Obj) (e : TypeId) (cs : Array Value) : Blk (((w.alloc (.cells cs e)).alloc o).alloc o').drew w.heap.size e cs.toList := Blk.alloc (Blk.low2 w o e cs) o'

theorem set_two (l : List Value) (n : Nat) (h : l.length = n) (a b c d : Value) : ((l ++ [a, b]).set n c).set (n + 1) d = l ++ [c, d] := by
  subst h
  simp [List.set_append]

/-- A pair of lists is put onto the row of open lists. -/
theorem run_push2 (w : World) (ty : TypeId) {base n cap : Nat} {a : Option Addr} {row : List Value} (v v' : Value) (hv : v.oneCell' = true) (hv' : v'.oneCell' = true) (hown : w.ownsRow base 84 2 (.slice a n cap) n row) (hn : n + 1 ≤ 1099511627780) (hbase : base ≤ w.heap.size) :
    ∃ a' cap' w', (Builtin.append_ #[85, 85] ty #[.slice a n cap, .slice (some ⟨w.heap.size, 0, none⟩) 1 1]).run Try.prog (w.alloc (.cells #[v, v'] 84)) = .ok (.slice a' (n + 1) cap') w' ∧
      w'.ownsRow base 84 2 (.slice a' (n + 1) cap') (n + 1) (row ++ [v, v']) ∧ w.grownBy w' (Value.slice a n cap).ownBlock := by
  obtain ⟨i0, hi, hz0, hz1, hz2⟩ := info_parts info_sides
  obtain ⟨x, w', hrun, ho, hg, _⟩ := run_append_own (P := Try.prog) (w.alloc (.cells #[v, v'] 84)) base 85 ty 84 i0 (.agg #[.slice none 0 0, .slice none 0 0]) 2 48 Try.underlying85 hi hz0 hz1 hz2 rfl (by decide) _ n _ (hown.alloc _) ⟨w.heap.size, 0, none⟩ 1 1 [v, v'] rfl (new_cells2 w v v' _) (by simp [hv, hv']) (by unfold maxLen; omega) (by omega) (by simp; omega)
  obtain ⟨a', cap', rfl⟩ := slice_of_own ho
  exact ⟨a', cap', w', hrun, ho, grownBy_trans (World.grownBy_alloc w _ _) hg (fun i e => .inl e)⟩

/-- What holds at the head of each round. -/
def SamI (w4 : World) (ans : Bool) (N : Nat) (k : Nat) (o : Value) (wr : World) : Prop :=
  ∃ (st : List En) (a : Option Addr) (cap : Nat), k = left2 st ∧ o = .slice a st.length cap ∧ wr.ownsRow w4.heap.size 84 2 (.slice a st.length cap) st.length (rowOf st) ∧
    (∀ e ∈ st, e.ok w4) ∧ ans = st.all (fun e => sameB e.f e.g) ∧ sizes st + st.length ≤ N ∧ Below w4.heap.size w4 wr

set_option maxRecDepth 100000 in
set_option maxHeartbeats 4000000 in
theorem nsame_any (h g : Hd) (kids gids : Fo) (sa ta : Option Addr) (sc tc : Nat) (a b : Option Addr) (cap dap : Nat) (w : World) (hN : kids.size ≤ 1099511627776) (hs0 : Sps w sa sc h.set) (ht0 : Sps w ta tc g.set) (hI : Items w a cap kids) (hJ : Items w b dap gids) :
    Calls Try.prog 36 #[itemV h sa sc a kids.len cap, itemV g ta tc b gids.len dap, inV, likeV] w fun e w' => e = .returned (.bool (hdB h g kids.len gids.len && sameB kids gids)) ∧ Below w.heap.size w w' := by
  obtain ⟨hk, hs⟩ := h
  obtain ⟨gk, gs⟩ := g
  dsimp only [itemV] at hs0 ht0 ⊢
  have hlm : kids.len ≤ cap ∧ cap ≤ 9223372036854775807 := ⟨hI.le, hI.max⟩
  have hlm2 : gids.len ≤ dap ∧ dap ≤ 9223372036854775807 := ⟨hJ.le, hJ.max⟩
  obtain ⟨L, HL⟩ : ∃ L, Hid (kids.len = L) := ⟨_, Lib.hid rfl⟩
  obtain ⟨M, HM⟩ : ∃ L, Hid (gids.len = L) := ⟨_, Lib.hid rfl⟩
  rw [HL.out] at hlm ⊢
  rw [HM.out] at hlm2 ⊢
  obtain ⟨R, HR⟩ : ∃ R, Hid ((hdB ⟨hk, hs⟩ ⟨gk, gs⟩ L M && sameB kids gids) = R) := ⟨_, Lib.hid rfl⟩
  rw [HR.out]
  go_enter Try.func36, Try.ntmps36
  go_wp2_with (fail)
  obtain ⟨w4, hw4⟩ : ∃ w4, ((((w.alloc (.cells #[.int .i64 hk, .slice sa hs.length sc, .slice a L cap] 25)).alloc (.cells #[.int .i64 gk, .slice ta gs.length tc, .slice b M dap] 25)).alloc (.cells #[.int .i64 hk, .slice sa hs.length sc, .slice a L cap] 25)).alloc (.cells #[.int .i64 gk, .slice ta gs.length tc, .slice b M dap] 25)) = w4 := ⟨_, rfl⟩
  have hb4 : Below w.heap.size w w4 := by
    rw [← hw4]
    exact ((((Below.refl w.heap.size w).alloc (Nat.le_refl _) _).alloc (by simp) _).alloc (by simp; omega) _).alloc (by simp; omega) _
  have hz4 : w4.heap.size = w.heap.size + 1 + 1 + 1 + 1 := by rw [← hw4]; simp
  have hA : Blk w4 (w.heap.size + 1 + 1) 25 [.int .i64 hk, .slice sa hs.length sc, .slice a L cap] := by
    have := (Blk.new ((w.alloc (.cells #[.int .i64 hk, .slice sa hs.length sc, .slice a L cap] 25)).alloc (.cells #[.int .i64 gk, .slice ta gs.length tc, .slice b M dap] 25)) 25 #[.int .i64 hk, .slice sa hs.length sc, .slice a L cap]).alloc (.cells #[.int .i64 gk, .slice ta gs.length tc, .slice b M dap] 25)
    rw [hw4, World.size_alloc, World.size_alloc] at this
    exact this
  have hB : Blk w4 (w.heap.size + 1 + 1 + 1) 25 [.int .i64 gk, .slice ta gs.length tc, .slice b M dap] := by
    have := Blk.new (((w.alloc (.cells #[.int .i64 hk, .slice sa hs.length sc, .slice a L cap] 25)).alloc (.cells #[.int .i64 gk, .slice ta gs.length tc, .slice b M dap] 25)).alloc (.cells #[.int .i64 hk, .slice sa hs.length sc, .slice a L cap] 25)) 25 #[.int .i64 gk, .slice ta gs.length tc, .slice b M dap]
    rw [hw4, World.size_alloc, World.size_alloc, World.size_alloc] at this
    exact this
  have hs4 := hs0.grown hb4
  have ht4 := ht0.grown hb4
  have hI4 : Items w4 a cap kids := hI.grown hb4
  have hJ4 : Items w4 b dap gids := hJ.grown hb4
  have hIA : Items w4 (some ⟨w.heap.size + 1 + 1, 0, none⟩) 1 (.cons ⟨hk, hs⟩ kids .nil) :=
    ⟨by simp [Fo.len], by omega, fun e => (by cases e), fun _ => ⟨_, _, rfl, hA.cell 0, ⟨sa, sc, hA.cell 1, hs4⟩, ⟨a, cap, by rw [HL.out]; exact hA.cell 2, hI4.le, hI4.max, hI4.nil_, hI4.at_⟩, trivial⟩⟩
  have hIB : Items w4 (some ⟨w.heap.size + 1 + 1 + 1, 0, none⟩) 1 (.cons ⟨gk, gs⟩ gids .nil) :=
    ⟨by simp [Fo.len], by omega, fun e => (by cases e), fun _ => ⟨_, _, rfl, hB.cell 0, ⟨ta, tc, hB.cell 1, ht4⟩, ⟨b, dap, by rw [HM.out]; exact hB.cell 2, hJ4.le, hJ4.max, hJ4.nil_, hJ4.at_⟩, trivial⟩⟩
  rw [hw4]
  have Hz4 := Lib.hid hz4
  have Hw4 := Lib.hid hw4
  rw [show w.heap.size + 1 + 1 + 1 + 1 = w4.heap.size from hz4.symm]
  clear hA hB hI4 hJ4 hs4 ht4 hs0 ht0 hlm hlm2 hI hJ hz4 hw4
  go_loopg [9] (2 * (kids.size + 1) + 1) (fun k o wr => SamI w4 R (kids.size + 2) k o wr)
  case atStart =>
    refine ⟨[⟨.cons ⟨hk, hs⟩ kids .nil, .cons ⟨gk, gs⟩ gids .nil, some ⟨w.heap.size + 1 + 1, 0, none⟩, 1, some ⟨w.heap.size + 1 + 1 + 1, 0, none⟩, 1⟩], _, 1, by simp [left2, Fo.size], rfl, ?_, ?_, ?_, by simp [sizes, Fo.size], ?_⟩
    · have := World.ownsRow_lit (base := w4.heap.size) (e := 84) (size := 2) w4 #[.slice (some ⟨w.heap.size + 1 + 1, 0, none⟩) 1 1, .slice (some ⟨w.heap.size + 1 + 1 + 1, 0, none⟩) 1 1] 1 (Nat.le_refl _) (by unfold maxLen; omega) rfl
      exact this
    · intro e he
      simp only [List.mem_singleton] at he
      subst he
      exact ⟨hIA, hIB, rfl⟩
    · rw [← HR.out, ← HL.out, ← HM.out]; simp [sameB]
    · exact (Below.refl _ w4).alloc (Nat.le_refl _) _
  case round =>
    obtain ⟨st, ao, co, rfl, rfl, hown, hok, hans, hsz, hbl⟩ := hrel
    have HR' := Lib.hid hans
    have Hsz := Lib.hid hsz
    clear hIA hIB hans hsz
    cases st with
    | nil =>
      have hR : R = true := by rw [HR'.out]; rfl
      have Hr := Lib.hid hR
      simp only [List.length_nil] at hown ⊢
      clear hR hown hok
      go_wp2_with (fail)
      exact bodyPost_ret (v := .bool true) (by simp [results, Try.results36, go_sem]; try rfl) rfl ⟨ret_bool Hr.out.symm, hb4.trans (hbl.mono hb4.size)⟩
    | cons e st =>
      simp only [List.length_cons] at hown Hsz ⊢
      obtain ⟨g, cap', e1⟩ := ownsRow_succ hown
      simp only [Value.slice.injEq, true_and] at e1
      obtain ⟨rfl, rfl⟩ := e1
      obtain ⟨eF, eG, ea, ec, eb, ed⟩ := e
      obtain ⟨hF, hG, hFG⟩ := hok _ (List.mem_cons_self ..)
      simp only at hF hG hFG
      have hokr : ∀ e ∈ st, e.ok w4 := fun e he => hok e (List.mem_cons_of_mem _ he)
      have hrl := rowOf_length st
      have hcell0 : wr.cell? ⟨g, st.length * 2, none⟩ = some (.slice ea eF.len ec) := by
        rw [hown.cellAt (st.length * 2) (by omega)]
        simp [rowOf, En.row, ← hrl]
      have hcell1 : wr.cell? ⟨g, st.length * 2 + 1, none⟩ = some (.slice eb eG.len ed) := by
        rw [hown.cellAt (st.length * 2 + 1) (by omega)]
        simp [rowOf, En.row, ← hrl]
      have hfro0 := hown.frozenAt (st.length * 2)
      have hfro1 := hown.frozenAt (st.length * 2 + 1)
      have hcapm : st.length + 1 ≤ co ∧ co ≤ 9223372036854775807 := by
        rcases hown.2 with ⟨e, _⟩ | ⟨g', cap', cur, e, _, _, h1, h2, _⟩
        · cases e
        · simp only [Value.slice.injEq, true_and] at e
          obtain ⟨-, rfl⟩ := e
          exact ⟨h1, by unfold maxLen at h2; omega⟩
      obtain ⟨hc1, hc2⟩ := hcapm
      cases eF with
      | nil =>
        cases eG with
        | cons _ _ _ => simp [Fo.len] at hFG
        | nil =>
        have hpop := ownsRow_pop (n := st.length) hrl hown
        have Hown := Lib.hid hpop
        have Hok := Lib.hid hokr
        simp only [Fo.len] at hcell0 hcell1
        clear hown hok hokr hF hG hFG hrl hpop
        go_wp2_with (fail)
        go_roundg (left2 st)
        case measure => simp [left2]
        case rel => exact ⟨st, some ⟨g, 0, none⟩, co, rfl, by simp, Hown.out, Hok.out, by rw [HR'.out]; simp [sameB], by have := Hsz.out; simp [sizes, Fo.size] at this ⊢; omega, hbl⟩
      | cons h' k' r' =>
        cases eG with
        | nil => simp [Fo.len] at hFG
        | cons h'' k'' r'' =>
        have Hown := Lib.hid hown
        have Hok := Lib.hid hokr
        simp only [Fo.len] at hcell0 hcell1
        clear hown hok hokr hrl
        obtain ⟨x1, xo, rfl, p0, ⟨xsa, xsc, p1, hsx⟩, ⟨ka, kc, p2, hk1, hk2, hk3, hk4⟩, hR1⟩ := hF.at_ (by simp [Fo.len])
        obtain ⟨y1, yo, rfl, q0, ⟨ysa, ysc, q1, hsy⟩, ⟨la, lc, q2, hl1, hl2, hl3, hl4⟩, hR2⟩ := hG.at_ (by simp [Fo.len])
        have hle1 := hF.le
        have hmx1 := hF.max
        have hle2 := hG.le
        have hmx2 := hG.max
        simp only [Fo.len] at hle1 hle2
        have hcw : ∀ B o v, w4.cell? ⟨B, o, none⟩ = some v → wr.cell? ⟨B, o, none⟩ = some v := fun B o v hv => (hbl.cell (p := ⟨B, o, none⟩) (World.block_lt_of_cell? w4 _ hv)).trans hv
        have p0' := hcw _ _ _ p0
        have p1' := hcw _ _ _ p1
        have p2' := hcw _ _ _ p2
        have q0' := hcw _ _ _ q0
        have q1' := hcw _ _ _ q1
        have q2' := hcw _ _ _ q2
        have hgl : g < wr.heap.size := World.block_lt_of_cell? wr _ hcell0
        have hxl : x1 < wr.heap.size := World.block_lt_of_cell? wr _ p0'
        have hyl : y1 < wr.heap.size := World.block_lt_of_cell? wr _ q0'
        have hI1 : ∀ A1, A1 = (if ec = 1 then some (⟨x1, xo, none⟩ : Addr) else some ⟨x1, xo + 3, none⟩) → Items w4 A1 (ec - 1) r' := fun A1 e => ⟨by omega, by omega, fun e2 => (by rw [e2] at e; split at e <;> cases e), fun hr => ⟨x1, xo + 3, by rw [e, if_neg (by omega)], hR1⟩⟩
        have hI2 : ∀ A2, A2 = (if ed = 1 then some (⟨y1, yo, none⟩ : Addr) else some ⟨y1, yo + 3, none⟩) → Items w4 A2 (ed - 1) r'' := fun A2 e => ⟨by omega, by omega, fun e2 => (by rw [e2] at e; split at e <;> cases e), fun hr => ⟨y1, yo + 3, by rw [e, if_neg (by omega)], hR2⟩⟩
        have Hkk := Lib.hid (show Items w4 ka kc k' from ⟨hk1, hk2, hk3, hk4⟩)
        have Hll := Lib.hid (show Items w4 la lc k'' from ⟨hl1, hl2, hl3, hl4⟩)
        have HI1 := Lib.hid hI1
        have HI2 := Lib.hid hI2
        obtain ⟨K1, HK1⟩ : ∃ K, Hid (k'.len = K) := ⟨_, Lib.hid rfl⟩
        obtain ⟨K2, HK2⟩ : ∃ K, Hid (k''.len = K) := ⟨_, Lib.hid rfl⟩
        rw [HK1.out] at p2' hk1
        rw [HK2.out] at q2' hl1
        have HFG := Lib.hid hFG
        have HSX := Lib.hid hsx
        have HSY := Lib.hid hsy
        clear p0 p1 p2 q0 q1 q2 hsx hsy hcw hF hG hFG hI1 hI2 hR1 hR2 hk3 hk4 hl3 hl4
        go_wp2_with (fail)
        go_cut [11, 12] from 20 to 91 (fun p q wx => ∃ bx by', p = .pointer (some ⟨bx, 0, none⟩) ∧ q = .pointer (some ⟨by', 0, none⟩) ∧ Blk wx bx 25 [.int .i64 h'.k, .slice xsa h'.set.length xsc, .slice ka K1 kc] ∧ Blk wx by' 25 [.int .i64 h''.k, .slice ysa h''.set.length ysc, .slice la K2 lc] ∧ wr.grownBy wx none)
        case first =>
          go_region
          all_goals (go_wp2_with fail; go_meet)
          all_goals
            refine ⟨_, _, rfl, rfl, ?_, ?_, ?_⟩
            · first | exact Blk.top2 _ _ _ _ | exact Blk.low2 _ _ _ _
            · first | exact Blk.top2 _ _ _ _ | exact Blk.low2 _ _ _ _
            · repeat (first | with_reducible exact World.grownBy.refl _ _ | refine gb_alloc ?_ _ | refine gb_drew ?_)
        case rest =>
          obtain ⟨bx, by', rfl, rfl, hX, hY, hg6⟩ := hcut
          rename World => w6
          have x0 := hX.cell 0
          have x1' := hX.cell 1
          have x2 := hX.cell 2
          have z0 := hY.cell 0
          have z1 := hY.cell 1
          have z2 := hY.cell 2
          have hxl' := hX.lt
          have hyl' := hY.lt
          simp only [List.getElem?_cons_zero, List.getElem?_cons_succ] at x0 x1' x2 z0 z1 z2
          clear p0' p1' p2' q0' q1' q2'
          go_wp2_with (fail)
          go_cut [13] from 20 to 91 (fun p wx => ∃ bn, p = .pointer (some ⟨bn, 0, none⟩) ∧ Blk wx bn 84 [.slice ka K1 kc, .slice la K2 lc] ∧ w6.grownBy wx none ∧ w6.heap.size ≤ bn)
          case first =>
            go_region_with ((go_at_call 32; (first | (with_reducible refine (items_any h' xsa xsc ka K1 kc _).mono ?_) | (with_reducible refine (items_any h'' ysa ysc la K2 lc _).mono ?_)); rintro e w5 ⟨rfl, rfl⟩))
            all_goals (go_wp2_with fail; go_meet)
            all_goals
              refine ⟨_, rfl, ?_, ?_, ?_⟩
              · first | exact Blk.top3 _ _ _ _ _ | exact Blk.mid3 _ _ _ _ _ | exact Blk.low3 _ _ _ _ _
              · repeat (first | with_reducible exact World.grownBy.refl _ _ | refine gb_alloc ?_ _ | refine gb_drew ?_)
              · omega
          case rest =>
            obtain ⟨bn, rfl, hNx, hg7, hbn⟩ := hcut
            rename World => w7
            have hX7 := hX.kept hg7 (by simp)
            have hY7 := hY.kept hg7 (by simp)
            have n0 := hNx.cell 0
            have n1 := hNx.cell 1
            have u0 := hX7.cell 0
            have u1 := hX7.cell 1
            have u2 := hX7.cell 2
            have v0 := hY7.cell 0
            have v1 := hY7.cell 1
            have v2 := hY7.cell 2
            simp only [List.getElem?_cons_zero, List.getElem?_cons_succ] at n0 n1 u0 u1 u2 v0 v1 v2
            have hg67 : wr.grownBy w7 none := grownBy_trans hg6 hg7 (fun i e => .inl e)
            have hb67 : Below wr.heap.size wr w7 := grownBy_below hg67 (fun i e => by cases e)
            have hb7 : Below w4.heap.size w4 w7 := hbl.trans (hb67.mono hbl.size)
            have hgn : wr.heap.size ≤ bn := Nat.le_trans hg6.size hbn
            clear x0 x1' x2 z0 z1 z2 hX hY hg6 hg7 hbn hX7 hY7 hg67 hxl' hyl'
            by_cases hK : K1 = K2
            · obtain rfl := hK
              obtain ⟨D, HD⟩ : ∃ D, Hid (hd3 h' h'' = D) := ⟨_, Lib.hid rfl⟩
              have hal := alike_any h' h'' xsa ysa xsc ysc ka la K1 K1 kc lc w7 (HSX.out.grown hb7) (HSY.out.grown hb7)
              rw [HD.out] at hal
              cases D
              · have HRf : Hid (R = false) := Lib.hid (by rw [HR'.out]; simp [sameB, hdB_eq, HD.out])
                go_wp2_with (first | (go_at_call 37; (with_reducible refine hal.mono ?_); rintro e w8 ⟨rfl, hb8⟩))
                exact bodyPost_ret (v := .bool false) (by simp [results, Try.results36, go_sem]; try rfl) rfl ⟨ret_bool HRf.out.symm, hb4.trans ((hb7.trans (hb8.mono hb7.size)).mono hb4.size)⟩
              · go_wp2_with (first | (go_at_call 37; (with_reducible refine hal.mono ?_); rintro e w8 ⟨rfl, hb8⟩))
                have hb68 : Below wr.heap.size wr w8 := hb67.trans (hb8.mono hb67.size)
                have hb48 : Below w4.heap.size w4 w8 := hbl.trans (hb68.mono hbl.size)
                have hNx8 := hNx.below hb8 hNx.lt
                have g0 := (hb68.cell (p := ⟨g, st.length * 2, none⟩) hgl).trans hcell0
                have g1 := (hb68.cell (p := ⟨g, st.length * 2 + 1, none⟩) hgl).trans hcell1
                have f0 := (hb68.frozen (p := ⟨g, st.length * 2, none⟩) hgl).trans hfro0
                have f1 := (hb68.frozen (p := ⟨g, st.length * 2 + 1, none⟩) hgl).trans hfro1
                have hgl8 : g < w8.heap.size := Nat.lt_of_lt_of_le hgl hb68.size
                have Hown8 := Lib.hid (Hown.out.kept (below_grownBy hb68 none) (.inr (by simp [Value.ownBlock])))
                have hgb : w4.heap.size ≤ g := by
                  rcases Hown.out.2 with ⟨e, _⟩ | ⟨g', cap', cur, e, hb, _⟩
                  · cases e
                  · cases e; exact hb
                have hset := fun (v1 v2 : Value) => ((Hown8.out.stored (st.length * 2) v1).1.stored (st.length * 2 + 1) v2).1
                simp only [rowOf, En.row, set_two _ _ (rowOf_length st)] at hset
                have Hset := Lib.hid hset
                have Hb48 := Lib.hid hb48
                have Hb4 := Lib.hid hb4
                have Hbl := Lib.hid hbl
                clear hset n0 n1 u0 u1 u2 v0 v1 v2 hcell0 hcell1 hfro0 hfro1 hal hNx hb67 hb7 hb68 hb48 hb8 hb4 hbl
                go_cut [10] from 20 to 91 (fun p wx => p = .pointer (some ⟨g, st.length * 2, none⟩) ∧ ∃ A1 A2, Items w4 A1 (ec - 1) r' ∧ Items w4 A2 (ed - 1) r'' ∧ wx.ownsRow w4.heap.size 84 2 (.slice (some ⟨g, 0, none⟩) (st.length + 1) co) (st.length + 1) (rowOf st ++ [.slice A1 r'.len (ec - 1), .slice A2 r''.len (ed - 1)]) ∧ w8.grownBy wx (some g))
                case first =>
                  by_cases hec : ec = 1
                  · obtain rfl := hec
                    by_cases hed : ed = 1
                    · obtain rfl := hed
                      go_region
                      all_goals (go_wp2_with fail; go_meet)
                      all_goals exact ⟨rfl, some ⟨x1, xo, none⟩, some ⟨y1, yo, none⟩, HI1.out _ (by simp [*]), HI2.out _ (by simp [*]), (by rw [show r'.len = 0 from by omega]; rw [show r''.len = 0 from by omega]; exact (Hset.out _ _).drew), grownBy_trans (grownBy_trans (grownBy_set w8 g _ _) (grownBy_set _ g _ _) (fun i e => .inl e)) (grownBy_drew _ _) (fun i e => .inl e)⟩
                    · go_region
                      all_goals (go_wp2_with fail; go_meet)
                      all_goals exact ⟨rfl, some ⟨x1, xo, none⟩, some ⟨y1, yo + 3, none⟩, HI1.out _ (by simp [*]), HI2.out _ (by simp [*]), (by rw [show r'.len = 0 from by omega]; exact (Hset.out _ _).drew), grownBy_trans (grownBy_trans (grownBy_set w8 g _ _) (grownBy_set _ g _ _) (fun i e => .inl e)) (grownBy_drew _ _) (fun i e => .inl e)⟩
                  · by_cases hed : ed = 1
                    · obtain rfl := hed
                      go_region
                      all_goals (go_wp2_with fail; go_meet)
                      all_goals exact ⟨rfl, some ⟨x1, xo + 3, none⟩, some ⟨y1, yo, none⟩, HI1.out _ (by simp [*]), HI2.out _ (by simp [*]), (by rw [show r''.len = 0 from by omega]; exact (Hset.out _ _).drew), grownBy_trans (grownBy_trans (grownBy_set w8 g _ _) (grownBy_set _ g _ _) (fun i e => .inl e)) (grownBy_drew _ _) (fun i e => .inl e)⟩
                    · go_region
                      all_goals (go_wp2_with fail; go_meet)
                      all_goals exact ⟨rfl, some ⟨x1, xo + 3, none⟩, some ⟨y1, yo + 3, none⟩, HI1.out _ (by simp [*]), HI2.out _ (by simp [*]), (Hset.out _ _).drew, grownBy_trans (grownBy_trans (grownBy_set w8 g _ _) (grownBy_set _ g _ _) (fun i e => .inl e)) (grownBy_drew _ _) (fun i e => .inl e)⟩
                case rest =>
                  obtain ⟨rfl, A1, A2, hA1, hA2, hownx, hgx⟩ := hcut
                  rename World => w9
                  have hNx9 := hNx8.kept hgx (by simp; omega)
                  have n0 := hNx9.cell 0
                  have n1 := hNx9.cell 1
                  simp only [List.getElem?_cons_zero, List.getElem?_cons_succ] at n0 n1
                  have hszw : w4.heap.size ≤ w9.heap.size := Nat.le_trans Hb48.out.size hgx.size
                  obtain ⟨a6, c6, w6', hrun6, hown6, hg6⟩ := run_push2 w9 85 (.slice ka K1 kc) (.slice la K1 lc) (by simp [Value.oneCell']) (by simp [Value.oneCell']) hownx (by have := Hsz.out; simp [sizes, Fo.size] at this; omega) hszw
                  have Hr := Lib.hid hrun6
                  have Hown6 := Lib.hid hown6
                  have Hgx := Lib.hid hgx
                  clear hrun6 hown6 hownx hgx hszw
                  go_wp2_with (at_builtin; refine wpList_append_run rfl _ _ 85 85 rfl _ _ _ _ rfl rfl Hr.out ?_)
                  go_roundg (left2 (⟨k', k'', ka, kc, la, lc⟩ :: ⟨r', r'', A1, ec - 1, A2, ed - 1⟩ :: st))
                  case measure => simp [left2, Fo.size]; omega
                  case rel =>
                    refine ⟨⟨k', k'', ka, kc, la, lc⟩ :: ⟨r', r'', A1, ec - 1, A2, ed - 1⟩ :: st, a6, c6, rfl, rfl, ?_, ?_, ?_, ?_, ?_⟩
                    · simpa [rowOf, En.row, HK1.out, HK2.out] using Hown6.out
                    · intro e he
                      rcases List.mem_cons.1 he with rfl | he
                      · exact ⟨Hkk.out, Hll.out, HK1.out.trans HK2.out.symm⟩
                      rcases List.mem_cons.1 he with rfl | he
                      · exact ⟨hA1, hA2, by have := HFG.out; simpa [Fo.len] using this⟩
                      · exact Hok.out e he
                    · rw [HR'.out]; simp [sameB, hdB_eq, HD.out, HK1.out, HK2.out, Bool.and_assoc]
                    · have := Hsz.out; simp [sizes, Fo.size] at this ⊢; omega
                    · exact (Hb48.out.grown Hgx.out Hb48.out.size (fun k e => by cases e; exact hgb)).grown hg6 (Nat.le_trans Hb48.out.size Hgx.out.size) (fun k e => by cases e; exact hgb)
            · have HRf : Hid (R = false) := Lib.hid (by rw [HR'.out]; simp [sameB, hdB_eq, HK1.out, HK2.out, hK])
              have hKi : ((K1 : Int) != (K2 : Int)) = true := by simp; omega
              go_wp2_with (fail)
              exact bodyPost_ret (v := .bool false) (by simp [results, Try.results36, go_sem]; try rfl) rfl ⟨ret_bool HRf.out.symm, hb4.trans (hb7.mono hb4.size)⟩

set_option maxRecDepth 100000 in
set_option maxHeartbeats 1000000 in
theorem rsame_any (h g : Hd) (kids gids : Fo) (sa ta : Option Addr) (sc tc : Nat) (a b : Option Addr) (cap dap : Nat) (w : World) (hN : kids.size ≤ 1099511627776) (hs0 : Sps w sa sc h.set) (ht0 : Sps w ta tc g.set) (hI : Items w a cap kids) (hJ : Items w b dap gids) :
    Calls Try.prog 16 #[itemV h sa sc a kids.len cap, itemV g ta tc b gids.len dap] w fun e w' => e = .returned (.bool (hdB h g kids.len gids.len && sameB kids gids)) ∧ Below w.heap.size w w' := by
  have hb0 : Below w.heap.size w ((w.alloc (.cells #[.int .i64 h.k, .slice sa h.set.length sc, .slice a kids.len cap] 25)).alloc (.cells #[.int .i64 g.k, .slice ta g.set.length tc, .slice b gids.len dap] 25)) := ((Below.refl w.heap.size w).alloc (Nat.le_refl _) _).alloc (by simp) _
  have hS := nsame_any h g kids gids sa ta sc tc a b cap dap _ hN (hs0.grown hb0) (ht0.grown hb0) (hI.grown hb0) (hJ.grown hb0)
  obtain ⟨R, HR⟩ : ∃ R, Hid ((hdB h g kids.len gids.len && sameB kids gids) = R) := ⟨_, Lib.hid rfl⟩
  rw [HR.out] at hS ⊢
  dsimp only [itemV] at hS ⊢
  go_enter Try.func16, Try.ntmps16
  go_wp2_with (first | (go_at_call 36; (with_reducible refine hS.mono ?_); rintro e w1 ⟨rfl, hb1⟩))
  exact bodyPost_ret (v := .bool R) (by simp [results, Try.results16, go_sem]; try rfl) rfl ⟨rfl, hb0.trans (hb1.mono hb0.size)⟩
end Go.Proofs.Ytkdfobnkebkpfaa
