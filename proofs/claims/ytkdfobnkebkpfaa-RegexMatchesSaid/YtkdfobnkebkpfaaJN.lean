/- Texts of layer 2 joined: Mn Lp Lq L1 Lv. -/
import Derived.Test.YtkdfobnkebkpfaaJF
import Derived.Test.YtkdfobnkebkpfaaJD
import Derived.Test.YtkdfobnkebkpfaaJE
import Derived.Test.YtkdfobnkebkpfaaJJ
import Derived.BigQuiet
import Derived.Deep.OwnRows
import Derived.OwnWalk
import Derived.Test.YtkdfobnkebkpfaaJK
import Derived.KernelRfl
import Derived.Test.YtkdfobnkebkpfaaJM
set_option linter.unusedVariables false
set_option linter.unusedSimpArgs false
/- newMatcher, Match. -/
namespace Go.Proofs.Ytkdfobnkebkpfaa
open Go.RowKit Go.Shelf

attribute [local go_sem] Oper.semAt_some

def ms0 (n : Nat) : MS := ⟨1, List.replicate n 0, [], []⟩
/-- The matcher ahead of all bytes. -/
def initM (ns : List Nod) : MS := goOnM ns (2 * ns.length) (meetP 0 (ms0 (2 * ns.length)))
def loopM (ns : List Nod) : List UInt8 → MS → Bool
  | [], m => decide (m.met.getD 1 0 = m.now)
  | c :: r, m => if m.sets.length = 0 then false else loopM ns r (stepM ns c.toNat m)
noncomputable def nodsE (hh : Hd) (kids : Fo) : List Nod := (nodsP (Fo.pre 1 (.cons hh kids .nil))).1
/-- Match's answer. -/
noncomputable def matchP (hh : Hd) (kids : Fo) (s : List UInt8) : Bool := if checkE (Fo.pre 1 (.cons hh kids .nil)) = 1 then false else loopM (nodsE hh kids) s (initM (nodsE hh kids))

theorem wpList_make_I (w : World) {ops : Array Oper} {rest : List Oper} {o : Oper} {a : Act} {Q : Exit → Act → World → Prop}
    (hg : o.guard = none) (l c : Operand) (hop : o.op = Op.makeSlice 71 l c) (V : Int) (n : Nat) (hl : a.eval l = .int .i64 V) (hc : a.eval c = .int .i64 V) (hV : V = (n : Int)) (hn : n ≤ 549755813888)
    (hK : ∀ w', Blk w' w.heap.size 3 ((List.replicate n 0).map iv) → w.grownBy w' none → wpList Try.prog ops Q rest (a.put o.dst (.slice (some ⟨w.heap.size, 0, none⟩) n n)) w') : wpList Try.prog ops Q (o :: rest) a w := by
  subst hV
  obtain ⟨i0, hi, hz0, hz1, hz2⟩ := info_parts info_int
  refine wpList_make_row w hg l c 71 hop 3 i0 (.int .i64 0) Try.underlying71 hi hz0 hz1 rfl .i64 .i64 n hl hc (by rw [hz2]; omega) (by omega) ?_
  refine hK _ ?_ (World.grownBy_alloc w _ none)
  have := Blk.new w 3 (madeCells #[.int .i64 0] n)
  rw [toList_madeCells_one] at this
  rw [List.map_replicate]
  exact this

set_option maxRecDepth 100000 in
set_option maxHeartbeats 2000000 in
theorem newMatcher_any (hh : Hd) (kids : Fo) (sa : Option Addr) (sc : Nat) (a : Option Addr) (cap : Nat) (w : World) (hss : Sps w sa sc hh.set) (hk : Items w a cap kids) (hN : kids.size ≤ 137438953470) (hwf : NodWf (nodsE hh kids)) :
    Calls Try.prog 46 #[itemV hh sa sc a kids.len cap] w fun e w' => ∃ mb, e = .returned (.pointer (some ⟨mb, 0, none⟩)) ∧ GoR w.heap.size w mb (nodsE hh kids) (initM (nodsE hh kids)) w' := by
  have hb0 : Below w.heap.size w (w.alloc (.cells #[.int .i64 hh.k, .slice sa hh.set.length sc, .slice a kids.len cap] 25)) := (Below.refl _ w).alloc (Nat.le_refl _) _
  have hnl : (nodsE hh kids).length = kids.size + 1 := by unfold nodsE; rw [nodsP_length, Fo.pre_length]; simp [Fo.size]
  have hno := nodesOf_any hh kids sa sc a cap _ (hss.grown hb0) (hk.grown hb0) (by omega)
  rw [show (nodsP (Fo.pre 1 (.cons hh kids .nil))).1 = nodsE hh kids from rfl] at hno
  generalize nodsE hh kids = ns at *
  have Hno := Lib.hid hno
  have Hwf := Lib.hid hwf
  clear hno hwf
  have Hnl := Lib.hid hnl
  clear hnl
  go_enter Try.func46, Try.ntmps46
  go_wp2_with (fail)
  refine Hno.out.mono ?_
  rintro e w1 ⟨la, lc, rfl, hown, hb1⟩
  have hb01 := hb0.trans (hb1.mono hb0.size)
  obtain ⟨g, rfl, hgb, hl1, hl2, hglt⟩ : ∃ g, la = some ⟨g, 0, none⟩ ∧ w.heap.size + 1 ≤ g ∧ ns.length ≤ lc ∧ lc ≤ 9223372036854775807 ∧ g < w1.heap.size := by
    rcases hown.2 with ⟨e1, e2⟩ | ⟨g, c, cur, e1, hb, hg, h1, h2, h3, h4⟩
    · have := Hnl.out; omega
    · injection e1 with e1 _ e3
      subst e1 e3
      exact ⟨g, rfl, by simpa using hb, h1, by unfold maxLen at h2; omega, (Array.getElem?_eq_some_iff.1 hg).1⟩
  have hnods : ∀ i x, ns[i]? = some x → NodAt w1 g (0 + i * 7) x := fun i x hx => OwnN.at hown hx
  have Hnods := Lib.hid hnods
  clear hnods hown hb1 hb0 hss hk
  obtain ⟨N, HN⟩ : ∃ N, Hid (ns.length = N) := ⟨_, Lib.hid rfl⟩
  rw [HN.out] at hl1 ⊢
  have hNb : N ≤ 137438953471 := by have := Hnl.out; have := HN.out; omega
  have hN1 : 1 ≤ N := by have := Hnl.out; have := HN.out; omega
  have hNI : (N : Int) ≤ 137438953471 := by omega
  have hNI0 : (0 : Int) ≤ (N : Int) := by omega
  have hbox := Blk.new w1 73 #[.slice (some ⟨g, 0, none⟩) N lc, .int .i64 1, .slice none 0 0, .slice none 0 0, .slice none 0 0]
  go_wp2_with (at_make; refine wpList_make_I _ rfl _ _ rfl _ (2 * N) rfl rfl (by push_cast; rfl) (by omega) ?_; intro w2 hmet hg2; have hbx2 := hbox.kept hg2 (by simp); have c2 := hbx2.cell 2; have f2 := hbx2.frozen 2; have l2 := hbx2.lt; simp only [List.getElem?_cons_zero, List.getElem?_cons_succ] at c2)
  have hbel2 : Below w.heap.size w w2 := hb01.trans (((Below.refl w.heap.size w1).alloc hb01.size _).grown hg2 (by have := hb01.size; simp; omega) (fun k e => by cases e))
  have hM : Mch w.heap.size (w2.setCell ⟨w1.heap.size, 2, none⟩ (.slice (some ⟨w1.heap.size + 1, 0, none⟩) (2 * N) (2 * N))) w1.heap.size ns ⟨g, 0, lc, w1.heap.size + 1, none, 0, none, 0⟩ (ms0 (2 * ns.length)) := by
    have hb1s := hb01.size
    have e2N : 2 * ns.length = 2 * N := by rw [HN.out]
    refine ⟨?_, ?_, ?_, ?_, ?_, ?_, ?_, ?_, ?_, ?_, ?_, ?_, ?_, ?_, ?_, ?_⟩
    · have := Blk.set hbx2 2 (.slice (some ⟨w1.heap.size + 1, 0, none⟩) (2 * N) (2 * N))
      rw [HN.out]
      exact this
    · refine Blk.setOther ?_ (by simp) _
      rw [e2N]
      rw [World.size_alloc] at hmet
      exact hmet
    · exact World.ownsRow_nil _ _ _ _
    · exact World.ownsRow_nil _ _ _ _
    · intro i x hx
      have h1 := Hnods.out i x hx
      have hgs := grownBy_set w2 w1.heap.size 2 (.slice (some ⟨w1.heap.size + 1, 0, none⟩) (2 * N) (2 * N))
      refine h1.kept ?_
      rw [Below.heap_setCell _ _ _ _ (by simp; omega)]
      exact (hg2.block g (by simp; omega) (by simp)).trans (Below.heap_alloc _ _ _ hglt)
    · exact ⟨by rw [HN.out]; exact hl1, hl2⟩
    · simp [ms0]
    · exact ⟨hb1s, by simp only; omega⟩
    · exact ⟨by simp only; omega, by simp only; omega, by simp only; omega⟩
    · exact ⟨by simp [obk], by simp [obk], by simp [obk]⟩
    · exact ⟨by simp [obk], by simp [obk], by simp [obk]⟩
    · exact .inl rfl
    · rw [HN.out]; omega
    · have : unmet (ms0 (2 * ns.length)) ≤ (ms0 (2 * ns.length)).met.length := List.countP_le_length
      simp [ms0] at this ⊢
      exact this
    · simp [ms0]
    · simp [ms0]
  have hbel3 : Below w.heap.size w (w2.setCell ⟨w1.heap.size, 2, none⟩ (.slice (some ⟨w1.heap.size + 1, 0, none⟩) (2 * N) (2 * N))) := hbel2.setCell (p := ⟨w1.heap.size, 2, none⟩) (by have := hb01.size; simpa using this) _
  clear hbox hmet hg2 hbx2 c2 f2 l2 hbel2 hb01
  generalize w2.setCell ⟨w1.heap.size, 2, none⟩ (.slice (some ⟨w1.heap.size + 1, 0, none⟩) (2 * N) (2 * N)) = w3 at hM hbel3 ⊢
  refine (beginOf_any w3 0 (by omega)).mono ?_
  rintro e v ⟨rfl, hv⟩
  subst v
  go_wp2_with (fail)
  have hok0 : OkM ns (ms0 (2 * ns.length)) := ⟨fun st h => (by cases h), fun i h => (by cases h), by simp [ms0]⟩
  refine (meet_I w.heap.size w3 w1.heap.size ns _ (ms0 (2 * ns.length)) 0 _ (by rfl) hM (by rw [HN.out]; omega) hbel3.size).mono ?_
  rintro e v ⟨rfl, a5, c5, hm5, hb5⟩
  obtain ⟨ok5, q5, s5⟩ := meetP_ok (st := 0) hok0 (by rw [HN.out]; omega)
  have hq0 : qM (ms0 (2 * ns.length)) ≤ 2 * ns.length := hM.obd
  have hs0 : (meetP 0 (ms0 (2 * ns.length))).sets.length = 0 := by rw [s5]; rfl
  go_wp2_with (fail)
  refine (goOn_any w.heap.size v w1.heap.size ns _ _ (2 * ns.length) hm5 Hwf.out ok5 (Nat.le_trans hbel3.size hb5.size) (by omega) (by omega)).mono ?_
  rintro e v2 ⟨rfl, L6, hm6, hb6⟩
  go_wp2_with (fail)
  exact bodyPost_ret (v := .pointer (some ⟨w1.heap.size, 0, none⟩)) (by simp [results, Try.results46, go_sem]; try rfl) rfl ⟨w1.heap.size, rfl, L6, hm6, (hbel3.trans hb5).trans hb6⟩

theorem altM_now (ns : List Nod) : ∀ (F : Nat) (k : Int) (m : MS), (altM ns F k m).now = m.now := by
  intro F
  induction F with
  | zero => intro k m; rfl
  | succ F ih => intro k m; rw [altM]; split; rfl; rw [ih, meetP_now]
theorem beginM_now (ns : List Nod) (i : Nat) (m : MS) : (beginM ns i m).now = m.now := by
  unfold beginM
  simp only
  repeat' split
  all_goals simp [meetP_now, altM_now]
theorem endM_now (ns : List Nod) (i : Nat) (m : MS) : (endM ns i m).now = m.now := by
  unfold endM
  simp only
  repeat' split
  all_goals simp [meetP_now]
theorem goOnM_now (ns : List Nod) : ∀ (F : Nat) (m : MS), (goOnM ns F m).now = m.now := by
  intro F
  induction F with
  | zero => intro m; rfl
  | succ F ih =>
    intro m
    rw [goOnM]
    split
    · rfl
    · rw [ih]
      unfold oneM popM
      split
      · rw [beginM_now]
      · rw [endM_now]
theorem stepM_ok {ns : List Nod} (hwf : NodWf ns) {m : MS} (c : Nat) (h : OkM ns m) (ho : m.opn = []) : OkM ns (stepM ns c m) ∧ (stepM ns c m).opn = [] ∧ (stepM ns c m).now = m.now + 1 := by
  have h1 : OkM ns { m with now := m.now + 1 } := ⟨h.opn, h.sets, h.len⟩
  obtain ⟨a, b, c1, d⟩ := hitM_ok (c := c) m.sets _ h1 h.sets
  have h2 : OkM ns { hitM ns c m.sets { m with now := m.now + 1 } with sets := [] } := ⟨a.opn, fun i hi => (by cases hi), a.len⟩
  have hq : qM { hitM ns c m.sets { m with now := m.now + 1 } with sets := [] } ≤ 2 * ns.length := by
    have e1 : qM { hitM ns c m.sets { m with now := m.now + 1 } with sets := [] } = qM (hitM ns c m.sets { m with now := m.now + 1 }) := rfl
    rw [e1, b]
    unfold qM unmet
    simp only [ho]
    have : m.met.countP (fun v => decide (v < m.now + 1)) ≤ m.met.length := List.countP_le_length
    have := h.len
    simp only [List.length_nil]
    omega
  obtain ⟨x1, x2, x3⟩ := goOnM_opn hwf (2 * ns.length) _ h2 hq
  exact ⟨x2, x1, (goOnM_now _ _ _).trans d⟩
theorem initM_ok {ns : List Nod} (hwf : NodWf ns) (hn : 0 < ns.length) : OkM ns (initM ns) ∧ (initM ns).opn = [] ∧ (initM ns).now = 1 := by
  have hok0 : OkM ns (ms0 (2 * ns.length)) := ⟨fun st h => (by cases h), fun i h => (by cases h), by simp [ms0]⟩
  obtain ⟨ok5, q5, s5⟩ := meetP_ok (st := 0) hok0 (by omega)
  have hq : qM (meetP 0 (ms0 (2 * ns.length))) ≤ 2 * ns.length := by
    rw [q5]
    have : unmet (ms0 (2 * ns.length)) ≤ (ms0 (2 * ns.length)).met.length := List.countP_le_length
    unfold qM
    simp [ms0] at this ⊢
    exact this
  obtain ⟨x1, x2, x3⟩ := goOnM_opn hwf (2 * ns.length) _ ok5 hq
  exact ⟨x2, x1, (goOnM_now _ _ _).trans (meetP_now _ _)⟩
theorem loopM_cons {ns : List Nod} {c : UInt8} {r : List UInt8} {m : MS} (h : m.sets.length ≠ 0) : loopM ns (c :: r) m = loopM ns r (stepM ns c.toNat m) := by rw [loopM, if_neg h]
theorem checkE_plain {l : List Nd} (h : checkE l ≠ 1) : l.all (fun x => plainB x.h x.len) = true := by
  unfold checkE at h
  split at h
  · assumption
  · exact absurd rfl h

set_option maxRecDepth 100000 in
set_option maxHeartbeats 2000000 in
theorem rmatch_any (hh : Hd) (kids : Fo) (sa : Option Addr) (sc : Nat) (a : Option Addr) (cap : Nat) (s : ByteArray) (w : World) (hss : Sps w sa sc hh.set) (hk : Items w a cap kids) (hN : kids.size ≤ 137438953470) (hs : s.size ≤ 1152921504606846976) :
    Calls Try.prog 26 #[itemV hh sa sc a kids.len cap, .string s] w fun e w' => e = .returned (.bool (matchP hh kids s.data.toList)) ∧ Below w.heap.size w w' := by
  have hb0 : Below w.heap.size w (w.alloc (.cells #[.int .i64 hh.k, .slice sa hh.set.length sc, .slice a kids.len cap] 25)) := (Below.refl _ w).alloc (Nat.le_refl _) _
  have hB0 := Blk.new w 25 #[.int .i64 hh.k, .slice sa hh.set.length sc, .slice a kids.len cap]
  have hck := rcheck_any hh kids sa sc a cap _ (hss.grown hb0) (hk.grown hb0) (by omega)
  have hP : Hid (matchP hh kids s.data.toList = if checkE (Fo.pre 1 (.cons hh kids .nil)) = 1 then false else loopM (nodsE hh kids) s.data.toList (initM (nodsE hh kids))) := Lib.hid rfl
  have hpl : Hid (checkE (Fo.pre 1 (.cons hh kids .nil)) ≠ 1 → NodWf (nodsE hh kids)) := Lib.hid (fun h => nodsP_wf _ (checkE_plain h))
  generalize checkE (Fo.pre 1 (.cons hh kids .nil)) = E at hck hP hpl
  obtain ⟨R, HR⟩ : ∃ R, Hid (matchP hh kids s.data.toList = R) := ⟨_, Lib.hid rfl⟩
  rw [HR.out] at hP ⊢
  have hnl : Hid ((nodsE hh kids).length = kids.size + 1) := by unfold nodsE; exact Lib.hid (by rw [nodsP_length, Fo.pre_length]; simp [Fo.size])
  by_cases hE : E = 1
  · have hE1 : (E == 1) = true := by simp [hE]
    have HF : Hid (R = false) := Lib.hid (by rw [hP.out, if_pos hE])
    clear hE
    go_enter Try.func26, Try.ntmps26
    go_wp2_with (go_at_call 14; (with_reducible refine hck.mono ?_); rintro e w1 ⟨rfl, hb1⟩; have hb01 := hb0.trans (hb1.mono hb0.size))
    exact bodyPost_ret (v := .bool false) (by simp [results, Try.results26, go_sem]; try rfl) rfl ⟨ret_bool HF.out.symm, hb01⟩
  · have hE1 : (E == 1) = false := by simp [hE]
    have HT : Hid (R = loopM (nodsE hh kids) s.data.toList (initM (nodsE hh kids))) := Lib.hid (by rw [hP.out, if_neg hE])
    have Hwf := Lib.hid (hpl.out hE)
    clear hE hpl
    have hnm := fun wx (hbx : Below w.heap.size w wx) => newMatcher_any hh kids sa sc a cap wx (hss.grown hbx) (hk.grown hbx) hN Hwf.out
    go_enter Try.func26, Try.ntmps26
    go_wp2_with (go_at_call 14; (with_reducible refine hck.mono ?_); rintro e w1 ⟨rfl, hb1⟩; have hb01 := hb0.trans (hb1.mono hb0.size); have hB1 := hB0.below hb1 hB0.lt; have x0 := hB1.cell 0; have x1 := hB1.cell 1; have x2 := hB1.cell 2; have xl := hB1.lt; simp only [List.getElem?_cons_zero, List.getElem?_cons_succ] at x0 x1 x2)
    refine (hnm w1 hb01).mono ?_
    rintro e w2 ⟨mb, rfl, L0, hm0, hb2⟩
    generalize nodsE hh kids = ns at *
    obtain ⟨B, HB⟩ : ∃ B, Hid (w1.heap.size = B) := ⟨_, Lib.hid rfl⟩
    have hBw : w.heap.size ≤ B := by rw [← HB.out]; exact hb01.size
    rw [HB.out] at hm0 hb2
    obtain ⟨iok, iop, inw⟩ := initM_ok Hwf.out (by rw [hnl.out]; omega)
    have hbw2 : Below w.heap.size w w2 := hb01.trans (hb2.mono hBw)
    have hB2 : B ≤ w2.heap.size := by rw [← HB.out]; exact hb2.size
    have Hm0 := Lib.hid hm0
    have Hiok := Lib.hid iok
    have Hiop := Lib.hid iop
    have Hinw := Lib.hid inw
    clear hck hb0 hB0 hb1 hb01 hB1 x0 x1 x2 xl hnm hss hk hb2 hm0 iok iop inw
    go_wp2_with (fail)
    go_loopw [6, 14] (fun _ iv wr => ∃ (k : Nat) (m : MS) (L : Loc), k ≤ s.size ∧ iv = .int .i64 (k : Int) ∧ Mch B wr mb ns L m ∧ Below w.heap.size w wr ∧ B ≤ wr.heap.size ∧ OkM ns m ∧ m.opn = [] ∧ m.now = k + 1 ∧ R = loopM ns (s.data.toList.drop k) m) (fun _ iv _ => s.size - (intOf iv).toNat)
    case atStart => exact ⟨0, _, _, by omega, rfl, Hm0.out, hbw2, hB2, Hiok.out, Hiop.out, Hinw.out, HT.out⟩
    case round =>
      obtain ⟨k, m, L, hk, rfl, hM, hbr, hBr, hok, hop, hnow, hres⟩ := hrel
      have HM := Lib.hid hM
      have Hok := Lib.hid hok
      have Hop := Lib.hid hop
      have Hnow := Lib.hid hnow
      have Hres := Lib.hid hres
      have c1 := hM.box.cell 1
      have c2 := hM.box.cell 2
      have c4 := hM.box.cell 4
      simp only [List.getElem?_cons_zero, List.getElem?_cons_succ] at c1 c2 c4
      have cl := hM.box.lt
      clear hM hok hop hnow hres hbw2 hB2
      by_cases hlt : k < s.size
      · have hkI : (k : Int) < (s.size : Int) := by omega
        obtain ⟨c, hc⟩ : ∃ c, Hid (s[k] = c) := ⟨_, Lib.hid rfl⟩
        have hdr : Hid (s.data.toList.drop k = c :: s.data.toList.drop (k + 1)) := Lib.hid (by
          rw [List.drop_eq_getElem_cons (by rw [dlen]; exact hlt), ← hc.out]; rfl)
        by_cases h0 : m.sets.length = 0
        · rw [h0] at c4
          have HF : Hid (R = false) := Lib.hid (by rw [Hres.out, hdr.out, loopM, if_pos h0])
          go_wp2_with (fail)
          exact bodyPost_ret (v := .bool false) (by simp [results, Try.results26, go_sem]; try rfl) rfl ⟨ret_bool HF.out.symm, hbr⟩
        · have h0I : ((m.sets.length : Int) == 0) = false := by rw [beq_eq_false_iff_ne]; omega
          have hstep := step_any B wr mb ns L m c HM.out Hwf.out Hok.out hBr Hop.out (by rw [Hnow.out]; omega)
          have Hstep := Lib.hid hstep
          clear hstep
          go_wp2_with (go_at_call 47; rw [hc.out]; (with_reducible refine Hstep.out.mono ?_); rintro e w9 ⟨rfl, L9, hM9, hb9⟩)
          obtain ⟨k1, k2, k3⟩ := stepM_ok Hwf.out c.toNat Hok.out Hop.out
          go_roundw
          case rel => exact ⟨k + 1, _, _, by omega, by go_num, hM9, hbr.trans (hb9.mono hBw), Nat.le_trans hBr hb9.size, k1, k2, by rw [k3, Hnow.out], by rw [Hres.out, hdr.out, loopM_cons h0]⟩
          case measure => simp [intOf]; omega
      · obtain rfl : k = s.size := by omega
        have hd0 : Hid (s.data.toList.drop s.size = []) := Lib.hid (List.drop_eq_nil_of_le (by rw [dlen]; exact Nat.le_refl _))
        have hml := HM.out.len
        have hn1 : 1 < m.met.length := by rw [hml, hnl.out]; omega
        obtain ⟨v1, hv1⟩ : ∃ v, Hid (m.met[1] = v) := ⟨_, Lib.hid rfl⟩
        have c5 := HM.out.met.cell 1
        rw [List.getElem?_map, List.getElem?_eq_getElem hn1, hv1.out] at c5
        simp only [Option.map_some] at c5
        have hcl2 := HM.out.met.lt
        have hfin : Hid (R = ((v1 : Int) == (m.now : Int))) := Lib.hid (by
          rw [Hres.out, hd0.out, loopM, List.getD_eq_getElem?_getD, List.getElem?_eq_getElem hn1, hv1.out]
          simp only [Option.getD_some]
          rw [Bool.eq_iff_iff]; simp; omega)
        have hNb : (1 : Int) < 2 * (ns.length : Int) := by have := hnl.out; omega
        obtain ⟨N, HN⟩ : ∃ N, Hid (ns.length = N) := ⟨_, Lib.hid rfl⟩
        rw [HN.out] at c2 hNb
        go_wp2_with (fail)
        have heo : ∀ wx, Calls Try.prog 48 #[.int .i64 0] wx fun e w' => e = .returned (.int .i64 1) ∧ w' = wx := fun wx => by simpa using endOf_any wx 0 (by omega)
        have Heo := Lib.hid heo
        clear heo
        go_quiet ((go_at_call 48; exact Calls.quiet_of_same (Heo.out _)))
        go_wp2_with (fail)
        exact bodyPost_ret (v := .bool ((v1 : Int) == (m.now : Int))) (by simp [results, Try.results26, go_sem]; try rfl) rfl ⟨ret_bool hfin.out.symm, Below.drewN hbr _⟩
end Go.Proofs.Ytkdfobnkebkpfaa

/- The chapter's examples, reckoned. -/
namespace Go.Proofs.Ytkdfobnkebkpfaa
open Go.RowKit

def exA : Hd := ⟨2, [⟨97, 97⟩]⟩
def exB : Hd := ⟨2, [⟨98, 98⟩]⟩
def exC : Hd := ⟨2, [⟨99, 99⟩]⟩
def exAltK : Fo := .cons exB .nil (.cons exC .nil .nil)
def exStarK : Fo := .cons ⟨4, []⟩ exAltK .nil
def exK : Fo := .cons exA .nil (.cons ⟨5, []⟩ exStarK .nil)
def exH : Hd := ⟨3, []⟩
theorem ex_parse : parseP [97, 40, 98, 124, 99, 41, 42] = (⟨exH, exK⟩, 0, 0) := by kernel_rfl
theorem ex_bad : parseP [91, 98, 45, 97, 93] = (zeroX, 3, 20) := by kernel_rfl
theorem ex_text : txE exH exK = [97, 40, 98, 124, 99, 41, 42] := by kernel_rfl
theorem ex_ck : ckE exH exK = 0 := by kernel_rfl
theorem ex_ck2 : checkE (Fo.pre 1 (.cons exH exK .nil)) = 0 := by kernel_rfl
theorem ex_wt : 9 * exH.set.length + 12 + wtT exK ≤ 140737488355328 := by
  have : 9 * exH.set.length + 12 + wtT exK = 99 := by kernel_rfl
  omega
end Go.Proofs.Ytkdfobnkebkpfaa

/- Match's answer, reckonable. -/
namespace Go.Proofs.Ytkdfobnkebkpfaa
open Go.RowKit

def bitsC (p : Nat → Bool) : Nat → BitVec 64
  | 0 => 0#64
  | n + 1 => if p n then bitsC p n ||| (1#64 <<< n) else bitsC p n
theorem bitsC_get (p : Nat → Bool) (r : Nat) (hr : r < 64) : ∀ n, (bitsC p n).getLsbD r = (decide (r < n) && p r) := by
  intro n
  induction n with
  | zero => simp [bitsC]
  | succ n ih =>
    rw [bitsC]
    by_cases hp : p n = true
    · rw [if_pos hp, BitVec.getLsbD_or, ih, BitVec.getLsbD_shiftLeft]
      by_cases e : r = n
      · subst e; simp [hr, hp]
      · by_cases lt : r < n
        · simp [lt, show r < n + 1 by omega]
        · have h1 : ¬ r < n + 1 := by omega
          have h2 : r - n ≠ 0 := by omega
          simp [lt, h1, h2]
    · rw [if_neg hp, ih]
      by_cases e : r = n
      · subst e; simp [hp]
      · have : (r < n + 1) = (r < n) := by apply propext; omega
        simp [this]
def fC (l : List Sp) : Nat → BitVec 64 := fun i => bitsC (fun r => inSp l (64 * i + r)) 64
theorem hasW_fC (l : List Sp) (c : Nat) : hasW (fC l) c = inSp l c := by
  unfold hasW fC
  rw [bitsC_get _ _ (by omega), decide_eq_true (by omega), Bool.true_and]
  congr 1
  omega
theorem fS_fC (l : List Sp) : fS l = fC l := (fS_of (hasW_fC l)).symm
def nodStepC (s : List Nod × List Nat) (x : Nd) : List Nod × List Nat :=
  (ahead s x.d ++ [⟨x.h.k, fC x.h.set, upN s.2 x.d, -1⟩], s.2.take (x.d - 1) ++ [s.1.length])
def nodsC (l : List Nd) : List Nod × List Nat := l.foldl nodStepC ([], [])
theorem nodsP_nodsC (l : List Nd) : nodsP l = nodsC l := by
  unfold nodsP nodsC
  have : nodStep = nodStepC := by
    funext s x
    unfold nodStep nodStepC
    rw [fS_fC]
  rw [this]
def matchC (hh : Hd) (kids : Fo) (s : List UInt8) : Bool := if checkE (Fo.pre 1 (.cons hh kids .nil)) = 1 then false else loopM (nodsC (Fo.pre 1 (.cons hh kids .nil))).1 s (initM (nodsC (Fo.pre 1 (.cons hh kids .nil))).1)
theorem matchP_matchC (hh : Hd) (kids : Fo) (s : List UInt8) : matchP hh kids s = matchC hh kids s := by
  unfold matchP matchC nodsE
  rw [nodsP_nodsC]
theorem ex_m1 : matchP exH exK [97, 98, 99, 98] = true := by
  rw [matchP_matchC]
  kernel_rfl
theorem ex_m2 : matchP exH exK [98] = false := by
  rw [matchP_matchC]
  kernel_rfl
end Go.Proofs.Ytkdfobnkebkpfaa

/- one; the expression of the chapter's first example in memory. -/
namespace Go.Proofs.Ytkdfobnkebkpfaa
open Go.RowKit Go.Shelf

attribute [local go_sem] Oper.semAt_some

theorem Sps.one {w : World} {b off : Nat} {s : Sp} {cap : Nat} (h1 : 1 ≤ cap) (h2 : cap ≤ 9223372036854775807) (c0 : w.cell? ⟨b, off, none⟩ = some (.int .u8 (s.lo.toNat : Int))) (c1 : w.cell? ⟨b, off + 1, none⟩ = some (.int .u8 (s.hi.toNat : Int))) : Sps w (some ⟨b, off, none⟩) cap [s] :=
  ⟨h1, h2, fun e => (by cases e), fun i _ => ⟨b, off, rfl⟩, fun b' off' e i hi => by
    cases e
    have : i = 0 := by simpa using hi
    subst this
    simp only [Nat.zero_mul, Nat.add_zero, List.getElem_cons_zero]
    exact ⟨c0, c1⟩⟩

set_option maxRecDepth 100000 in
set_option maxHeartbeats 400000 in
theorem one_any (c : UInt8) (w : World) :
    Calls Try.prog 29 #[.int .u8 (c.toNat : Int)] w fun e w' => ∃ sa, e = .returned (.agg #[.int .i64 2, .slice sa 1 1, .slice none 0 0]) ∧ Sps w' sa 1 [⟨c, c⟩] ∧ Below w.heap.size w w' := by
  go_enter Try.func29, Try.ntmps29
  go_wp2_with (fail)
  have hS := Blk.new (w.alloc (.cells #[.int .i64 2, .slice (some ⟨w.heap.size + 1, 0, none⟩) 1 1, .slice none 0 0] 25)) 52 #[.int .u8 (c.toNat : Int), .int .u8 (c.toNat : Int)]
  rw [World.size_alloc] at hS
  refine bodyPost_ret (v := .agg #[.int .i64 2, .slice (some ⟨w.heap.size + 1, 0, none⟩) 1 1, .slice none 0 0]) (by simp [results, Try.results29, go_sem]; try rfl) rfl ⟨_, rfl, Sps.one (by omega) (by omega) (hS.cell 0) (hS.cell 1), ((Below.refl _ w).alloc (Nat.le_refl _) _).alloc (by simp) _⟩

theorem ex_items (w : World) (aa ab ac : Option Addr) (ha : Sps w aa 1 [⟨97, 97⟩]) (hb : Sps w ab 1 [⟨98, 98⟩]) (hc : Sps w ac 1 [⟨99, 99⟩]) :
    Items (((w.alloc (.cells #[.int .i64 2, .slice ab 1 1, .slice none 0 0, .int .i64 2, .slice ac 1 1, .slice none 0 0] 25)).alloc (.cells #[.int .i64 4, .slice none 0 0, .slice (some ⟨w.heap.size, 0, none⟩) 2 2] 25)).alloc (.cells #[.int .i64 2, .slice aa 1 1, .slice none 0 0, .int .i64 5, .slice none 0 0, .slice (some ⟨w.heap.size + 1, 0, none⟩) 1 1] 25))
      (some ⟨w.heap.size + 1 + 1, 0, none⟩) 2 exK := by
  have h1 := ((Blk.new w 25 #[.int .i64 2, .slice ab 1 1, .slice none 0 0, .int .i64 2, .slice ac 1 1, .slice none 0 0]).alloc (.cells #[.int .i64 4, .slice none 0 0, .slice (some ⟨w.heap.size, 0, none⟩) 2 2] 25)).alloc (.cells #[.int .i64 2, .slice aa 1 1, .slice none 0 0, .int .i64 5, .slice none 0 0, .slice (some ⟨w.heap.size + 1, 0, none⟩) 1 1] 25)
  have h2 := (Blk.new (w.alloc (.cells #[.int .i64 2, .slice ab 1 1, .slice none 0 0, .int .i64 2, .slice ac 1 1, .slice none 0 0] 25)) 25 #[.int .i64 4, .slice none 0 0, .slice (some ⟨w.heap.size, 0, none⟩) 2 2]).alloc (.cells #[.int .i64 2, .slice aa 1 1, .slice none 0 0, .int .i64 5, .slice none 0 0, .slice (some ⟨w.heap.size + 1, 0, none⟩) 1 1] 25)
  have h3 := Blk.new ((w.alloc (.cells #[.int .i64 2, .slice ab 1 1, .slice none 0 0, .int .i64 2, .slice ac 1 1, .slice none 0 0] 25)).alloc (.cells #[.int .i64 4, .slice none 0 0, .slice (some ⟨w.heap.size, 0, none⟩) 2 2] 25)) 25 #[.int .i64 2, .slice aa 1 1, .slice none 0 0, .int .i64 5, .slice none 0 0, .slice (some ⟨w.heap.size + 1, 0, none⟩) 1 1]
  have hg : Below w.heap.size w (((w.alloc (.cells #[.int .i64 2, .slice ab 1 1, .slice none 0 0, .int .i64 2, .slice ac 1 1, .slice none 0 0] 25)).alloc (.cells #[.int .i64 4, .slice none 0 0, .slice (some ⟨w.heap.size, 0, none⟩) 2 2] 25)).alloc (.cells #[.int .i64 2, .slice aa 1 1, .slice none 0 0, .int .i64 5, .slice none 0 0, .slice (some ⟨w.heap.size + 1, 0, none⟩) 1 1] 25)) :=
    (((Below.refl _ w).alloc (Nat.le_refl _) _).alloc (by simp) _).alloc (by simp; omega) _
  have sa := ha.grown hg
  have sb := hb.grown hg
  have sc := hc.grown hg
  simp only [World.size_alloc] at h2 h3
  generalize (((w.alloc (.cells #[.int .i64 2, .slice ab 1 1, .slice none 0 0, .int .i64 2, .slice ac 1 1, .slice none 0 0] 25)).alloc (.cells #[.int .i64 4, .slice none 0 0, .slice (some ⟨w.heap.size, 0, none⟩) 2 2] 25)).alloc (.cells #[.int .i64 2, .slice aa 1 1, .slice none 0 0, .int .i64 5, .slice none 0 0, .slice (some ⟨w.heap.size + 1, 0, none⟩) 1 1] 25)) = W at *
  have nil_ : ∀ (a : Option Addr), (0 < (Fo.nil).len → ∃ b' off', a = some ⟨b', off', none⟩ ∧ Elems W .nil b' off') := fun a h => by simp [Fo.len] at h
  refine ⟨by decide, by omega, fun e => (by cases e), fun _ => ⟨w.heap.size + 1 + 1, 0, rfl, h3.cell 0, ⟨aa, 1, h3.cell 1, sa⟩, ⟨none, 0, h3.cell 2, by decide, by omega, fun _ => rfl, nil_ none⟩, h3.cell 3, ⟨none, 0, h3.cell 4, Sps.nil W⟩, ⟨some ⟨w.heap.size + 1, 0, none⟩, 1, h3.cell 5, by decide, by omega, fun e => (by cases e), fun _ => ⟨_, _, rfl, ?_⟩⟩, trivial⟩⟩
  refine ⟨h2.cell 0, ⟨none, 0, h2.cell 1, Sps.nil W⟩, ⟨some ⟨w.heap.size, 0, none⟩, 2, h2.cell 2, by decide, by omega, fun e => (by cases e), fun _ => ⟨_, _, rfl, ?_⟩⟩, trivial⟩
  exact ⟨h1.cell 0, ⟨ab, 1, h1.cell 1, sb⟩, ⟨none, 0, h1.cell 2, by decide, by omega, fun _ => rfl, nil_ none⟩, h1.cell 3, ⟨ac, 1, h1.cell 4, sc⟩, ⟨none, 0, h1.cell 5, by decide, by omega, fun _ => rfl, nil_ none⟩, trivial⟩
end Go.Proofs.Ytkdfobnkebkpfaa

/- The chapter's examples hold: live answers true. -/
namespace Go.Proofs.Ytkdfobnkebkpfaa
open Go.RowKit Go.Shelf

attribute [local go_sem] Oper.semAt_some

theorem live_p1 (w : World) : Calls Try.prog 21 #[.string ⟨#[97, 40, 98, 124, 99, 41, 42]⟩] w fun e w' => ∃ sa sc a c, e = .returned (.tuple #[.agg #[.int .i64 3, .slice sa 0 sc, .slice a 2 c], .int .i64 0, .int .i64 0]) ∧ Sps w' sa sc [] ∧ Items w' a c exK ∧ Below w.heap.size w w' := by
  refine (parse_any ⟨#[97, 40, 98, 124, 99, 41, 42]⟩ w (by decide)).mono ?_
  rintro e w' ⟨⟨x, sa, sc, a, c⟩, hx, he, hP, hb⟩
  have hp : parseP (⟨#[97, 40, 98, 124, 99, 41, 42]⟩ : ByteArray).data.toList = (⟨exH, exK⟩, 0, 0) := ex_parse
  rw [hp] at hx he
  simp only at hx
  subst hx
  exact ⟨sa, sc, a, c, he, hP.sps.sps, hP.items.items, hb⟩
theorem live_p2 (w : World) : Calls Try.prog 21 #[.string ⟨#[91, 98, 45, 97, 93]⟩] w fun e w' => ∃ sa sc a c, e = .returned (.tuple #[.agg #[.int .i64 0, .slice sa 0 sc, .slice a 0 c], .int .i64 3, .int .i64 20]) ∧ Below w.heap.size w w' := by
  refine (parse_any ⟨#[91, 98, 45, 97, 93]⟩ w (by decide)).mono ?_
  rintro e w' ⟨⟨x, sa, sc, a, c⟩, hx, he, hP, hb⟩
  have hp : parseP (⟨#[91, 98, 45, 97, 93]⟩ : ByteArray).data.toList = (zeroX, 3, 20) := ex_bad
  rw [hp] at hx he
  simp only at hx
  subst hx
  exact ⟨sa, sc, a, c, he, hb⟩
theorem exK_size : exK.size = 5 := by kernel_rfl
theorem live_t (w : World) (sa a : Option Addr) (sc c : Nat) (hs : Sps w sa sc []) (hI : Items w a c exK) : Calls Try.prog 23 #[.agg #[.int .i64 3, .slice sa 0 sc, .slice a 2 c]] w fun e w' => e = .returned (.tuple #[.string ⟨#[97, 40, 98, 124, 99, 41, 42]⟩, .int .i64 0]) ∧ Below w.heap.size w w' := by
  have h := rtext_any exH exK sa sc a c w hs hI (by rw [exK_size]; omega) ex_wt
  rw [ex_text, ex_ck] at h
  exact h
theorem live_m1 (w : World) (sa a : Option Addr) (sc c : Nat) (hs : Sps w sa sc []) (hI : Items w a c exK) : Calls Try.prog 26 #[.agg #[.int .i64 3, .slice sa 0 sc, .slice a 2 c], .string ⟨#[97, 98, 99, 98]⟩] w fun e w' => e = .returned (.bool true) ∧ Below w.heap.size w w' := by
  have h := rmatch_any exH exK sa sc a c ⟨#[97, 98, 99, 98]⟩ w hs hI (by rw [exK_size]; omega) (by decide)
  rw [show matchP exH exK (⟨#[97, 98, 99, 98]⟩ : ByteArray).data.toList = true from ex_m1] at h
  exact h
theorem live_m2 (w : World) (sa a : Option Addr) (sc c : Nat) (hs : Sps w sa sc []) (hI : Items w a c exK) : Calls Try.prog 26 #[.agg #[.int .i64 3, .slice sa 0 sc, .slice a 2 c], .string ⟨#[98]⟩] w fun e w' => e = .returned (.bool false) ∧ Below w.heap.size w w' := by
  have h := rmatch_any exH exK sa sc a c ⟨#[98]⟩ w hs hI (by rw [exK_size]; omega) (by decide)
  rw [show matchP exH exK (⟨#[98]⟩ : ByteArray).data.toList = false from ex_m2] at h
  exact h
theorem ex_same : (hdB exH exH exK.len exK.len && sameB exK exK) = true := by kernel_rfl
theorem live_s (w : World) (sa a ta b : Option Addr) (sc c tc d : Nat) (hs : Sps w sa sc []) (hI : Items w a c exK) (ht : Sps w ta tc []) (hJ : Items w b d exK) : Calls Try.prog 17 #[.agg #[.int .i64 3, .slice sa 0 sc, .slice a 2 c], .agg #[.int .i64 3, .slice ta 0 tc, .slice b 2 d]] w fun e w' => e = .returned (.bool true) ∧ Below w.heap.size w w' := by
  have h := refSame_any 6 exH exH exK exK sa ta sc tc a b c d w (by rw [exK_size]; omega) hs ht hI hJ
  rw [ex_same] at h
  exact h
theorem live_c (w : World) (sa a : Option Addr) (sc c : Nat) (hs : Sps w sa sc []) (hI : Items w a c exK) : Calls Try.prog 14 #[.agg #[.int .i64 3, .slice sa 0 sc, .slice a 2 c]] w fun e w' => e = .returned (.int .i64 0) ∧ Below w.heap.size w w' := by
  have h := rcheck_any exH exK sa sc a c w hs hI (by rw [exK_size]; omega)
  rw [ex_ck2] at h
  exact h

set_option maxRecDepth 100000 in
set_option maxHeartbeats 2000000 in
theorem live_any (w : World) : Calls Try.prog 12 #[] w fun e w' => e = .returned (.bool true) ∧ Below w.heap.size w w' := by
  have on : ∀ (v : Int) (c : UInt8) wx, v = (c.toNat : Int) → Calls Try.prog 29 #[.int .u8 v] wx fun e w' => ∃ sa, e = .returned (.agg #[.int .i64 2, .slice sa 1 1, .slice none 0 0]) ∧ Sps w' sa 1 [⟨c, c⟩] ∧ Below wx.heap.size wx w' := fun v c wx e => by subst e; exact one_any c wx
  have Hon := Lib.hid on
  clear on
  go_enter Try.func12, Try.ntmps12
  go_wp2_with (fail)
  refine (Hon.out _ 97 _ rfl).mono ?_
  rintro e w1 ⟨aa, rfl, ha1, hb1⟩
  go_wp2_with (fail)
  refine (Hon.out _ 98 _ rfl).mono ?_
  rintro e w2 ⟨ab, rfl, hb2s, hb2⟩
  go_wp2_with (fail)
  refine (Hon.out _ 99 _ rfl).mono ?_
  rintro e w3 ⟨ac, rfl, hc3, hb3⟩
  have ha3 := (ha1.grown hb2).grown hb3
  have hb3s := hb2s.grown hb3
  have hbw3 : Below w.heap.size w w3 := (hb1.trans (hb2.mono hb1.size)).trans (hb3.mono (Nat.le_trans hb1.size hb2.size))
  have hI := ex_items w3 aa ab ac ha3 hb3s hc3
  clear ha1 hb2s hb1 hb2 hb3 ha3 hb3s hc3
  have hg3 : Below w3.heap.size w3 (((w3.alloc (.cells #[.int .i64 2, .slice ab 1 1, .slice none 0 0, .int .i64 2, .slice ac 1 1, .slice none 0 0] 25)).alloc (.cells #[.int .i64 4, .slice none 0 0, .slice (some ⟨w3.heap.size, 0, none⟩) 2 2] 25)).alloc (.cells #[.int .i64 2, .slice aa 1 1, .slice none 0 0, .int .i64 5, .slice none 0 0, .slice (some ⟨w3.heap.size + 1, 0, none⟩) 1 1] 25)) :=
    (((Below.refl _ w3).alloc (Nat.le_refl _) _).alloc (by simp) _).alloc (by simp; omega) _
  go_wp2_with (fail)
  have hW := (Blk.new (((w3.alloc (.cells #[.int .i64 2, .slice ab 1 1, .slice none 0 0, .int .i64 2, .slice ac 1 1, .slice none 0 0] 25)).alloc (.cells #[.int .i64 4, .slice none 0 0, .slice (some ⟨w3.heap.size, 0, none⟩) 2 2] 25)).alloc (.cells #[.int .i64 2, .slice aa 1 1, .slice none 0 0, .int .i64 5, .slice none 0 0, .slice (some ⟨w3.heap.size + 1, 0, none⟩) 1 1] 25)) 25 #[.int .i64 3, .slice none 0 0, .slice (some ⟨w3.heap.size + 1 + 1, 0, none⟩) 2 2])
  have hb4 := hbw3.trans ((hg3.alloc hg3.size (.cells #[.int .i64 3, .slice none 0 0, .slice (some ⟨w3.heap.size + 1 + 1, 0, none⟩) 2 2] 25)).mono hbw3.size)
  have hI4 := hI.grown ((Below.refl _ _).alloc (Nat.le_refl _) (.cells #[.int .i64 3, .slice none 0 0, .slice (some ⟨w3.heap.size + 1 + 1, 0, none⟩) 2 2] 25))
  simp only [World.size_alloc] at hW
  generalize World.alloc (World.alloc _ _) _ = W4 at hW hb4 hI4 ⊢
  generalize (some ⟨w3.heap.size + 1 + 1, 0, none⟩ : Option Addr) = wa at hW hI4 ⊢
  generalize w3.heap.size + 1 + 1 + 1 = bw at hW ⊢
  clear hI hg3 hbw3
  refine (live_p1 W4).mono ?_
  rintro e w5 ⟨rs, rsc, ra, rc, rfl, hrs, hrI, hb5⟩
  have hW5 := hW.below hb5 hW.lt
  have hI5 := hI4.grown hb5
  have hbw5 := hb4.trans (hb5.mono hb4.size)
  clear hW hI4 hb4 hb5
  have hR5 := Blk.new w5 25 #[.int .i64 3, .slice rs 0 rsc, .slice ra 2 rc]
  have hal : Below w5.heap.size w5 (w5.alloc (.cells #[.int .i64 3, .slice rs 0 rsc, .slice ra 2 rc] 25)) := (Below.refl _ w5).alloc (Nat.le_refl _) _
  have hWa := hW5.below hal hW5.lt
  have hIa := hI5.grown hal
  have hSa := hrs.grown hal
  have hJa := hrI.grown hal
  have hbwa := hbw5.trans (hal.mono hbw5.size)
  go_wp2_with (fail)
  generalize w5.alloc (.cells #[.int .i64 3, .slice rs 0 rsc, .slice ra 2 rc] 25) = Wa at hR5 hWa hIa hSa hJa hbwa ⊢
  generalize w5.heap.size = br at hR5 ⊢
  clear hal hW5 hI5 hrs hrI hbw5
  have hRa := hR5
  clear hR5
  refine (live_p2 Wa).mono ?_
  rintro e w6 ⟨zs, zsc, za, zc, rfl, hb6⟩
  have hW6 := hWa.below hb6 hWa.lt
  have hR6 := hRa.below hb6 hRa.lt
  have hI6 := hIa.grown hb6
  have hS6 := hSa.grown hb6
  have hJ6 := hJa.grown hb6
  have hbw6 := hbwa.trans (hb6.mono hbwa.size)
  clear hWa hRa hIa hSa hJa hbwa hb6
  have hb7 : Below w6.heap.size w6 (w6.alloc (.cells #[.int .i64 0, .slice zs 0 zsc, .slice za 0 zc] 25)) := (Below.refl _ w6).alloc (Nat.le_refl _) _
  have hW7 := hW6.below hb7 hW6.lt
  have hR7 := hR6.below hb7 hR6.lt
  have hI7 := hI6.grown hb7
  have hS7 := hS6.grown hb7
  have hJ7 := hJ6.grown hb7
  have hbw7 := hbw6.trans (hb7.mono hbw6.size)
  clear hW6 hR6 hI6 hS6 hJ6 hbw6 hb7
  have x0 := hW7.cell 0
  have x1 := hW7.cell 1
  have x2 := hW7.cell 2
  have xl := hW7.lt
  have y0 := hR7.cell 0
  have y1 := hR7.cell 1
  have y2 := hR7.cell 2
  have yl := hR7.lt
  simp only [List.getElem?_cons_zero, List.getElem?_cons_succ] at x0 x1 x2 y0 y1 y2
  go_wp2_with (fail)
  generalize w6.alloc (.cells #[.int .i64 0, .slice zs 0 zsc, .slice za 0 zc] 25) = w7 at *
  refine (live_t w7 _ _ _ _ (Sps.nil _) hI7).mono ?_
  rintro e w8 ⟨rfl, hb8⟩
  clear x0 x1 x2 xl y0 y1 y2 yl
  have hW8 := hW7.below hb8 hW7.lt
  have hR8 := hR7.below hb8 hR7.lt
  have hI8 := hI7.grown hb8
  have hS8 := hS7.grown hb8
  have hJ8 := hJ7.grown hb8
  have hbw8 := hbw7.trans (hb8.mono hbw7.size)
  clear hW7 hR7 hI7 hS7 hJ7 hbw7 hb8
  have x0 := hW8.cell 0
  have x1 := hW8.cell 1
  have x2 := hW8.cell 2
  have xl := hW8.lt
  have y0 := hR8.cell 0
  have y1 := hR8.cell 1
  have y2 := hR8.cell 2
  have yl := hR8.lt
  simp only [List.getElem?_cons_zero, List.getElem?_cons_succ] at x0 x1 x2 y0 y1 y2
  go_wp2_with (fail)
  refine (live_s w8 _ _ _ _ _ _ _ _ hS8 hJ8 (Sps.nil _) hI8).mono ?_
  rintro e w9 ⟨rfl, hb9⟩
  clear x0 x1 x2 xl y0 y1 y2 yl
  have hW9 := hW8.below hb9 hW8.lt
  have hR9 := hR8.below hb9 hR8.lt
  have hI9 := hI8.grown hb9
  have hS9 := hS8.grown hb9
  have hJ9 := hJ8.grown hb9
  have hbw9 := hbw8.trans (hb9.mono hbw8.size)
  clear hW8 hR8 hI8 hS8 hJ8 hbw8 hb9
  have x0 := hW9.cell 0
  have x1 := hW9.cell 1
  have x2 := hW9.cell 2
  have xl := hW9.lt
  have y0 := hR9.cell 0
  have y1 := hR9.cell 1
  have y2 := hR9.cell 2
  have yl := hR9.lt
  simp only [List.getElem?_cons_zero, List.getElem?_cons_succ] at x0 x1 x2 y0 y1 y2
  go_wp2_with (fail)
  refine (live_m1 w9 _ _ _ _ hS9 hJ9).mono ?_
  rintro e w10 ⟨rfl, hb10⟩
  clear x0 x1 x2 xl y0 y1 y2 yl
  have hW10 := hW9.below hb10 hW9.lt
  have hR10 := hR9.below hb10 hR9.lt
  have hI10 := hI9.grown hb10
  have hS10 := hS9.grown hb10
  have hJ10 := hJ9.grown hb10
  have hbw10 := hbw9.trans (hb10.mono hbw9.size)
  clear hW9 hR9 hI9 hS9 hJ9 hbw9 hb10
  have x0 := hW10.cell 0
  have x1 := hW10.cell 1
  have x2 := hW10.cell 2
  have xl := hW10.lt
  have y0 := hR10.cell 0
  have y1 := hR10.cell 1
  have y2 := hR10.cell 2
  have yl := hR10.lt
  simp only [List.getElem?_cons_zero, List.getElem?_cons_succ] at x0 x1 x2 y0 y1 y2
  go_wp2_with (fail)
  refine (live_m2 w10 _ _ _ _ hS10 hJ10).mono ?_
  rintro e w11 ⟨rfl, hb11⟩
  clear x0 x1 x2 xl y0 y1 y2 yl
  have hW11 := hW10.below hb11 hW10.lt
  have hR11 := hR10.below hb11 hR10.lt
  have hI11 := hI10.grown hb11
  have hS11 := hS10.grown hb11
  have hJ11 := hJ10.grown hb11
  have hbw11 := hbw10.trans (hb11.mono hbw10.size)
  clear hW10 hR10 hI10 hS10 hJ10 hbw10 hb11
  have x0 := hW11.cell 0
  have x1 := hW11.cell 1
  have x2 := hW11.cell 2
  have xl := hW11.lt
  have y0 := hR11.cell 0
  have y1 := hR11.cell 1
  have y2 := hR11.cell 2
  have yl := hR11.lt
  simp only [List.getElem?_cons_zero, List.getElem?_cons_succ] at x0 x1 x2 y0 y1 y2
  go_wp2_with (fail)
  refine (live_c w11 _ _ _ _ hS11 hJ11).mono ?_
  rintro e w12 ⟨rfl, hb12⟩
  clear x0 x1 x2 xl y0 y1 y2 yl
  have hW12 := hW11.below hb12 hW11.lt
  have hR12 := hR11.below hb12 hR11.lt
  have hI12 := hI11.grown hb12
  have hS12 := hS11.grown hb12
  have hJ12 := hJ11.grown hb12
  have hbw12 := hbw11.trans (hb12.mono hbw11.size)
  clear hW11 hR11 hI11 hS11 hJ11 hbw11 hb12
  have x0 := hW12.cell 0
  have x1 := hW12.cell 1
  have x2 := hW12.cell 2
  have xl := hW12.lt
  have y0 := hR12.cell 0
  have y1 := hR12.cell 1
  have y2 := hR12.cell 2
  have yl := hR12.lt
  simp only [List.getElem?_cons_zero, List.getElem?_cons_succ] at x0 x1 x2 y0 y1 y2
  go_wp2_with (fail)
  exact bodyPost_ret (v := .bool true) (by simp [results, Try.results12, go_sem]; try rfl) rfl ⟨rfl, hbw12⟩
end Go.Proofs.Ytkdfobnkebkpfaa
