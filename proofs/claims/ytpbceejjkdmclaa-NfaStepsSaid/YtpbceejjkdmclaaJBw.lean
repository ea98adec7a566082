/- Texts of layer 2 joined: Bo Bw PBw. -/
import Derived.Test.YtpbceejjkdmclaaJK4
import Derived.Test.YtpbceejjkdmclaaJHo
import Derived.Test.YtpbceejjkdmclaaJK
import Derived.Test.YtpbceejjkdmclaaJNm
set_option linter.unusedVariables false
set_option linter.unusedSimpArgs false
/- Layer 3: lists of expressions one behind the other: what they make, what is told of them; append of lists. -/
namespace Go.Proofs.Ytpbceejjkdmclaa
open Go.RowKit

def Fo.app : Fo → Fo → Fo
  | .nil, g => g
  | .cons h k r, g => .cons h k (r.app g)
theorem app_len : ∀ (f g : Fo), (f.app g).len = f.len + g.len
  | .nil, g => by simp [Fo.app, Fo.len]
  | .cons h k r, g => by simp only [Fo.app, Fo.len, app_len r g]; omega
theorem app_size : ∀ (f g : Fo), (f.app g).size = f.size + g.size
  | .nil, g => by simp [Fo.app, Fo.size]
  | .cons h k r, g => by simp only [Fo.app, Fo.size, app_size r g]; omega
theorem app_st : ∀ (f g : Fo), stF (f.app g) = stF f + stF g
  | .nil, g => by simp [Fo.app, stF]
  | .cons h k r, g => by simp only [Fo.app, stF, app_st r g]; omega
theorem app_ls : ∀ (f g : Fo), lsF (f.app g) = lsF f ++ lsF g
  | .nil, g => by simp [Fo.app, lsF]
  | .cons h k r, g => by simp only [Fo.app, lsF, app_ls r g, List.cons_append]
theorem foX_app : ∀ (l m : List Ex), foX (l ++ m) = (foX l).app (foX m)
  | [], m => rfl
  | x :: l, m => by simp only [List.cons_append, foX, Fo.app, foX_app l m]
theorem ls_len : ∀ (f : Fo), (lsF f).length = f.len
  | .nil => rfl
  | .cons h k r => by simp only [lsF, List.length_cons, Fo.len, ls_len r]

open Classical in
theorem run_filter {f : Fo} (ho : okF f) (hs : 1 + stF f ≤ 2000) (s : List UInt8) : runP (autF f) s = (List.range f.len).filter (fun i => decide (∃ L, (lsF f)[i]? = some L ∧ L s)) := by
  have h := run_is ho hs s
  obtain ⟨_, _, n3⟩ := aut_n ho
  unfold runP at h ⊢
  rw [n3] at h ⊢
  refine List.filter_congr fun i hi => ?_
  have hi' := h i
  simp only [List.mem_filter, hi, true_and, decide_eq_true_eq] at hi'
  exact decide_eq_decide.2 hi'
/-- What is told of two lists, one behind the other. -/
theorem run_both {f g : Fo} (hf : okF f) (hg : okF g) (hz : okF (f.app g)) (sf : 1 + stF f ≤ 2000) (sg : 1 + stF g ≤ 2000) (sz : 1 + stF (f.app g) ≤ 2000) (s : List UInt8) :
    runP (autF (f.app g)) s = runP (autF f) s ++ (runP (autF g) s).map (· + f.len) := by
  classical
  rw [run_filter hf sf, run_filter hg sg, run_filter hz sz, app_len, List.range_add, List.filter_append]
  congr 1
  · refine List.filter_congr fun i hi => ?_
    have hi' : i < (lsF f).length := by rw [ls_len]; exact List.mem_range.1 hi
    rw [app_ls, List.getElem?_append_left hi']
  · rw [List.filter_map]
    have he : (fun x => f.len + x) = (fun x => x + f.len) := by funext x; omega
    rw [he]
    congr 1
    refine List.filter_congr fun i _ => ?_
    have hl := ls_len f
    simp only [Function.comp]
    rw [app_ls, List.getElem?_append_right (by omega), hl, Nat.add_sub_cancel]

theorem elems_ea {w : World} : ∀ (f : Fo) (b off : Nat), Elems w f b off → ∃ es : List Ea, foE es = f ∧ (∀ j u, (rowE es)[j]? = some u → w.cell? ⟨b, off + j, none⟩ = some u) ∧ ∀ e ∈ es, EaP (fun _ => True) w e := by
  have hP : ∀ (f : Fo) (b off : Nat), Elems w f b off → ElemsP (fun _ => True) w f b off := by
    intro f
    induction f with
    | nil => intro b off _; trivial
    | cons h kids rest ihk ihr =>
      rintro b off ⟨h1, ⟨sa, sc, h2, h3⟩, ⟨a, cap, h4, h5, h6, h7, h8⟩, h9⟩
      exact ⟨trivial, h1, ⟨sa, sc, h2, ⟨h3, fun _ _ _ _ => trivial⟩⟩, ⟨a, cap, h4, h5, h6, h7, fun hn => by obtain ⟨b', o', e, hk⟩ := h8 hn; exact ⟨b', o', e, ihk _ _ hk⟩⟩, ihr _ _ h9⟩
  intro f
  induction f with
  | nil => intro b off _; exact ⟨[], rfl, fun j u h => by simp [rowE] at h, fun e h => by cases h⟩
  | cons h kids rest _ ihr =>
    rintro b off ⟨h1, ⟨sa, sc, h2, h3⟩, ⟨a, cap, h4, h5, h6, h7, h8⟩, h9⟩
    obtain ⟨es, e1, e2, e3⟩ := ihr b (off + 3) h9
    refine ⟨⟨⟨h, kids⟩, sa, sc, a, cap⟩ :: es, ?_, ?_, ?_⟩
    · show Fo.cons h kids (foE es) = _; rw [e1]
    · intro j u hj
      match j, hj with
      | 0, hj => simp only [rowE, Ea.row, List.cons_append, List.getElem?_cons_zero, Option.some.injEq] at hj; subst hj; exact h1
      | 1, hj => simp only [rowE, Ea.row, List.cons_append, List.getElem?_cons_zero, List.getElem?_cons_succ, Option.some.injEq] at hj; subst hj; exact h2
      | 2, hj => simp only [rowE, Ea.row, List.cons_append, List.getElem?_cons_zero, List.getElem?_cons_succ, Option.some.injEq] at hj; subst hj; exact h4
      | j + 3, hj =>
        simp only [rowE, Ea.row, List.cons_append, List.nil_append, List.getElem?_cons_succ] at hj
        have := e2 j u hj
        rw [show off + (j + 3) = off + 3 + j from by omega]
        exact this
    · intro e he
      rcases List.mem_cons.1 he with rfl | he
      · exact ⟨⟨h3, fun _ _ _ _ => trivial⟩, ⟨h5, h6, h7, fun hn => by obtain ⟨b', o', e, hk⟩ := h8 hn; exact ⟨b', o', e, hP _ _ _ hk⟩⟩⟩
      · exact e3 e he
theorem rowE_one : ∀ (es : List Ea), ∀ u ∈ rowE es, u.oneCell' = true
  | [], u, h => by cases h
  | e :: r, u, h => by
    simp only [rowE, Ea.row, List.cons_append, List.nil_append, List.mem_cons] at h
    rcases h with rfl | rfl | rfl | h
    · rfl
    · rfl
    · rfl
    · exact rowE_one r u h
theorem rowE_app : ∀ (l m : List Ea), rowE (l ++ m) = rowE l ++ rowE m
  | [], m => rfl
  | e :: r, m => by simp only [List.cons_append, rowE, rowE_app r m, List.append_assoc]
/-- append(x, l...): l a list of expressions. -/
theorem run_appR (w0 w : World) (hw : Below w0.heap.size w0 w) (ty : TypeId) {base n cap : Nat} {a : Option Addr} {row : List Value} (hown : w.ownsRow base 35 3 (.slice a n cap) n row)
    (a2 : Option Addr) (m c : Nat) (f : Fo) (hI : Items w0 a2 c f) (hm : f.len = m) (hn : n + m ≤ 1000000) (hbase : base ≤ w.heap.size) :
    ∃ a' cap' w' es, (Builtin.append_ #[33, 33] ty #[.slice a n cap, .slice a2 m c]).run Try.prog w = .ok (.slice a' (n + m) cap') w' ∧ foE es = f ∧ (∀ e ∈ es, EaP (fun _ => True) w0 e) ∧
      w'.ownsRow base 35 3 (.slice a' (n + m) cap') (n + m) (row ++ rowE es) ∧ w.grownBy w' (Value.slice a n cap).ownBlock := by
  obtain ⟨i0, hi, hz0, hz1, hz2⟩ := info_parts info_re
  subst hm
  cases a2 with
  | none =>
    obtain rfl : c = 0 := hI.nil_ rfl
    have h0 : f.len = 0 := Nat.le_zero.1 hI.le
    have hf : f = .nil := by cases f with
      | nil => rfl
      | cons h k r => simp [Fo.len] at h0
    subst hf
    exact ⟨a, cap, w, [], run_append_owned_none (P := Try.prog) w base _ ty _ i0 3 Try.underlying33 hi _ _ _ hown, rfl, fun e h => (by cases h), by simpa [rowE, Fo.len] using hown, ⟨rfl, rfl, rfl, Nat.le_refl _, fun _ _ _ => rfl⟩⟩
  | some ad =>
    have hes : ∃ es : List Ea, foE es = f ∧ (∀ j u, (rowE es)[j]? = some u → w.cell? (ad.add j) = some u) ∧ ∀ e ∈ es, EaP (fun _ => True) w0 e := by
      by_cases h0 : 0 < f.len
      · obtain ⟨b, o, e, hE⟩ := hI.at_ h0
        cases e
        obtain ⟨es, e1, e2, e3⟩ := elems_ea f b o hE
        exact ⟨es, e1, fun j u hj => by rw [show (⟨b, o, none⟩ : Addr).add j = ⟨b, o + j, none⟩ from by unfold Addr.add; split <;> simp_all]; exact (hw.cell (p := ⟨b, o + j, none⟩) (World.block_lt_of_cell? w0 _ (e2 j u hj))).trans (e2 j u hj), e3⟩
      · have hf : f = .nil := by cases f with
          | nil => rfl
          | cons h k r => simp [Fo.len] at h0
        exact ⟨[], by rw [hf]; rfl, fun j u h => by simp [rowE] at h, fun e h => by cases h⟩
    obtain ⟨es, e1, e2, e3⟩ := hes
    have hl : es.length = f.len := by rw [← e1, foE_len]
    obtain ⟨v', w', hrun, ho, hg, _⟩ := run_append_own (P := Try.prog) w base 33 ty 35 i0 _ 3 56 Try.underlying33 hi hz0 hz1 hz2 rfl (by decide) _ n _ hown ad f.len c (rowE es) (by rw [rowE_length, hl]) e2 (rowE_one es) (by unfold maxLen; omega) (by omega) hbase
    obtain ⟨a', cap', rfl⟩ := slice_of_own ho
    exact ⟨a', cap', w', es, hrun, e1, e3, ho, hg⟩
theorem EaP.grown {w w' : World} {e : Ea} (h : EaP (fun _ => True) w e) (hb : Below w.heap.size w w') : EaP (fun _ => True) w' e := h.move fun b _ hlt => ⟨trivial, hb.block b hlt⟩
/-- append(append(nil, f...), g...). -/
theorem run_appR2 (w : World) (ty ty2 : TypeId) (fa ga : Option Addr) (L M fc gc : Nat) (f g : Fo) (hf : Items w fa fc f) (hg : Items w ga gc g) (hL : f.len = L) (hM : g.len = M) (hl : L ≤ 1000) (hm : M ≤ 1000) :
    ∃ a1 c1 w1 a2 c2 w2, (Builtin.append_ #[33, 33] ty #[.slice none 0 0, .slice fa L fc]).run Try.prog w = .ok (.slice a1 L c1) w1 ∧
      (Builtin.append_ #[33, 33] ty2 #[.slice a1 L c1, .slice ga M gc]).run Try.prog w1 = .ok (.slice a2 (f.app g).len c2) w2 ∧ Items w2 a2 c2 (f.app g) ∧ Below w.heap.size w w2 := by
  obtain ⟨a1, c1, w1, es, hr1, e1, e2, ho1, hg1⟩ := run_appR w w (Below.refl _ w) ty (World.ownsRow_nil w w.heap.size 35 3) fa L fc f hf hL (by omega) (Nat.le_refl _)
  have hb1 : Below w.heap.size w w1 := grownBy_below hg1 (fun i e => by cases e)
  obtain ⟨a2, c2, w2, fs, hr2, f1, f2, ho2, hg2⟩ := run_appR w w1 hb1 ty2 (base := w.heap.size) ho1 ga M gc g hg hM (by omega) hb1.size
  rw [Nat.zero_add] at hr1 hr2 ho2 ho1
  have hb2 : Below w.heap.size w w2 := hb1.grown hg2 hb1.size (fun k e => by
    rcases ho1.2 with ⟨e1, _⟩ | ⟨g, c, cur, e1, hb, _⟩
    · injection e1 with e1 _ _; rw [e1] at e; cases e
    · injection e1 with e1 _ _; rw [e1] at e; cases e; exact hb)
  have hle : (es ++ fs).length = L + M := by rw [List.length_append, ← foE_len es, ← foE_len fs, e1, f1, hL, hM]
  have hfo : foE (es ++ fs) = f.app g := by rw [← e1, ← f1]; unfold foE; rw [List.map_append, foX_app]
  refine ⟨a1, c1, w1, a2, c2, w2, hr1, by rw [app_len, hL, hM]; exact hr2, ?_, hb2⟩
  rw [List.nil_append, ← rowE_app, ← hle] at ho2
  rw [← hfo]
  exact (items_row (p := fun _ => True) ho2 (fun _ _ => trivial) (fun e he => by
    rcases List.mem_append.1 he with h | h
    · exact (e2 e h).grown hb2
    · exact (f2 e h).grown hb2)).items
/-- append(nil, l...): l a list of numbers. -/
theorem run_appI (w : World) (ty : TypeId) (a2 : Option Addr) (c : Nat) (l : List Nat) (hI : IntsN w a2 c l) (hn : l.length ≤ 1000000) :
    ∃ a' cap' w', (Builtin.append_ #[22, 22] ty #[.slice none 0 0, .slice a2 l.length c]).run Try.prog w = .ok (.slice a' l.length cap') w' ∧ OwnI w' w.heap.size a' l.length cap' l ∧ Below w.heap.size w w' := by
  obtain ⟨i0, hi, hz0, hz1, hz2⟩ := info_parts info_int
  have hown : w.ownsRow w.heap.size 3 1 (.slice none 0 0) 0 [] := World.ownsRow_nil w w.heap.size _ 1
  cases a2 with
  | none =>
    obtain rfl : c = 0 := hI.nil_ rfl
    have h0 : l.length = 0 := by have := hI.le; rw [List.length_map] at this; omega
    obtain rfl := List.length_eq_zero_iff.1 h0
    exact ⟨none, 0, w, run_append_owned_none (P := Try.prog) w w.heap.size _ ty _ i0 1 Try.underlying22 hi _ _ _ hown, hown, Below.refl _ w⟩
  | some ad =>
    have hcells : ∀ j u, (l.map iv)[j]? = some u → w.cell? (ad.add j) = some u := by
      intro j u hj
      rw [List.getElem?_map] at hj
      obtain ⟨x, hx, rfl⟩ := Option.map_eq_some_iff.1 hj
      obtain ⟨hlt, rfl⟩ := List.getElem?_eq_some_iff.1 hx
      obtain ⟨b, o, e⟩ := hI.at_ j (by rw [List.length_map]; exact hlt)
      cases e
      rw [show (⟨b, o, none⟩ : Addr).add j = ⟨b, o + j, none⟩ from by unfold Addr.add; split <;> simp_all]
      have := hI.cell b o rfl j (by rw [List.length_map]; exact hlt)
      rw [List.getElem_map] at this
      exact this
    obtain ⟨v', w', hrun, ho, hg, _⟩ := run_append_own (P := Try.prog) w w.heap.size 22 ty 3 i0 (.int .i64 0) 1 8 Try.underlying22 hi hz0 hz1 hz2 rfl (by decide) _ 0 _ hown ad l.length c (l.map iv) (by simp) hcells (by simp [iv, Value.oneCell']) (by unfold maxLen; omega) (by omega) (Nat.le_refl _)
    rw [Nat.zero_add, List.nil_append] at ho
    obtain ⟨a', cap', rfl⟩ := slice_of_own ho
    exact ⟨a', cap', w', hrun, ho, grownBy_below hg (fun i e => by cases e)⟩
end Go.Proofs.Ytpbceejjkdmclaa

/- The law NfaBoth. -/
namespace Go.Proofs.Ytpbceejjkdmclaa
open Go.RowKit Go.Shelf

attribute [local go_sem] Oper.semAt_some

theorem few_bounds {f : Fo} {q : Bool} (h : (decide (f.len ≤ 20) && !bigF 120 f) = q) (hq : q = true) : f.len ≤ 20 ∧ f.size ≤ 2400 ∧ stF f ≤ 7200 := by
  rw [hq] at h
  simp only [Bool.and_eq_true, decide_eq_true_eq, Bool.not_eq_true'] at h
  have h1 := bigF_size (m := 120) f h.2
  have h2 := Nat.mul_le_mul_left 120 h.1
  have h3 := st_size3 f
  omega
theorem buildP_zero {f : Fo} {x : Nf} (h : buildP f = (x, 0)) : errF f = 0 ∧ 1 + stF f ≤ 2000 ∧ x = autF f := by
  by_cases hok : errF f = 0 ∧ 1 + stF f ≤ 2000
  · rw [build_ok hok.1 hok.2] at h
    exact ⟨hok.1, hok.2, (Prod.mk.inj h).1.symm⟩
  · obtain ⟨E, hE, hE0⟩ := buildP_bad hok
    rw [hE] at h
    exact absurd (Prod.mk.inj h).2 hE0
/-- The box of an automaton, in whatever world. -/
abbrev nfC (x : Nf) (p : NfL) : Array Value := #[.int .i64 x.n, .int .i64 x.s, .slice p.ea x.ends.length p.ec, .slice p.ga x.es.length p.gc]

set_option maxRecDepth 100000 in
set_option maxHeartbeats 4000000 in
theorem nfaBoth_any (f g : Fo) (a b : Option Addr) (c d : Nat) (s : ByteArray) (w : World) (hf : Items w a c f) (hg : Items w b d g) :
    Calls Try.prog 8 #[.slice a f.len c, .slice b g.len d, .string s] w fun e w' => e = .returned (.bool true) ∧ Below w.heap.size w w' := by
  have hlm : f.len ≤ c ∧ c ≤ 9223372036854775807 := ⟨hf.le, hf.max⟩
  have hlm2 : g.len ≤ d ∧ d ≤ 9223372036854775807 := ⟨hg.le, hg.max⟩
  have HFf := Lib.hid (fun (V : World) (hV : Below w.heap.size w V) => few3_any f a c V (hf.grown hV))
  have HFg := Lib.hid (fun (V : World) (hV : Below w.heap.size w V) => few3_any g b d V (hg.grown hV))
  have HBf := Lib.hid (fun (V : World) (hV : Below w.heap.size w V) (h1 : f.size ≤ 1000000) (h2 : stF f ≤ 100000000) => build_any a f.len c f V rfl (hf.grown hV) h1 h2)
  have HBg := Lib.hid (fun (V : World) (hV : Below w.heap.size w V) (h1 : g.size ≤ 1000000) (h2 : stF g ≤ 100000000) => build_any b g.len d g V rfl (hg.grown hV) h1 h2)
  have HAp := Lib.hid (fun (V : World) (hV : Below w.heap.size w V) (h1 : f.len ≤ 1000) (h2 : g.len ≤ 1000) => run_appR2 V 33 33 a b f.len g.len c d f g (hf.grown hV) (hg.grown hV) rfl rfl h1 h2)
  have HBz := Lib.hid (fun (a' : Option Addr) (c' : Nat) (V : World) (hI : Items V a' c' (f.app g)) (h1 : (f.app g).size ≤ 1000000) (h2 : stF (f.app g) ≤ 100000000) => build_any a' (f.app g).len c' (f.app g) V rfl hI h1 h2)
  obtain ⟨R1, hR1⟩ : ∃ R, Hid (buildP f = R) := ⟨_, Lib.hid rfl⟩
  obtain ⟨R2, hR2⟩ : ∃ R, Hid (buildP g = R) := ⟨_, Lib.hid rfl⟩
  obtain ⟨R3, hR3⟩ : ∃ R, Hid (buildP (f.app g) = R) := ⟨_, Lib.hid rfl⟩
  rw [hR1.out] at HBf
  rw [hR2.out] at HBg
  rw [hR3.out] at HBz
  obtain ⟨L, HL⟩ : ∃ L, Hid (f.len = L) := ⟨_, Lib.hid rfl⟩
  obtain ⟨M, HM⟩ : ∃ M, Hid (g.len = M) := ⟨_, Lib.hid rfl⟩
  obtain ⟨N, HN⟩ : ∃ N, Hid ((f.app g).len = N) := ⟨_, Lib.hid rfl⟩
  obtain ⟨q1, hq1⟩ : ∃ q, Hid ((decide (f.len ≤ 20) && !bigF 120 f) = q) := ⟨_, Lib.hid rfl⟩
  obtain ⟨q2, hq2⟩ : ∃ q, Hid ((decide (g.len ≤ 20) && !bigF 120 g) = q) := ⟨_, Lib.hid rfl⟩
  rw [hq1.out, HL.out] at HFf
  rw [hq2.out, HM.out] at HFg
  rw [HN.out] at HBz HAp
  rw [HL.out] at hlm HBf HAp ⊢
  rw [HM.out] at hlm2 HBg HAp ⊢
  obtain ⟨x1, E1⟩ := R1
  obtain ⟨x2, E2⟩ := R2
  obtain ⟨x3, E3⟩ := R3
  go_enter Try.func8, Try.ntmps8
  go_wp2_with (fail)
  refine (live3_any _).mono ?_
  rintro e w1 ⟨rfl, hb1⟩
  go_wp2_with (fail)
  refine (HFf.out w1 hb1).mono ?_
  rintro e w2 ⟨rfl, hb2⟩
  have hbw2 := hb1.trans (hb2.mono hb1.size)
  clear hb1 hb2 HFf
  cases q1
  case false =>
    go_wp2_with (fail)
    exact bodyPost_ret (v := .bool true) (by simp [results, Try.results8, go_sem]; try rfl) rfl ⟨rfl, hbw2⟩
  go_wp2_with (fail)
  refine (HFg.out w2 hbw2).mono ?_
  rintro e w3 ⟨rfl, hb3⟩
  have hbw3 := hbw2.trans (hb3.mono hbw2.size)
  clear hb3 hbw2 HFg
  cases q2
  case false =>
    go_wp2_with (fail)
    exact bodyPost_ret (v := .bool true) (by simp [results, Try.results8, go_sem]; try rfl) rfl ⟨rfl, hbw3⟩
  obtain ⟨y1, y2, y3⟩ := few_bounds hq1.out rfl
  obtain ⟨z1, z2, z3⟩ := few_bounds hq2.out rfl
  have zs := app_size f g
  have zt := app_st f g
  rw [HL.out] at y1
  rw [HM.out] at z1
  by_cases hs30 : 30 < s.size
  · have hsI : (30 : Int) < (s.size : Int) := by omega
    go_wp2_with (fail)
    exact bodyPost_ret (v := .bool true) (by simp [results, Try.results8, go_sem]; try rfl) rfl ⟨rfl, hbw3⟩
  have hsI : ¬ (30 : Int) < (s.size : Int) := by omega
  go_wp2_with (fail)
  refine (HBf.out w3 hbw3 (by omega) (by omega)).mono ?_
  rintro e w4 ⟨⟨⟨ea1, ec1, ga1, gc1⟩, rfl, hp1⟩, hb4⟩
  have hbw4 := hbw3.trans (hb4.mono hbw3.size)
  have hbw5 := hbw4.alloc hbw4.size (.cells (nfC x1 ⟨ea1, ec1, ga1, gc1⟩) 25)
  have hA5 := Blk.new w4 25 (nfC x1 ⟨ea1, ec1, ga1, gc1⟩)
  have hp15 := hp1.grown ((Below.refl _ w4).alloc (Nat.le_refl _) (.cells (nfC x1 ⟨ea1, ec1, ga1, gc1⟩) 25))
  dsimp only [nfC] at hbw5 hA5 hp15
  have HBg5 := Lib.hid (HBg.out _ hbw5 (by omega) (by omega))
  clear hb4 hbw4 hbw3 hp1 HBf HBg
  dsimp only
  go_wp2_with (fail)
  obtain ⟨W5, hW5⟩ : ∃ W, Hid (w4.alloc (.cells #[.int .i64 x1.n, .int .i64 x1.s, .slice ea1 x1.ends.length ec1, .slice ga1 x1.es.length gc1] 25) = W) := ⟨_, Lib.hid rfl⟩
  rw [hW5.out] at hbw5 hA5 hp15 HBg5 ⊢
  refine HBg5.out.mono ?_
  rintro e w6 ⟨⟨⟨ea2, ec2, ga2, gc2⟩, rfl, hp2⟩, hb6⟩
  have hbw6 := hbw5.trans (hb6.mono hbw5.size)
  have hb7 := (Below.refl w6.heap.size w6).alloc (Nat.le_refl _) (.cells (nfC x2 ⟨ea2, ec2, ga2, gc2⟩) 25)
  have hbw7 := hbw6.trans (hb7.mono hbw6.size)
  have hA7 := Blk.new w6 25 (nfC x2 ⟨ea2, ec2, ga2, gc2⟩)
  have hp27 := hp2.grown hb7
  have hp17 := (hp15.grown hb6).grown hb7
  have hA57 := (hA5.below hb6 hA5.lt).below hb7 (hA5.below hb6 hA5.lt).lt
  dsimp only [nfC] at hbw7 hA7 hp27 hp17 hA57
  have HAp7 := HAp.out _ hbw7 (by omega) (by omega)
  clear HBg5 hb6 hb7 hbw6 hbw5 hA5 hp15 hp2 HAp
  obtain ⟨a1, c1, w8, a2, c2, w9, hr1, hr2, hI9, hb9⟩ := HAp7
  have Hr1 := Lib.hid hr1
  have Hr2 := Lib.hid hr2
  have HI9 := Lib.hid hI9
  have hbw9 := hbw7.trans (hb9.mono hbw7.size)
  have hp19 := hp17.grown hb9
  have hp29 := hp27.grown hb9
  have hA19 := hA57.below hb9 hA57.lt
  have hA29 := hA7.below hb9 hA7.lt
  have HBz9 := Lib.hid (HBz.out a2 c2 w9 hI9 (by omega) (by omega))
  clear hr1 hr2 hI9 hb9 hbw7 hA7 hp27 hp17 hA57 HBz
  dsimp only
  go_wp2_with (at_builtin; first | (refine wpList_append_run rfl _ _ 33 33 rfl _ _ _ _ rfl rfl Hr1.out ?_) | (refine wpList_append_run rfl _ _ 33 33 rfl _ _ _ _ rfl rfl Hr2.out ?_))
  refine HBz9.out.mono ?_
  rintro e w10 ⟨⟨⟨ea3, ec3, ga3, gc3⟩, rfl, hp3⟩, hb10⟩
  have hbw10 := hbw9.trans (hb10.mono hbw9.size)
  have hb11 := (Below.refl w10.heap.size w10).alloc (Nat.le_refl _) (.cells (nfC x3 ⟨ea3, ec3, ga3, gc3⟩) 25)
  have hbw11 := hbw10.trans (hb11.mono hbw10.size)
  have hA31 := Blk.new w10 25 (nfC x3 ⟨ea3, ec3, ga3, gc3⟩)
  have hp31 := hp3.grown hb11
  have hp21 := (hp29.grown hb10).grown hb11
  have hp11 := (hp19.grown hb10).grown hb11
  have hA11 := hA19.below hb10 hA19.lt
  have hA21 := (hA29.below hb10 hA29.lt).below hb11 (hA29.below hb10 hA29.lt).lt
  dsimp only [nfC] at hbw11 hA31 hp31 hp21 hp11 hA11 hA21
  clear HBz9 hb10 hb11 hbw10 hbw9 hA19 hA29 hp3 hp29 hp19 Hr1 Hr2 HI9
  by_cases hE : E1 = 0 ∧ E2 = 0 ∧ E3 = 0
  case neg =>
    clear hA31 hp31 hp21 hp11 hA11 hA21
    by_cases e1 : E1 = 0
    · subst e1
      by_cases e2 : E2 = 0
      · subst e2
        have e3 : (E3 != 0) = true := by simp; exact fun h => hE ⟨rfl, rfl, h⟩
        dsimp only
        go_wp2_with (fail)
        exact bodyPost_ret (v := .bool true) (by simp [results, Try.results8, go_sem]; try rfl) rfl ⟨rfl, hbw11⟩
      · have e3 : (E2 != 0) = true := by simp [e2]
        dsimp only
        go_wp2_with (fail)
        exact bodyPost_ret (v := .bool true) (by simp [results, Try.results8, go_sem]; try rfl) rfl ⟨rfl, hbw11⟩
    · have e3 : (E1 != 0) = true := by simp [e1]
      dsimp only
      go_wp2_with (fail)
      exact bodyPost_ret (v := .bool true) (by simp [results, Try.results8, go_sem]; try rfl) rfl ⟨rfl, hbw11⟩
  obtain ⟨rfl, rfl, rfl⟩ := hE
  obtain ⟨k1, k2, rfl⟩ := buildP_zero hR1.out
  obtain ⟨k3, k4, rfl⟩ := buildP_zero hR2.out
  obtain ⟨k5, k6, rfl⟩ := buildP_zero hR3.out
  have o1 := okF_err f k1
  have o2 := okF_err g k3
  have o3 := okF_err _ k5
  obtain ⟨-, n12, n13⟩ := aut_n o1
  obtain ⟨-, n22, n23⟩ := aut_n o2
  obtain ⟨-, n32, n33⟩ := aut_n o3
  have l1 := aut_link o1 k2
  have l2 := aut_link o2 k4
  have l3 := aut_link o3 k6
  have hbo := run_both o1 o2 o3 k2 k4 k6 s.data.toList
  have r1 := run_len (autF f) s.data.toList
  have r2 := run_len (autF g) s.data.toList
  have r2m : ∀ k ∈ runP (autF g) s.data.toList, k < M := by
    intro k hk
    unfold runP at hk
    have := List.mem_range.1 (List.mem_filter.1 hk).1
    rw [n23, HM.out] at this
    exact this
  have al := app_len f g
  have hl1 := HL.out
  have hl2 := HM.out
  rw [n13, HL.out] at r1
  rw [n23, HM.out] at r2
  rw [HL.out] at hbo
  rw [HL.out, HM.out] at al
  have Hrun1 := Lib.hid (fun (V : World) (p : NfL) (h : NfAt V (autF f) p) => run_own (autF f) p s V h l1 (by omega) (by omega) (by omega))
  have Hrun2 := Lib.hid (fun (V : World) (p : NfL) (h : NfAt V (autF g) p) => run_own (autF g) p s V h l2 (by omega) (by omega) (by omega))
  have Hrun3 := Lib.hid (fun (V : World) (p : NfL) (h : NfAt V (autF (f.app g)) p) => run_any (autF (f.app g)) p s V h l3 (by omega) (by omega) (by omega))
  obtain ⟨P1, hP1⟩ : ∃ R, Hid (runP (autF f) s.data.toList = R) := ⟨_, Lib.hid rfl⟩
  obtain ⟨P2, hP2⟩ : ∃ R, Hid (runP (autF g) s.data.toList = R) := ⟨_, Lib.hid rfl⟩
  obtain ⟨P3, hP3⟩ : ∃ R, Hid (runP (autF (f.app g)) s.data.toList = R) := ⟨_, Lib.hid rfl⟩
  rw [hP1.out] at Hrun1 hbo r1
  rw [hP2.out] at Hrun2 hbo r2 r2m
  rw [hP3.out] at Hrun3 hbo
  have Hbo := Lib.hid hbo
  have Hr2m := Lib.hid r2m
  have hN20 : N ≤ 40 := by rw [← HN.out]; omega
  clear hl1 hl2 al zs zt y2 y3 z2 z3 hbo r2m k1 k2 k3 k4 k5 k6 o1 o2 o3 n12 n13 n22 n23 n32 n33 l1 l2 l3 hR1 hR2 hR3
  generalize autF f = x1 at *
  generalize autF g = x2 at *
  generalize autF (f.app g) = x3 at *
  have u0 := hA11.cell 0
  have u1 := hA11.cell 1
  have u2 := hA11.cell 2
  have u3 := hA11.cell 3
  have ul := hA11.lt
  simp only [List.getElem?_cons_zero, List.getElem?_cons_succ] at u0 u1 u2 u3
  have HR1 := Lib.hid (Hrun1.out _ ⟨ea1, ec1, ga1, gc1⟩ hp11)
  have Hp21 := Lib.hid hp21
  have Hp31 := Lib.hid hp31
  have HA21 := Lib.hid hA21
  have HA31 := Lib.hid hA31
  have Hbw11 := Lib.hid hbw11
  clear Hrun1 hp11 hp21 hp31 hA11 hA21 hA31 hbw11
  dsimp only at *
  go_wp2_with (fail)
  refine HR1.out.mono ?_
  rintro e w12 ⟨oa1, oc1, rfl, ho1, hb12⟩
  obtain ⟨ra0, rc0, w13, hr13, ho13, hb13⟩ := run_appI w12 22 oa1 oc1 P1 ho1.ints (by omega)
  have Hr13 := Lib.hid hr13
  have hbw12 := Hbw11.out.trans (hb12.mono Hbw11.out.size)
  have hp33 := Hp31.out.grown hb12
  have hA33 := HA31.out.below hb12 HA31.out.lt
  have HR2 := Lib.hid (Hrun2.out _ ⟨ea2, ec2, ga2, gc2⟩ ((Hp21.out.grown hb12).grown hb13))
  have hA23 := (HA21.out.below hb12 HA21.out.lt).below hb13 (HA21.out.below hb12 HA21.out.lt).lt
  have v0 := hA23.cell 0
  have v1 := hA23.cell 1
  have v2 := hA23.cell 2
  have v3 := hA23.cell 3
  have vl := hA23.lt
  simp only [List.getElem?_cons_zero, List.getElem?_cons_succ] at v0 v1 v2 v3
  have Hp33 := Lib.hid hp33
  have HA33 := Lib.hid hA33
  have Ho13 := Lib.hid ho13
  have Hbw12 := Lib.hid hbw12
  have Hb13 := Lib.hid hb13
  clear u0 u1 u2 u3 ul HR1 Hp21 Hp31 HA21 HA31 Hbw11 Hrun2 hr13 hp33 hA33 hA23 ho13 hb12 hb13 hbw12 ho1
  dsimp only at *
  go_wp2_with (at_builtin; refine wpList_append_run rfl _ _ 22 22 rfl _ _ _ _ rfl rfl Hr13.out ?_)
  refine HR2.out.mono ?_
  rintro e w14 ⟨oa2, oc2, rfl, ho2, hb14⟩
  have Ho14 := Lib.hid (Ho13.out.kept (below_grownBy hb14 none) (by cases obk ra0 <;> simp))
  have Ho2 := Lib.hid ho2
  have Hne := Lib.hid (show ∀ q, obk oa2 = some q → obk ra0 ≠ some q from fun q h1 h2 => by
    have h3 := ho2.row q h1
    have h4 := Ho13.out.row q h2
    omega)
  have Hb14 := Lib.hid (Hb13.out.trans (hb14.mono Hb13.out.size))
  have hlm5 : P2.length ≤ oc2 ∨ P2.length = 0 := by
    rcases Nat.eq_zero_or_pos P2.length with h | h
    · exact .inr h
    · obtain ⟨_, _, _, h1, _⟩ := ho2.nth (i := 0) h
      exact .inl h1
  clear v0 v1 v2 v3 vl HR2 Hr13 ho2 hb14 Hb13 Ho13
  dsimp only
  go_wp2_with (fail)
  go_loopw [14, 16, 69] (fun ov _ iv wr => ∃ (k : Nat) (ra : Option Addr) (rc : Nat), k ≤ P2.length ∧ iv = .int .i64 (k : Int) ∧ ov = .slice ra (P1.length + k) rc ∧ OwnI wr w12.heap.size ra (P1.length + k) rc (P1 ++ (P2.take k).map (· + L)) ∧ OwnI wr w13.heap.size oa2 P2.length oc2 P2 ∧ (∀ q, obk oa2 = some q → obk ra ≠ some q) ∧ Below w12.heap.size w12 wr) (fun _ _ iv _ => P2.length - (intOf iv).toNat)
  case atStart => exact ⟨0, ra0, rc0, Nat.zero_le _, rfl, rfl, by simpa using Ho14.out, Ho2.out, Hne.out, Hb14.out⟩
  case round =>
    obtain ⟨k, ra, rc, hk, rfl, rfl, hor, ho2, hne, hbr⟩ := hrel
    by_cases hlt : k < P2.length
    · have hkI : (k : Int) < (P2.length : Int) := by omega
      have hkI0 : (0 : Int) ≤ (k : Int) := by omega
      obtain ⟨gg, rfl, c0, hc1, hc2⟩ := ho2.nth hlt
      have hvm := Hr2m.out _ (List.getElem_mem hlt)
      have htk : P2.take (k + 1) = P2.take k ++ [P2[k]] := by rw [List.take_add_one, List.getElem?_eq_getElem hlt]; rfl
      obtain ⟨v, hv⟩ : ∃ v, P2[k] = v := ⟨_, rfl⟩
      rw [hv] at c0 hvm htk
      have hbl := World.block_lt_of_cell? _ _ c0
      have hwfs : (Lit.int .i64 (v : Int)).wf = true := WalkArith.wf_i64 (by omega)
      obtain ⟨ra', rc', w', hr6, ho6, hg6, hn6⟩ := run_pushI wr 22 (v + L) (.int .i64 ((v : Int) + (L : Int))) (by simp [iv]) hor (by omega) hbr.size
      have Hr6 := Lib.hid hr6
      have HQ : Hid (OwnI w' w12.heap.size ra' (P1.length + (k + 1)) rc' (P1 ++ (P2.take (k + 1)).map (· + L)) ∧ OwnI w' w13.heap.size (some ⟨gg, 0, none⟩) P2.length oc2 P2 ∧ (∀ q, obk (some ⟨gg, 0, none⟩) = some q → obk ra' ≠ some q) ∧ Below w12.heap.size w12 w') := Lib.hid ⟨by
        rw [htk, List.map_append, ← List.append_assoc]; exact ho6, ho2.kept hg6 (.inr (by rw [ownBlock_obk]; exact fun e => hne gg rfl e.symm)), fun q hq e => by
          have h1 := (ho2.row q hq).2
          rcases hn6 with rfl | ⟨g', rfl, hg'⟩
          · exact hne q hq e
          · cases e
            exact absurd (show g' < wr.heap.size from h1) (by omega), hbr.grown hg6 hbr.size (fun i e => (hor.typ i e).1)⟩
      clear hr6 ho6 hg6 hn6 hor ho2 hne hbr htk hv
      go_wp2_with (at_builtin; refine wpList_append_run rfl _ _ 22 22 rfl _ _ _ _ rfl rfl Hr6.out ?_)
      exact ⟨⟨k + 1, ra', rc', by omega, by simp, by simp [Nat.add_assoc], HQ.out⟩, by simp [intOf]; omega⟩
    · obtain rfl : k = P2.length := by omega
      have hkI : ¬ (P2.length : Int) < (P2.length : Int) := by omega
      rw [List.take_length] at hor
      have hA3 := HA33.out.below hbr HA33.out.lt
      have HR3 := Lib.hid (Hrun3.out _ ⟨ea3, ec3, ga3, gc3⟩ (Hp33.out.grown hbr))
      have t0 := hA3.cell 0
      have t1 := hA3.cell 1
      have t2 := hA3.cell 2
      have t3 := hA3.cell 3
      have tl := hA3.lt
      simp only [List.getElem?_cons_zero, List.getElem?_cons_succ] at t0 t1 t2 t3
      have Hor := Lib.hid hor
      have Hbr := Lib.hid hbr
      clear hor ho2 hne hbr hA3
      dsimp only at *
      go_wp2_with (fail)
      refine HR3.out.mono ?_
      rintro e w16 ⟨oa3, oc3, rfl, hi3, hb16⟩
      have hor6 := (Hor.out.ints).grown hb16
      have HS := sameInts_any oa3 ra oc3 rc _ _ w16 hi3 hor6
      rw [List.length_map, List.length_map, List.length_append, List.length_map, ← Hbo.out, decide_eq_true rfl] at HS
      have Hbw16 := Lib.hid (Hbw12.out.trans ((Hbr.out.trans (hb16.mono Hbr.out.size)).mono Hbw12.out.size))
      clear t0 t1 t2 t3 tl HR3 hi3 hb16 hor6 Hor Hbr
      go_wp2_with (fail)
      refine HS.mono ?_
      rintro e w17 ⟨rfl, hb17⟩
      have HQ := Hbw16.out.trans (hb17.mono Hbw16.out.size)
      clear hb17 HS
      go_wp2_with (fail)
      exact bodyPost_ret (v := .bool true) (by simp [results, Try.results8, go_sem]; try rfl) rfl ⟨rfl, HQ⟩
end Go.Proofs.Ytpbceejjkdmclaa

/- The row NfaBoth: for every input: two lists of expressions, any text: the automaton of both tells what the two tell, one behind the other: the law answers true and changes nothing that was there; no premise beyond the row's own. -/
namespace Go.Proofs.Ytpbceejjkdmclaa
open Go.ChangeShapes Go.WideShapes Go.ChangeAt Go.RowKit

set_option maxRecDepth 100000 in
theorem nfaBoth_lifted (os : Os) (started : os.Started) (H : Type) (enc : TypeId × Value → H) :
    ReturnsInHanded {} Try.checked os 8 .any (Rows.nfaBothSpec.pre6 enc Try.prog Try.f8 Rows.nfaBothRow.domain false) (Rows.nfaBothSpec.post enc Try.prog Try.f8 false true false false) := by
  refine returnsInHanded_of_change (C := Try.checked) Try.own started (by kernel_rfl) Try.func8
    (ChangeSpec.witness6 (enc := enc) (C := Try.checked) false ⟨#[], #[.slice none 0 0, .slice none 0 0, .string ⟨#[]⟩], []⟩ 8 (by kernel_rfl) (by kernel_rfl) (by kernel_rfl) (by kernel_rfl)) ?_
  intro W base args ds gs before hval0 hW _ _
  have hval : ∀ (j : Nat) t v, Try.f8.params[j]? = some t → args[j]? = some v → Value.okWide Try.prog W .any base t v := hval0
  have hW' := hW
  obtain ⟨p, q, hA0, hV, rfl, hfz, hnd⟩ := hW
  have hA : DataW.TrodAll enc Try.prog W 0 (fun _ => true) true Try.f8.params.toList args.toList ds p := hA0
  rw [Try.params8] at hA hval
  obtain ⟨v0, v1, v2, d0, d1, d2, p0, p1, p2, rfl, rfl, rfl, h0, h1, h2⟩ := trodAll_three hA
  obtain ⟨a, cap, f, rfl, hI⟩ := open_res (hval 0 33 v0 rfl rfl) h0
  obtain ⟨b, d, g, rfl, hJ⟩ := open_res (hval 1 33 v1 rfl rfl) h1
  obtain ⟨s, rfl, _⟩ := open_str3 (hval 2 9 v2 rfl rfl) h2
  refine (nfaBoth_any f g a b cap d s W hI hJ).mono fun e W' ⟨he, hw⟩ => ?_
  subst he
  exact ⟨_, rfl, law_post hW' rfl rfl (by kernel_rfl) (by rw [Try.params8]; intro t ht; simp at ht; rcases ht with rfl | rfl | rfl <;> exact ⟨by kernel_rfl, of_decide_eq_true (by kernel_rfl)⟩) hw⟩

theorem nfaBoth_holds : Rows.NfaBothSaid :=
  OpenClaim.holds_of_wide 8 Try.f8 rfl rfl rfl rfl rfl rfl rfl ⟨rfl, rfl, rfl, rfl, rfl⟩ rfl rfl rfl rfl rfl (by kernel_rfl) Try.func8 (by kernel_rfl)
    (of_decide_eq_true (by kernel_rfl)) (by unfold Func.isWrapper; first | (rw [if_pos (by decide +kernel)]; kernel_rfl) | (rw [if_neg (by decide +kernel)]; exact ⟨rfl, rfl⟩))
    (fun os started H enc _ => nfaBoth_lifted os started H enc)
end Go.Proofs.Ytpbceejjkdmclaa
