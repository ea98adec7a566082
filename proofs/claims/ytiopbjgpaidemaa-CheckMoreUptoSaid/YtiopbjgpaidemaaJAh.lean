/- Texts joined: In Io Ip. -/
import Derived.Test.YtiopbjgpaidemaaJAg
import Derived.Laws.MakeOwn
set_option linter.unusedVariables false
set_option linter.unusedSimpArgs false
namespace Go.Proofs.Ytiopbjgpaidemaa
open Go.RowKit Go.Maps

attribute [local go_sem] Oper.semAt_some

theorem run_storeF {P : Program} (w : World) (a : Addr) (m : Mode) (f : Fn) (x y : Array Value) : (store a (.func f x y) m).run P w = stored P w a (.func f x y) m := run_store P w a _ m rfl
attribute [local go_sem] run_storeF
/-- What Flaws answers. -/
def FlawQ (w : World) (F : List Fl) (e : Ending) (W' : World) : Prop := ∃ a' c', e = .returned (.slice a' F.length c') ∧ OwnF W' w.heap.size a' c' F ∧ Below w.heap.size w W'
theorem mem_snoc8 (s : ByteArray) (l : List ByteArray) (x : ByteArray) : mem s (l ++ [x]) = (decide (s = x) || mem s l) := by
  rw [Bool.eq_iff_iff]
  simp only [mem_iff, Bool.or_eq_true, decide_eq_true_eq, List.mem_append, List.mem_singleton, or_comm]

set_option maxRecDepth 100000 in
set_option maxHeartbeats 16000000 in
theorem flaws_any (rs : List RlD) (ga : Option Addr) (gc : Nat) (ts : List ByteArray) (ta : Option Addr) (tc : Nat) (w : World) (hl : Rls w ga gc rs) (ht : Nms w ta tc ts) (hf : FitG rs ts) (hfew : rs.length + ts.length + szR rs ≤ 1000) :
    Calls Try.prog 15 #[.agg #[.slice ga rs.length gc], .slice ta ts.length tc] w (FlawQ w (FLW rs ts)) := by
  have hlm : rs.length ≤ gc ∧ gc ≤ 9223372036854775807 := ⟨hl.le, hl.max⟩
  have htm : ts.length ≤ tc ∧ tc ≤ 9223372036854775807 := ⟨by have := ht.le; rwa [List.length_map] at this, ht.max⟩
  have hnm : (namesR (grP rs)).length ≤ szR rs := by
    rw [namesR_flat]
    clear hl hlm hfew hf
    induction rs with
    | nil => simp
    | cons r rs ih =>
      have e : szR (r :: rs) = (r.ds.length + szA r.ds) + szR rs := by simp [szR]
      have e2 : (flat r.ds).length = szA r.ds := by simp [flat, szA, List.length_flatten, List.map_map]; rfl
      rw [List.flatMap_cons, List.length_append, e, e2]
      omega
  have hf0 : FitG rs [] := ⟨hf.rules, fun t h => (by cases h), hf.alts⟩
  have Hfe := Lib.hid (fun W (hb : Below w.heap.size w W) => fertile_any rs ga gc ts ta tc W (hl.grown hb) (ht.grown hb) hf (by omega))
  have Hle := Lib.hid (fun W (hb : Below w.heap.size w W) => led_any rs ga gc W (hl.grown hb) hf0 (by omega) (by omega))
  have Hoth := Lib.hid (fun (W : World) (n : Nat) (a : Option Addr) (c : Nat) (L : List Fl) (rb nr : Nat) (m : ByteArray → Bool) (kd : Int) (gb tb : Nat) => tellOthers_any w W w.heap.size (w.heap.size + 1) (w.heap.size + 1 + 1 + 1) (w.heap.size + 1 + 1) n a c L rs ga gc gb tb rb nr m kd)
  have Hnl := Lib.hid hnm
  have Hl := Lib.hid hl
  have Ht := Lib.hid ht
  have HF0 := Lib.hid (FlSt.new w ga rs.length gc)
  -- the names, plainly
  obtain ⟨NM, hNM⟩ : ∃ q, Hid (rs.map RlD.n = q) := ⟨_, Lib.hid rfl⟩
  have hNl : Hid (NM.length = rs.length) := Lib.hid (by rw [← hNM.out, List.length_map])
  have hNk : Hid (∀ k (h : k < rs.length), NM[k]? = some rs[k].n) := Lib.hid (fun k h => by rw [← hNM.out, List.getElem?_map, List.getElem?_eq_getElem h]; rfl)
  obtain ⟨D, hD⟩ : ∃ D : Nat → List Fl, Hid (dblN ts NM = D) := ⟨_, Lib.hid rfl⟩
  have hD0 : Hid (D 0 = []) := Lib.hid (by rw [← hD.out]; rfl)
  have hDs : Hid (∀ k n, NM[k]? = some n → D (k + 1) = if (mem n ts || mem n (NM.take k)) = true then layP (D k) (1, n) else D k) := Lib.hid (fun k n h => by rw [← hD.out]; show (match NM[k]? with | some n => _ | none => _) = _; rw [h])
  obtain ⟨U, hU⟩ : ∃ U : Nat → List Fl, Hid ((fun k => unkP ts NM (grP (rs.take k)) (D rs.length)) = U) := ⟨_, Lib.hid rfl⟩
  have hU0 : Hid (U 0 = D rs.length) := Lib.hid (by rw [← hU.out]; rfl)
  have hUs : Hid (∀ k (h : k < rs.length), U (k + 1) = unkA ts NM (flat rs[k].ds) (U k)) := Lib.hid (fun k h => by
    rw [← hU.out]
    show unkP ts NM (grP (rs.take (k + 1))) (D rs.length) = _
    rw [List.take_add_one, List.getElem?_eq_getElem h]
    show unkP ts NM (grP (rs.take k ++ [rs[k]])) (D rs.length) = _
    unfold grP
    rw [List.map_append]
    show unkP ts NM ((rs.take k).map RlD.p ++ [rs[k].p]) (D rs.length) = _
    rw [unkP_snoc]
    exact unkAs_flat ts NM rs[k].ds _)
  have hFL : Hid (FLW rs ts = restM 4 (nearM rs) NM (restM 3 (fertM rs ts) NM (U rs.length))) := Lib.hid (by
    unfold FLW
    rw [hNM.out, hD.out, ← hU.out]
    show _ = restM 4 _ _ (restM 3 _ _ (unkP ts NM (grP (rs.take rs.length)) (D rs.length)))
    rw [List.take_length])
  obtain ⟨X, hX⟩ : ∃ X : Nat → Nat, Hid ((fun k => ((rs.take k).flatMap (fun r => flat r.ds)).length) = X) := ⟨_, Lib.hid rfl⟩
  have hX0 : Hid (X 0 = 0) := Lib.hid (by rw [← hX.out]; rfl)
  have hXs : Hid (∀ k (h : k < rs.length), X (k + 1) = X k + (flat rs[k].ds).length) := Lib.hid (fun k h => by
    rw [← hX.out]
    show ((rs.take (k + 1)).flatMap _).length = ((rs.take k).flatMap _).length + _
    rw [List.take_add_one, List.getElem?_eq_getElem h, List.flatMap_append, List.length_append]
    simp)
  have hXl : Hid (∀ k, X k ≤ 1000) := Lib.hid (fun k => by
    have h1 := Hnl.out
    rw [namesR_flat, ← List.take_append_drop k rs, List.flatMap_append, List.length_append] at h1
    rw [← hX.out]
    show ((rs.take k).flatMap _).length ≤ _
    rw [List.take_append_drop] at h1
    omega)
  rw [hFL.out]
  obtain ⟨Q, hQ⟩ : ∃ Q, Hid (FlawQ w (restM 4 (nearM rs) NM (restM 3 (fertM rs ts) NM (U rs.length))) = Q) := ⟨_, Lib.hid rfl⟩
  rw [hQ.out]
  rw [hNM.out] at Hoth
  obtain ⟨L, HL⟩ : ∃ L, Hid (rs.length = L) := ⟨_, Lib.hid rfl⟩
  obtain ⟨T, HT⟩ : ∃ L, Hid (ts.length = L) := ⟨_, Lib.hid rfl⟩
  rw [HL.out] at hlm hfew hNl HF0 Hfe Hle hU0 hQ Hoth ⊢
  rw [HT.out] at hfew htm Hfe ⊢
  have Hfe' : Hid (∀ W, Below w.heap.size w W → Calls Try.prog 57 #[.agg #[.slice ga L gc], .slice ta T tc] W (FertQ W (Fert (grP rs) ts))) := Hfe
  have Hle' : Hid (∀ W, Below w.heap.size w W → Calls Try.prog 58 #[.agg #[.slice ga L gc]] W (SetQS W (fun s => ∃ r, rs.head? = some r ∧ Lead (grP rs) r.n s))) := Hle
  clear Hfe Hle hnm hl ht
  have hmm := @run_makeMap Try.prog
  obtain ⟨base, hbase⟩ : ∃ q, Hid (w.heap.size = q) := ⟨_, Lib.hid rfl⟩
  have hbW : base ≤ w.heap.size := by rw [hbase.out]; exact Nat.le_refl _
  go_enter Try.func15, Try.ntmps15
  go_wp2_with (fail)
  rw [hbase.out] at HF0 Hoth ⊢
  generalize hV : World.alloc (World.alloc (World.alloc (World.alloc (World.alloc (World.alloc w _) _) _) _) _) _ = V at HF0 ⊢
  clear hV
  go_loopw [23] (fun iv wr => ∃ (k : Nat), k ≤ T ∧ iv = .int .i64 (k : Int) ∧ Hid (FlSt w wr base ga L gc 0 none 0 [] k (fun s => mem s (ts.take k))) ∧ Below base w wr) (fun iv _ => T - (intOf iv).toNat)
  case atStart => exact ⟨0, Nat.zero_le _, rfl, HF0, HF0.out.blw⟩
  case round =>
    clear HF0
    obtain ⟨k, hk, rfl, HF, hbr⟩ := hrel
    have hbr2 := hbr
    rw [← hbase.out] at hbr2
    by_cases hlt : k < T
    · have hkI : (k : Int) < (T : Int) := by omega
      have hkI0 : (0 : Int) ≤ (k : Int) := by omega
      have hkl : k < ts.length := by rw [HT.out]; exact hlt
      obtain ⟨b, off, rfl⟩ := Ht.out.at_ k (by rw [List.length_map]; exact hkl)
      have c0 := (Ht.out.grown hbr2).cell b off rfl k (by rw [List.length_map]; exact hkl)
      rw [List.getElem_map] at c0
      have hm : ts[k] ∈ ts := List.getElem_mem hkl
      have hst : Hid (ts.take (k + 1) = ts.take k ++ [ts[k]]) := Lib.hid (by rw [List.take_add_one, List.getElem?_eq_getElem hkl]; rfl)
      obtain ⟨e, he⟩ : ∃ v, Hid (ts[k] = v) := ⟨_, Lib.hid rfl⟩
      rw [he.out] at c0 hm hst
      have hbl := World.block_lt_of_cell? _ _ c0
      have Hc := Lib.hid (sAdd_any wr _ k _ e HF.out.knw (hf.toks e hm) (by unfold maxLen; omega))
      have Hbr := Lib.hid hbr
      clear hbr hbr2 hm
      go_wp2_with (fail)
      refine Hc.out.mono ?_
      clear Hc
      rintro r w3 ⟨rfl, hs3, hg3⟩
      have HF3 := HF.out.know (hs3.congr (fun s => by rw [← mem_snoc8, ← hst.out])) hg3 (Nat.le_trans hbW Hbr.out.size)
      have HFF := Lib.hid HF3
      have hb3 := Lib.hid HF3.blw
      clear hs3 hg3 HF3
      go_wp2_with (fail)
      exact ⟨⟨k + 1, by omega, by go_num, HFF, hb3.out⟩, by simp [intOf]; omega⟩
    · obtain rfl : k = T := by omega
      have hkI : ¬ (k : Int) < (k : Int) := by omega
      have HF1 : Hid (FlSt w wr base ga L gc 0 none 0 (D 0) k (fun s => mem s ts || mem s (NM.take 0))) := Lib.hid (by
        have h1 := HF.out
        rw [List.take_of_length_le (by rw [HT.out]; exact Nat.le_refl _)] at h1
        rw [hD0.out]
        refine ⟨h1.tell, h1.gbx, h1.tbx, h1.knw.congr (fun s => ?_), h1.blw, h1.len⟩
        simp [mem])
      have z0 := HF.out.gbx.cell 0
      have zl := HF.out.gbx.lt
      simp only [List.getElem?_cons_zero] at z0
      clear hbr hbr2 HF
      go_wp2_with (fail)
      go_loopw [34] (fun iv wr => ∃ (i n : Nat) (a : Option Addr) (c : Nat), i ≤ L ∧ iv = .int .i64 (i : Int) ∧ Hid (n ≤ i) ∧ Hid (FlSt w wr base ga L gc n a c (D i) (k + i) (fun s => mem s ts || mem s (NM.take i)))) (fun iv _ => L - (intOf iv).toNat)
      case atStart => exact ⟨0, 0, none, 0, Nat.zero_le _, rfl, Lib.hid (Nat.le_refl _), HF1⟩
      case round =>
        clear HF1 z0 zl
        obtain ⟨i, n, a, c, hi, rfl, hn, HF⟩ := hrel
        have hbr2 := HF.out.blw
        rw [← hbase.out] at hbr2
        have hbs : base ≤ wr.heap.size := Nat.le_trans hbW HF.out.blw.size
        by_cases hlti : i < L
        · have hiI : (i : Int) < (L : Int) := by omega
          have hiI0 : (0 : Int) ≤ (i : Int) := by omega
          have hil : i < rs.length := by rw [HL.out]; exact hlti
          obtain ⟨b, off, rfl⟩ := Hl.out.at_ i hil
          obtain ⟨c0, c1⟩ := (Hl.out.grown hbr2).cell b off rfl i hil
          have hm : rs[i] ∈ rs := List.getElem_mem hil
          have hNi := hNk.out i hil
          have hst := hDs.out i _ hNi
          have htk : Hid (NM.take (i + 1) = NM.take i ++ [rs[i].n]) := Lib.hid (by rw [List.take_add_one, hNi]; rfl)
          obtain ⟨e, he⟩ : ∃ v, Hid (rs[i] = v) := ⟨_, Lib.hid rfl⟩
          rw [he.out] at c0 c1 hm hst htk
          have hsz := hf.rules e hm
          have hbl := World.block_lt_of_cell? wr _ c0
          have hB0 := Blk.new wr 34 #[.string e.n, .slice e.a e.ds.length e.c]
          have hg1 : wr.grownBy (wr.alloc (.cells #[.string e.n, .slice e.a e.ds.length e.c] 34)) none := World.grownBy_alloc _ _ _
          have HF1 := Lib.hid (HF.out.kept0 hg1 hbs)
          have Hc := Lib.hid (sAdd_any _ _ (k + i) _ e.n HF1.out.knw hsz (by unfold maxLen; omega))
          have HB0 := Lib.hid hB0
          have y0 := hB0.cell 0
          have y1 := hB0.cell 1
          have yl := hB0.lt
          simp only [List.getElem?_cons_zero, List.getElem?_cons_succ] at y0 y1
          obtain ⟨ED, hED⟩ : ∃ q, Hid (e.ds.length = q) := ⟨_, Lib.hid rfl⟩
          rw [hED.out] at c1 y0 y1 yl HF1 Hc HB0
          have hbl2 : base ≤ (wr.alloc (.cells #[.string e.n, .slice e.a ED e.c] 34)).heap.size := Nat.le_trans hbW HF1.out.blw.size
          have hkb : wr.heap.size ≠ base + 1 + 1 + 1 + 1 + 1 := fun e2 => by
            obtain ⟨es, kk, h4⟩ := HF.out.knw.obj
            have := (Array.getElem?_eq_some_iff.1 h4).1
            omega
          obtain ⟨q, hq⟩ : ∃ q, Hid ((mem e.n ts || mem e.n (NM.take i)) = q) := ⟨_, Lib.hid rfl⟩
          rw [hq.out] at Hc hst
          have Hst := Lib.hid hst
          clear hB0 hg1 hm hst hNi hbr2
          go_wp2_with (fail)
          refine Hc.out.mono ?_
          clear Hc
          rintro r w3 ⟨rfl, hs3, hg3⟩
          have HF3 := Lib.hid (HF1.out.know (hs3.congr (m' := fun s => mem s ts || mem s (NM.take (i + 1))) (fun s => by
            show (decide (s = e.n) || (mem s ts || mem s (NM.take i))) = (mem s ts || mem s (NM.take (i + 1)))
            rw [htk.out, mem_snoc8]
            cases mem s ts <;> cases decide (s = e.n) <;> simp)) hg3 hbl2)
          have hB3 := HB0.out.kept hg3 (fun e2 => hkb (by injection e2))
          have z0 := hB3.cell 0
          have zl := hB3.lt
          have v0 := HF3.out.tbx.cell 0
          have vl := HF3.out.tbx.lt
          simp only [List.getElem?_cons_zero] at z0 v0
          have hn2 := hn.out
          have Hcl := Lib.hid (tell_any w3 base (base + 1) (base + 1 + 1 + 1) (base + 1 + 1) n a c (D i) (1, e.n) HF3.out.tell ⟨WalkArith.wf_i64 (by omega), hsz⟩ (by have := HF3.out.len; omega) (by omega) (Nat.le_trans hbW HF3.out.blw.size))
          clear hs3 hg3 hB3
          cases q
          · have HDi : Hid (D (i + 1) = D i) := Lib.hid (by rw [Hst.out]; rfl)
            go_wp2_with (fail)
            exact ⟨⟨i + 1, n, a, c, by omega, by go_num, Lib.hid (by omega), Lib.hid (by rw [HDi.out]; exact HF3.out)⟩, by simp [intOf]; omega⟩
          · have HDi : Hid (D (i + 1) = layP (D i) (1, e.n)) := Lib.hid (by rw [Hst.out]; rfl)
            go_wp2_with (fail)
            refine Hcl.out.mono ?_
            rintro r w5 ⟨rfl, a5, c5, hT5, hTl⟩
            have HF5 := Lib.hid (HF3.out.told hT5 hTl (Nat.le_trans hbW HF3.out.blw.size))
            clear hT5 hTl
            go_wp2_with (fail)
            exact ⟨⟨i + 1, n + 1, a5, c5, by omega, by go_num, Lib.hid (by omega), Lib.hid (by rw [HDi.out]; exact HF5.out)⟩, by simp [intOf]; omega⟩
        · obtain rfl : i = L := by omega
          have hiI : ¬ (i : Int) < (i : Int) := by omega
          have HF1 : Hid (FlSt w wr base ga i gc n a c (U 0) (k + i) (fun s => mem s ts || mem s NM)) := Lib.hid (by
            have h1 := HF.out
            rw [List.take_of_length_le (by rw [hNl.out]; exact Nat.le_refl _)] at h1
            rw [hU0.out]
            exact h1)
          have z0 := HF.out.gbx.cell 0
          have zl := HF.out.gbx.lt
          simp only [List.getElem?_cons_zero] at z0
          have hn0 := hn.out
          clear HF hbr2
          go_wp2_with (fail)
          go_loopw [51] (fun iv wr => ∃ (j n : Nat) (a : Option Addr) (c : Nat), j ≤ i ∧ iv = .int .i64 (j : Int) ∧ Hid (n ≤ 1000 + X j) ∧ Hid (FlSt w wr base ga i gc n a c (U j) (k + i) (fun s => mem s ts || mem s NM))) (fun iv _ => i - (intOf iv).toNat)
          case atStart => exact ⟨0, n, a, c, Nat.zero_le _, rfl, Lib.hid (by omega), HF1⟩
          case round =>
            clear HF1 z0 zl hn hn0
            obtain ⟨j, n, a, c, hj, rfl, hn, HF⟩ := hrel
            have hbr2 := HF.out.blw
            rw [← hbase.out] at hbr2
            have hbs : base ≤ wr.heap.size := Nat.le_trans hbW HF.out.blw.size
            by_cases hltj : j < i
            · have hjI : (j : Int) < (i : Int) := by omega
              have hjI0 : (0 : Int) ≤ (j : Int) := by omega
              have hjl : j < rs.length := by rw [HL.out]; exact hltj
              obtain ⟨b, off, rfl⟩ := Hl.out.at_ j hjl
              obtain ⟨c0, c1⟩ := (Hl.out.grown hbr2).cell b off rfl j hjl
              have hm : rs[j] ∈ rs := List.getElem_mem hjl
              have Hst := Lib.hid (hUs.out j hjl)
              have HXs := Lib.hid (hXs.out j hjl)
              obtain ⟨e, he⟩ : ∃ v, Hid (rs[j] = v) := ⟨_, Lib.hid rfl⟩
              rw [he.out] at c0 c1 hm Hst HXs
              have hal := Hl.out.alts e hm
              have hXj := hXl.out (j + 1)
              rw [HXs.out] at hXj
              have hbl := World.block_lt_of_cell? wr _ c0
              have hB0 := Blk.new wr 34 #[.string e.n, .slice e.a e.ds.length e.c]
              have hg1 : Below wr.heap.size wr (wr.alloc (.cells #[.string e.n, .slice e.a e.ds.length e.c] 34)) := (Below.refl _ wr).alloc (Nat.le_refl _) _
              have HF1 := Lib.hid (HF.out.below hg1 hbs)
              have Hc := Lib.hid (namesIn_any e _ (hal.grown (hbr2.trans (hg1.mono hbr2.size))) (by omega))
              have hdm : e.ds.length ≤ e.c ∧ e.c ≤ 9223372036854775807 := ⟨by have := hal.row.le; rwa [List.length_map] at this, hal.row.max⟩
              have Hfit : Hid (∀ y ∈ flat e.ds, y.size ≤ maxLen) := Lib.hid (fun y hy => by
                obtain ⟨l, h1, h2⟩ := List.mem_flatten.1 hy
                obtain ⟨d, h3, rfl⟩ := List.mem_map.1 h1
                exact hf.alts e hm d h3 y h2)
              obtain ⟨ED, hED⟩ : ∃ q, Hid (e.ds.length = q) := ⟨_, Lib.hid rfl⟩
              rw [hED.out] at hB0 c1 hdm HF1 Hc
              have y0 := hB0.cell 0
              have y1 := hB0.cell 1
              have yl := hB0.lt
              simp only [List.getElem?_cons_zero, List.getElem?_cons_succ] at y0 y1
              clear hB0 hg1 hm hal hbr2
              go_wp2_with (fail)
              refine Hc.out.mono ?_
              clear Hc
              rintro r w3 ⟨la, lc, nl, rfl, hol, hb3⟩
              obtain rfl : (flat e.ds).length = nl := OwnS.len hol
              have hbl2 : base ≤ (wr.alloc (.cells #[.string e.n, .slice e.a ED e.c] 34)).heap.size := Nat.le_trans hbW HF1.out.blw.size
              have HF3 := Lib.hid (HF1.out.below hb3 hbl2)
              have hlc := (own_vs hol).le
              have hlc2 := (own_vs hol).max
              rw [List.length_map] at hlc
              have Hol : Hid (OwnS w3 (wr.alloc (.cells #[.string e.n, .slice e.a ED e.c] 34)).heap.size (flat e.ds).length la lc (flat e.ds)) := Lib.hid hol
              have Hlo : Hid (base + 1 + 1 + 1 + 1 + 1 < (wr.alloc (.cells #[.string e.n, .slice e.a ED e.c] 34)).heap.size) := Lib.hid (by
                obtain ⟨es, kk, h4⟩ := HF1.out.knw.obj
                exact (Array.getElem?_eq_some_iff.1 h4).1)
              obtain ⟨lb, hlb⟩ : ∃ q, Hid ((wr.alloc (.cells #[.string e.n, .slice e.a ED e.c] 34)).heap.size = q) := ⟨_, Lib.hid rfl⟩
              rw [hlb.out] at Hol Hlo
              -- the names that are looked at
              obtain ⟨FD, hFD⟩ : ∃ q, Hid (flat e.ds = q) := ⟨_, Lib.hid rfl⟩
              rw [hFD.out] at Hol Hfit Hst HXs hlc hXj
              obtain ⟨Y, hY⟩ : ∃ Y : Nat → List Fl, Hid ((fun m => unkA ts NM (FD.take m) (U j)) = Y) := ⟨_, Lib.hid rfl⟩
              have hY0 : Hid (Y 0 = U j) := Lib.hid (by rw [← hY.out]; rfl)
              have hYe : Hid (U (j + 1) = Y FD.length) := Lib.hid (by rw [Hst.out, ← hY.out]; show _ = unkA ts NM (FD.take FD.length) (U j); rw [List.take_length])
              have hYs : Hid (∀ m (h : m < FD.length), Y (m + 1) = unkS ts NM (Y m) FD[m]) := Lib.hid (fun m h => by
                rw [← hY.out]
                show unkA ts NM (FD.take (m + 1)) (U j) = _
                rw [List.take_add_one, List.getElem?_eq_getElem h]
                exact unkA_snoc ts NM _ _ _)
              obtain ⟨M, hM⟩ : ∃ q, Hid (FD.length = q) := ⟨_, Lib.hid rfl⟩
              rw [hFD.out, hM.out]
              rw [hM.out] at Hol HXs hYe hlc hXj
              have HF4 : Hid (FlSt w w3 base (some ⟨b, off, none⟩) i gc n a c (Y 0) (k + i) (fun s => mem s ts || mem s NM)) := Lib.hid (by rw [hY0.out]; exact HF3.out)
              clear hol hb3 HF3 y0 y1 yl c0 c1
              go_wp2_with (fail)
              go_loopw [58] (fun iv wv => ∃ (m n' : Nat) (a' : Option Addr) (c' : Nat), m ≤ M ∧ iv = .int .i64 (m : Int) ∧ Hid (n' ≤ n + m) ∧ Hid (FlSt w wv base (some ⟨b, off, none⟩) i gc n' a' c' (Y m) (k + i) (fun s => mem s ts || mem s NM)) ∧ Hid (OwnS wv lb M la lc FD)) (fun iv _ => M - (intOf iv).toNat)
              case atStart => exact ⟨0, n, a, c, Nat.zero_le _, rfl, Lib.hid (by omega), HF4, Hol⟩
              case round =>
                clear HF4 HF1 HF
                obtain ⟨m, n', a', c', hm, rfl, hn', HF, HO⟩ := hrel
                clear Hol
                by_cases hltm : m < M
                · have hmI : (m : Int) < (M : Int) := by omega
                  have hmI0 : (0 : Int) ≤ (m : Int) := by omega
                  have hml : m < FD.length := by rw [hM.out]; exact hltm
                  have hvs := own_vs HO.out
                  obtain ⟨g, off2, hla⟩ := hvs.at_ m (by rw [List.length_map]; exact hml)
                  have c0 := hvs.cell g off2 hla m (by rw [List.length_map]; exact hml)
                  rw [List.getElem_map] at c0
                  have hxf := Hfit.out FD[m] (List.getElem_mem hml)
                  have hys := hYs.out m hml
                  obtain ⟨x, hx⟩ : ∃ v, Hid (FD[m] = v) := ⟨_, Lib.hid rfl⟩
                  rw [hx.out] at c0 hxf hys
                  have hbl2 := World.block_lt_of_cell? wr _ c0
                  have hbs2 : base ≤ wr.heap.size := Nat.le_trans hbW HF.out.blw.size
                  have Hc := Lib.hid (sHas_any wr _ (k + i) _ x HF.out.knw hxf)
                  have hn2 := hn'.out
                  have hn3 := hn.out
                  obtain ⟨q, hq⟩ : ∃ q, Hid ((mem x ts || mem x NM) = q) := ⟨_, Lib.hid rfl⟩
                  rw [hq.out] at Hc
                  have Hys : Hid (Y (m + 1) = if q = true then Y m else layP (Y m) (2, x)) := Lib.hid (by
                    rw [hys]
                    unfold unkS
                    rw [← hq.out]
                    cases mem x ts <;> cases mem x NM <;> simp)
                  have Hla := Lib.hid hla
                  subst hla
                  clear hys hvs
                  go_wp2_with (fail)
                  refine Hc.out.mono ?_
                  clear Hc
                  rintro r w5 ⟨rfl, hg5⟩
                  have HF5 := Lib.hid (HF.out.kept0 hg5 hbs2)
                  have HO5 : Hid (OwnS w5 lb M (some ⟨g, off2, none⟩) lc FD) := Lib.hid (World.ownsRow.kept HO.out hg5 (by cases e : (Value.slice (some ⟨g, off2, none⟩) M lc).ownBlock <;> simp))
                  have v0 := HF5.out.tbx.cell 0
                  have vl := HF5.out.tbx.lt
                  simp only [List.getElem?_cons_zero] at v0
                  have Hcl := Lib.hid (tell_any w5 base (base + 1) (base + 1 + 1 + 1) (base + 1 + 1) n' a' c' (Y m) (2, x) HF5.out.tell ⟨WalkArith.wf_i64 (by omega), hxf⟩ (by have := HF5.out.len; omega) (by omega) (Nat.le_trans hbW HF5.out.blw.size))
                  clear hg5
                  cases q
                  · have HYm : Hid (Y (m + 1) = layP (Y m) (2, x)) := Lib.hid (by rw [Hys.out]; rfl)
                    go_wp2_with (fail)
                    refine Hcl.out.mono ?_
                    rintro r w6 ⟨rfl, a6, c6, hT6, hTl⟩
                    have hT6' := Tells.told HF5.out.tell hTl
                    have HF6 := Lib.hid (HF5.out.told hT6 hTl (Nat.le_trans hbW HF5.out.blw.size))
                    have HO6 : Hid (OwnS w6 lb M (some ⟨g, off2, none⟩) lc FD) := Lib.hid (by
                      have ho := HO5.out
                      refine ⟨ho.1, ho.2.imp id ?_⟩
                      rintro ⟨g2, cap2, cur, e1, e2, e3, e4⟩
                      refine ⟨g2, cap2, cur, e1, e2, ?_, e4⟩
                      have h1 := Hlo.out
                      rw [hT6'.block g2 (Array.getElem?_eq_some_iff.1 e3).1 (by omega) (by omega) (fun cur2 fr2 e5 => by rw [e3] at e5; cases e5)]
                      exact e3)
                    clear hT6 hTl hT6'
                    go_wp2_with (fail)
                    exact ⟨⟨m + 1, n' + 1, a6, c6, by omega, by go_num, Lib.hid (by omega), Lib.hid (by rw [HYm.out]; exact HF6.out), HO6⟩, by simp [intOf]; omega⟩
                  · have HYm : Hid (Y (m + 1) = Y m) := Lib.hid (by rw [Hys.out]; rfl)
                    go_wp2_with (fail)
                    exact ⟨⟨m + 1, n', a', c', by omega, by go_num, Lib.hid (by omega), Lib.hid (by rw [HYm.out]; exact HF5.out), HO5⟩, by simp [intOf]; omega⟩
                · obtain rfl : m = M := by omega
                  have hmI : ¬ (m : Int) < (m : Int) := by omega
                  go_wp2_with (fail)
                  exact ⟨⟨j + 1, n', a', c', by omega, by go_num, Lib.hid (by rw [HXs.out]; have h1 := hn'.out; have h2 := hn.out; omega), Lib.hid (by rw [hYe.out]; exact HF.out)⟩, by simp [intOf]; omega⟩
            · obtain rfl : j = i := by omega
              have hjI : ¬ (j : Int) < (j : Int) := by omega
              have hn2 : n ≤ 2000 := by have h1 := hn.out; have h2 := hXl.out j; omega
              have Hbr2 := Lib.hid hbr2
              have g0 := HF.out.gbx.cell 0
              have gl := HF.out.gbx.lt
              simp only [List.getElem?_cons_zero] at g0
              have Hc27 := Lib.hid (Hfe'.out wr hbr2)
              have hk3 : base + 1 + 1 + 1 + 1 + 1 < wr.heap.size := by
                obtain ⟨es, kk, h4⟩ := HF.out.knw.obj
                exact (Array.getElem?_eq_some_iff.1 h4).1
              clear hbr2
              go_wp2_with (fail)
              refine Hc27.out.mono ?_
              clear Hc27
              rintro e V3 ⟨sb3, ns3, M3, rfl, hs3, hns3, hM3, hlo3, hb3⟩
              have HS3 := Lib.hid hs3
              have HM3 : Hid (M3 = fertM rs ts) := Lib.hid (funext (fun x => by rw [Bool.eq_iff_iff, fertM_iff]; exact hM3 x))
              have HF3 := Lib.hid (HF.out.below hb3 hbs)
              have Hc4 := Lib.hid (Hoth.out V3 n a c (U j) sb3 ns3 M3 3 base (base + 1 + 1 + 1 + 1) HF3.out.tell Hl.out HF3.out.blw (Nat.le_refl _) (Nat.le_trans hbW HF3.out.blw.size) HF3.out.gbx HF3.out.tbx HS3.out (by omega) (by omega) (WalkArith.wf_i64 (by omega)) hf.rules (by omega) (by have := HF3.out.len; omega) (by omega))
              rw [HM3.out] at Hc4
              clear hs3 hM3 hb3
              go_wp2_with (fail)
              refine Hc4.out.mono ?_
              clear Hc4
              rintro e V4 ⟨rfl, a4, c4, hT4, hD4, hb4⟩
              have HF4 := Lib.hid (HF3.out.toldM hT4 hD4 hb4 (by have h1 := restM_len 3 (fertM rs ts) NM (U j); have h2 := HF3.out.len; have h3 := hNl.out; omega))
              have hbs4 : base ≤ V4.heap.size := Nat.le_trans hbW HF4.out.blw.size
              have hbr4 := HF4.out.blw
              rw [← hbase.out] at hbr4
              have Hbr4 := Lib.hid hbr4
              have Hc28 := Lib.hid (Hle'.out V4 hbr4)
              have g4 := HF4.out.gbx.cell 0
              have gl4 := HF4.out.gbx.lt
              simp only [List.getElem?_cons_zero] at g4
              have hk5 : base + 1 + 1 + 1 + 1 + 1 < V4.heap.size := by
                obtain ⟨es, kk, h4⟩ := HF4.out.knw.obj
                exact (Array.getElem?_eq_some_iff.1 h4).1
              clear hT4 hD4 hb4 hbr4 g0 gl
              go_wp2_with (fail)
              refine Hc28.out.mono ?_
              clear Hc28
              rintro e V5 ⟨sb5, ns5, M5, rfl, hs5, hns5, hM5, hlo5, hb5⟩
              have HS5 := Lib.hid hs5
              have HM5 : Hid (M5 = nearM rs) := Lib.hid (funext (fun x => by rw [Bool.eq_iff_iff, nearM_iff]; exact hM5 x))
              have HF5 := Lib.hid (HF4.out.below hb5 hbs4)
              have Hc6 := Lib.hid (Hoth.out V5 (n + j) a4 c4 _ sb5 ns5 M5 4 base (base + 1 + 1 + 1 + 1) HF5.out.tell Hl.out HF5.out.blw (Nat.le_refl _) (Nat.le_trans hbW HF5.out.blw.size) HF5.out.gbx HF5.out.tbx HS5.out (by omega) (by omega) (WalkArith.wf_i64 (by omega)) hf.rules (by omega) (by have := HF5.out.len; omega) (by omega))
              rw [HM5.out] at Hc6
              clear hs5 hM5 hb5 g4 gl4
              go_wp2_with (fail)
              refine Hc6.out.mono ?_
              clear Hc6
              rintro e V6 ⟨rfl, a6, c6, hT6, hD6, hb6⟩
              have HF6 := Lib.hid (HF5.out.toldM hT6 hD6 hb6 (by have h1 := restM_len 4 (nearM rs) NM (restM 3 (fertM rs ts) NM (U j)); have h2 := HF5.out.len; have h3 := hNl.out; omega))
              clear hT6 hD6 hb6
              obtain ⟨FF, hFF⟩ : ∃ q, Hid (restM 4 (nearM rs) NM (restM 3 (fertM rs ts) NM (U j)) = q) := ⟨_, Lib.hid rfl⟩
              rw [hFF.out] at HF6 hQ
              have l0 := HF6.out.tell.lbx.cell 0
              have ll := HF6.out.tell.lbx.lt
              simp only [List.getElem?_cons_zero] at l0
              obtain ⟨FN, hFN⟩ : ∃ q, Hid (FF.length = q) := ⟨_, Lib.hid rfl⟩
              rw [hFN.out] at l0
              go_wp2_with (fail)
              show Q (.returned (.slice a6 FN c6)) V6
              rw [← hQ.out, ← hFN.out]
              exact ⟨a6, c6, rfl, by rw [hbase.out]; exact HF6.out.tell.own, by rw [hbase.out]; exact HF6.out.blw⟩
end Go.Proofs.Ytiopbjgpaidemaa

namespace Go.Proofs.Ytiopbjgpaidemaa
open Go.RowKit

/-- An alternative by numbers: its numbers, and where they lie. -/
structure IltD where
  l : List Int
  a : Option Addr
  c : Nat
abbrev IltD.v (d : IltD) : Value := .slice d.a d.l.length d.c
abbrev Ints (w : World) (a : Option Addr) (cap : Nat) (l : List Int) : Prop := Vs w a cap (l.map (Value.int .i64))
structure AltsI (w : World) (a : Option Addr) (cap : Nat) (ds : List IltD) : Prop where
  row : Vs w a cap (ds.map IltD.v)
  nms : ∀ d ∈ ds, Ints w d.a d.c d.l
theorem AltsI.grown {w w' : World} {a : Option Addr} {cap : Nat} {l : List IltD} (h : AltsI w a cap l) (hb : Below w.heap.size w w') : AltsI w' a cap l := ⟨h.row.grown hb, fun d hd => (h.nms d hd).grown hb⟩
/-- An own list of own lists of numbers; of names. -/
structure OwnXI (W : World) (base : Nat) (a : Option Addr) (c : Nat) (ds : List IltD) : Prop where
  out : W.ownsRow base 50 1 (.slice a ds.length c) ds.length (ds.map IltD.v)
  ins : ∀ d ∈ ds, W.ownsRow base 3 1 (.slice d.a d.l.length d.c) d.l.length (d.l.map (Value.int .i64))
structure OwnXS (W : World) (base : Nat) (a : Option Addr) (c : Nat) (ds : List AltD) : Prop where
  out : W.ownsRow base 25 1 (.slice a ds.length c) ds.length (ds.map AltD.v)
  ins : ∀ d ∈ ds, W.ownsRow base 9 1 (.slice d.a d.l.length d.c) d.l.length (d.l.map Value.string)
theorem own_vals {W : World} {base n cap : Nat} {e : TypeId} {a : Option Addr} {l : List Value} (h : W.ownsRow base e 1 (.slice a n cap) n l) (hn : n = l.length) : Vs W a cap l := by
  subst hn
  rcases h.2 with ⟨e1, e2⟩ | ⟨g, cap', cur, e1, hb, hg, hle, hm, hs, ht⟩
  · have : l = [] := List.length_eq_zero_iff.1 e2
    subst this
    simp only [Value.slice.injEq] at e1
    obtain ⟨rfl, -, rfl⟩ := e1
    exact Vs.nil W
  · simp only [Value.slice.injEq] at e1
    obtain ⟨rfl, -, rfl⟩ := e1
    refine ⟨hle, by unfold maxLen at hm; omega, fun e => (by cases e), fun i _ => ⟨g, 0, rfl⟩, fun b off e i hi => ?_⟩
    cases e
    rw [Nat.zero_add, h.cellAt i (by omega), List.getElem?_eq_getElem hi]
theorem OwnXI.alts {W : World} {base c : Nat} {a : Option Addr} {ds : List IltD} (h : OwnXI W base a c ds) : AltsI W a c ds :=
  ⟨own_vals h.out (by simp), fun d hd => own_vals (h.ins d hd) (by simp)⟩
theorem OwnXS.alts {W : World} {base c : Nat} {a : Option Addr} {ds : List AltD} (h : OwnXS W base a c ds) : Alts W a c ds :=
  ⟨own_vals h.out (by simp), fun d hd => own_vals (h.ins d hd) (by simp)⟩
section
variable {W W' : World} {base base' c : Nat} {a : Option Addr} {row : Option Nat}
theorem OwnXI.kept {ds : List IltD} (h : OwnXI W base a c ds) (hg : W.grownBy W' row) (hr : ∀ g, row = some g → ∃ cur t fr, W.heap[g]? = some (.cells cur t fr) ∧ 50 ≠ t ∧ 3 ≠ t) : OwnXI W' base a c ds :=
  ⟨own_kept_ty h.out hg (fun g e => by obtain ⟨cur, t, fr, h1, h2, _⟩ := hr g e; exact ⟨cur, t, fr, h1, h2⟩), fun d hd => own_kept_ty (h.ins d hd) hg (fun g e => by obtain ⟨cur, t, fr, h1, _, h2⟩ := hr g e; exact ⟨cur, t, fr, h1, h2⟩)⟩
theorem OwnXS.kept {ds : List AltD} (h : OwnXS W base a c ds) (hg : W.grownBy W' row) (hr : ∀ g, row = some g → ∃ cur t fr, W.heap[g]? = some (.cells cur t fr) ∧ 25 ≠ t ∧ 9 ≠ t) : OwnXS W' base a c ds :=
  ⟨own_kept_ty h.out hg (fun g e => by obtain ⟨cur, t, fr, h1, h2, _⟩ := hr g e; exact ⟨cur, t, fr, h1, h2⟩), fun d hd => own_kept_ty (h.ins d hd) hg (fun g e => by obtain ⟨cur, t, fr, h1, _, h2⟩ := hr g e; exact ⟨cur, t, fr, h1, h2⟩)⟩
theorem OwnXI.below {ds : List IltD} (h : OwnXI W base a c ds) (hb : Below W.heap.size W W') : OwnXI W' base a c ds := h.kept (below_grownBy hb none) (fun g e => by cases e)
theorem OwnXS.below {ds : List AltD} (h : OwnXS W base a c ds) (hb : Below W.heap.size W W') : OwnXS W' base a c ds := h.kept (below_grownBy hb none) (fun g e => by cases e)
theorem OwnXI.mono {ds : List IltD} (h : OwnXI W base a c ds) (hb : base' ≤ base) : OwnXI W base' a c ds := ⟨own_mono h.out hb, fun d hd => own_mono (h.ins d hd) hb⟩
theorem OwnXS.mono {ds : List AltD} (h : OwnXS W base a c ds) (hb : base' ≤ base) : OwnXS W base' a c ds := ⟨own_mono h.out hb, fun d hd => own_mono (h.ins d hd) hb⟩
end
theorem own_frz {w : World} {base e size g n cap j : Nat} {xs : List Value} (h : w.ownsRow base e size (.slice (some ⟨g, 0, none⟩) n cap) n xs) : w.frozen? ⟨g, j, none⟩ = false := by
  obtain ⟨_, cur, h2⟩ := own_typ h g rfl
  simp [World.frozen?, h2]
/-- Put into the next place of what is filled up with zeros. -/
theorem set_fill {α : Type} (l : List α) (z v : α) (n i : Nat) (hl : l.length = i) (hi : i < n) : (l ++ List.replicate (n - i) z).set i v = (l ++ [v]) ++ List.replicate (n - (i + 1)) z := by
  obtain ⟨m, hm⟩ : ∃ m, n - i = m + 1 := ⟨n - i - 1, by omega⟩
  rw [hm, List.replicate_succ, List.set_append_right _ _ (by omega), show i - l.length = 0 by omega, List.set_cons_zero, show n - (i + 1) = m by omega]
  simp
theorem made_fill (z : Value) (hz : z.cells = #[z]) (n : Nat) : (madeCells z.cells (n * 1)).toList = List.replicate n z := by
  rw [hz, Nat.mul_one]
  apply List.ext_getElem
  · simp [size_madeCells]
  · intro i h1 h2
    simp [madeCells, Nat.mod_one]
end Go.Proofs.Ytiopbjgpaidemaa

namespace Go.Proofs.Ytiopbjgpaidemaa
open Go.RowKit

attribute [local go_sem] Oper.semAt_some

theorem info_rowI : (Try.prog.info? 50).map (fun i => (i.zero, i.size, i.bytes)) = some (some (.slice none 0 0), 1, 24) := by kernel_rfl
theorem info_elI : (Try.prog.info? 3).map (fun i => (i.zero, i.size, i.bytes)) = some (some (.int .i64 0), 1, 8) := by kernel_rfl
/-- What exchange leaves. -/
def ExQI (w : World) (n : Nat) (L : List (List Int)) (e : Ending) (w' : World) : Prop := ∃ a' c' ds', e = .returned (.slice a' n c') ∧ OwnXI w' w.heap.size a' c' ds' ∧ ds'.map (fun d => d.l) = L ∧ Below w.heap.size w w'

set_option maxRecDepth 100000 in
set_option maxHeartbeats 8000000 in
theorem exchI_any (ds : List AltD) (a : Option Addr) (cap : Nat) (w : World) (hl : Alts w a cap ds) (K : FuncId) (cp : Value) (hK : ∀ (args : Array Value) (w : World), (callFunc K args).run Try.prog w = .ok (.enter K args) w) (g : ByteArray → Int)
    (Hof : ∀ (W' : World) (x : ByteArray), Below w.heap.size w W' → (∃ d ∈ ds, x ∈ d.l) → Calls Try.prog K #[.string x, cp] W' fun e w'' => e = .returned (.int .i64 (g x)) ∧ Below W'.heap.size W' w'') (hfew : ds.length ≤ 1000000) (hfew2 : ∀ d ∈ ds, d.l.length ≤ 1000000) :
    Calls Try.prog 92 #[.slice a ds.length cap, .func (.func K) #[] #[cp]] w (ExQI w ds.length (ds.map (fun d => d.l.map g))) := by
  have hlm : ds.length ≤ cap ∧ cap ≤ 9223372036854775807 := ⟨by have := hl.row.le; rwa [List.length_map] at this, hl.row.max⟩
  obtain ⟨iO, hiO, hzO, hsO, hbO⟩ := info_parts info_rowI
  obtain ⟨iE, hiE, hzE, hsE, hbE⟩ := info_parts info_elI
  obtain ⟨Q, hQ⟩ : ∃ Q, Hid (ExQI w ds.length (ds.map (fun d => d.l.map g)) = Q) := ⟨_, Lib.hid rfl⟩
  rw [hQ.out]
  have Hmk := Lib.hid (fun (W : World) (n : Nat) (hn : n ≤ 1000000) (base : Nat) (hb : base ≤ W.heap.size) => run_makeSlice_full (P := Try.prog) (w := W) base 50 3 iE (.int .i64 0) 1 Try.underlying50 hiE hzE hsE .i64 .i64 n (by omega) (by rw [hbE]; omega) (by unfold maxLen; omega) hb)
  obtain ⟨w1, hrun1, ho1, hg1⟩ := run_makeSlice_full (P := Try.prog) (w := w) w.heap.size 47 50 iO (.slice none 0 0) 1 Try.underlying47 hiO hzO hsO .i64 .i64 ds.length (by omega) (by rw [hbO]; omega) (by unfold maxLen; omega) (Nat.le_refl _)
  rw [made_fill _ rfl] at ho1
  obtain ⟨L, HL⟩ : ∃ L, Hid (ds.length = L) := ⟨_, Lib.hid rfl⟩
  rw [HL.out] at hlm hfew hrun1 ho1 ⊢
  have hb1 := belowAt hg1 (B := w.heap.size) (fun i e => by cases e) (Nat.le_refl _)
  have Hl := Lib.hid hl
  have HO1 := Lib.hid ho1
  have Hb1 := Lib.hid hb1
  obtain ⟨base, hbase⟩ : ∃ q, Hid (w.heap.size = q) := ⟨_, Lib.hid rfl⟩
  have hbW : base ≤ w.heap.size := by rw [hbase.out]; exact Nat.le_refl _
  rw [hbase.out] at hrun1 HO1 Hb1 Hof
  have HOf := Lib.hid Hof
  clear hl ho1 hg1 hb1 Hof hiO hzO hsO hbO hiE hzE hsE hbE
  go_enter Try.func92, Try.ntmps92
  go_wp2_with (fail)
  go_loopw [15] (fun iv wr => ∃ (i : Nat) (dn : List IltD), i ≤ L ∧ iv = .int .i64 (i : Int) ∧ Hid (dn.map (fun d => d.l) = (ds.take i).map (fun d => d.l.map g)) ∧ Hid (dn.length = i) ∧
    Hid (wr.ownsRow base 50 1 (.slice (some ⟨base, 0, none⟩) L L) L (dn.map IltD.v ++ List.replicate (L - i) (.slice none 0 0))) ∧ Hid (∀ d ∈ dn, wr.ownsRow base 3 1 (.slice d.a d.l.length d.c) d.l.length (d.l.map (Value.int .i64))) ∧ Below base w wr) (fun iv _ => L - (intOf iv).toNat)
  case atStart => exact ⟨0, [], Nat.zero_le _, rfl, Lib.hid rfl, Lib.hid rfl, HO1, Lib.hid (fun d h => by cases h), Hb1.out⟩
  case round =>
    clear HO1 Hb1
    obtain ⟨i, dn, hi, rfl, hdn, hdl, HO, HD, hbr⟩ := hrel
    have hbr2 := hbr
    rw [← hbase.out] at hbr2
    by_cases hlt : i < L
    · have hiI : (i : Int) < (L : Int) := by omega
      have hiI0 : (0 : Int) ≤ (i : Int) := by omega
      have hil : i < ds.length := by rw [HL.out]; exact hlt
      have hrow := (Hl.out.grown hbr2).row
      obtain ⟨b, off, ha⟩ := hrow.at_ i (by rw [List.length_map]; exact hil)
      have c0 := hrow.cell b off ha i (by rw [List.length_map]; exact hil)
      rw [List.getElem_map] at c0
      have hm : ds[i] ∈ ds := List.getElem_mem hil
      have hst : Hid ((ds.take (i + 1)).map (fun d => d.l.map g) = (ds.take i).map (fun d => d.l.map g) ++ [ds[i].l.map g]) := Lib.hid (by rw [List.take_add_one, List.getElem?_eq_getElem hil, List.map_append]; rfl)
      obtain ⟨d, hd⟩ : ∃ v, Hid (ds[i] = v) := ⟨_, Lib.hid rfl⟩
      rw [hd.out] at c0 hm hst
      change _ = some (Value.slice d.a d.l.length d.c) at c0
      have hnd := Hl.out.nms d hm
      have hmd := hm
      have hbl := World.block_lt_of_cell? _ _ c0
      have hdle := hfew2 d hm
      have hdm : d.l.length ≤ d.c ∧ d.c ≤ 9223372036854775807 := ⟨by have := hnd.le; rwa [List.length_map] at this, hnd.max⟩
      obtain ⟨w2, hrun2, ho2, hg2⟩ := Hmk.out wr d.l.length hdle base (Nat.le_trans hbW hbr.size)
      rw [made_fill _ rfl] at ho2
      -- the row is put into its place
      have hO2 := World.ownsRow.kept HO.out hg2 (by cases e : (Value.slice (some ⟨base, 0, none⟩) L L).ownBlock <;> simp)
      have z0 := hO2.cellAt i (by omega)
      have zf := own_frz (j := i) hO2
      have zl : base < w2.heap.size := (World.ownsRow.lt hO2 base rfl).2
      have hbi : base < wr.heap.size := (World.ownsRow.lt HO.out base rfl).2
      obtain ⟨hO3, hg3⟩ := hO2.stored i (.slice (some ⟨wr.heap.size, 0, none⟩) d.l.length d.l.length)
      rw [List.getElem?_append_right (by rw [List.length_map, hdl.out]; exact Nat.le_refl _), List.length_map, hdl.out, Nat.sub_self, List.getElem?_replicate, if_pos (by omega)] at z0
      rw [set_fill _ _ _ L i (by rw [List.length_map, hdl.out]) hlt] at hO3
      have hne : (Value.slice (some ⟨wr.heap.size, 0, none⟩) d.l.length d.l.length).ownBlock ≠ some base := own_ne_ty ho2 (own_typ hO2 base rfl).2.choose_spec (by decide)
      have ho3 := World.ownsRow.kept ho2 hg3 (.inr hne)
      have hD3 : ∀ e ∈ dn, (w2.setCell ⟨base, i, none⟩ (.slice (some ⟨wr.heap.size, 0, none⟩) d.l.length d.l.length)).ownsRow base 3 1 (.slice e.a e.l.length e.c) e.l.length (e.l.map (Value.int .i64)) ∧ (Value.slice e.a e.l.length e.c).ownBlock ≠ some wr.heap.size := fun e he => by
        have h1 := World.ownsRow.kept (HD.out e he) hg2 (by cases e : (Value.slice e.a e.l.length e.c).ownBlock <;> simp)
        have h2 := own_ne_ty h1 (own_typ hO2 base rfl).2.choose_spec (by decide)
        refine ⟨World.ownsRow.kept h1 hg3 (.inr h2), fun e2 => ?_⟩
        have := (World.ownsRow.lt (HD.out e he) _ e2).2
        omega
      have hb3 := (hbr.trans (belowAt hg2 (B := base) (fun i e => by cases e) (Nat.le_trans hbW hbr.size))).trans (belowAt hg3 (B := base) (fun i e => by injection e with e; omega) (Nat.le_trans hbW (Nat.le_trans hbr.size hg2.size)))
      have HO3 := Lib.hid hO3
      have HR3 := Lib.hid ho3
      have HD3 := Lib.hid hD3
      have Hb3 := Lib.hid hb3
      have Hnd := Lib.hid hnd
      obtain ⟨M, hM⟩ : ∃ q, Hid (d.l.length = q) := ⟨_, Lib.hid rfl⟩
      rw [hM.out] at c0 hdle hdm hrun2 HO3 HR3 HD3 Hb3 hg3
      obtain ⟨ib, hib⟩ : ∃ q, Hid (wr.heap.size = q) := ⟨_, Lib.hid rfl⟩
      rw [hib.out] at hrun2 HO3 HR3 HD3 Hb3 hbi
      have Hha := Lib.hid ha
      subst ha
      clear hrow hnd hm ho2 hg2 hO2 hO3 hg3 hne ho3 hD3 hb3 hbr2
      go_wp2_with (fail)
      generalize hV : World.setCell w2 _ _ = V at HO3 HR3 HD3 Hb3 ⊢
      clear hV z0 zf zl c0 hbl
      go_loopw [28] (fun jv wv => ∃ (j : Nat), j ≤ M ∧ jv = .int .i64 (j : Int) ∧ Hid (wv.ownsRow base 3 1 (.slice (some ⟨ib, 0, none⟩) M M) M (((d.l.take j).map g).map (Value.int .i64) ++ List.replicate (M - j) (.int .i64 0))) ∧ Hid (V.grownBy wv (some ib))) (fun jv _ => M - (intOf jv).toNat)
      case atStart => exact ⟨0, Nat.zero_le _, rfl, HR3, Lib.hid (below_grownBy (Below.refl _ _) _)⟩
      case round =>
        obtain ⟨j, hj, rfl, HR, HG⟩ := hrel
        clear HR3
        have hibB : base ≤ ib := (World.ownsRow.lt HR.out ib rfl).1
        have hVb := Nat.le_trans hbW Hb3.out.size
        have hbv : Below base w wr := Hb3.out.trans (belowAt HG.out (B := base) (fun i e => by injection e with e; omega) hVb)
        have hbv2 := hbv
        rw [← hbase.out] at hbv2
        by_cases hltj : j < M
        · have hjI : (j : Int) < (M : Int) := by omega
          have hjI0 : (0 : Int) ≤ (j : Int) := by omega
          have hjl : j < d.l.length := by rw [hM.out]; exact hltj
          have hv := Vs.grown Hnd.out hbv2
          obtain ⟨b2, off2, hda⟩ := hv.at_ j (by rw [List.length_map]; exact hjl)
          have c0 := hv.cell b2 off2 hda j (by rw [List.length_map]; exact hjl)
          rw [List.getElem_map] at c0
          have hxm : d.l[j] ∈ d.l := List.getElem_mem hjl
          have hst2 : Hid ((d.l.take (j + 1)).map g = (d.l.take j).map g ++ [g d.l[j]]) := Lib.hid (by rw [List.take_add_one, List.getElem?_eq_getElem hjl, List.map_append]; rfl)
          obtain ⟨x, hx⟩ : ∃ v, Hid (d.l[j] = v) := ⟨_, Lib.hid rfl⟩
          rw [hx.out] at c0 hxm hst2
          have hbl := World.block_lt_of_cell? _ _ c0
          have hO4 := World.ownsRow.kept HO3.out HG.out (.inr (fun e => by
            have e2 : base = ib := by simpa [Value.ownBlock] using e
            omega))
          have o4 := hO4.cellAt i (by omega)
          rw [List.getElem?_append_left (by rw [List.length_append, List.length_map, hdl.out]; simp), List.getElem?_append_right (by rw [List.length_map, hdl.out]; exact Nat.le_refl _), List.length_map, hdl.out, Nat.sub_self] at o4
          simp only [List.getElem?_cons_zero] at o4
          have HS9 : Hid (wr.drew.cell? ⟨base, i, none⟩ = some (.slice (some ⟨ib, 0, none⟩) M M)) := Lib.hid o4
          have Hc := Lib.hid (HOf.out wr.drew x (hbv.drew) ⟨d, hmd, hxm⟩)
          have hsz := Nat.le_trans hVb HG.out.size
          rw [hda] at *
          clear hv hxm hbv2 hO4 o4
          go_wp2_with (fail)
          refine wp_region_held_drew (S := fun w' => w'.cell? ⟨base, i, none⟩ = some (.slice (some ⟨ib, 0, none⟩) M M)) (by kernel_rfl) ?_ (fun hHeld => ?_)
          · exact HS9.out
          refine wpAnyH_take (i := 0) (v := ?_) (iatLS iatZS) (by kernel_rfl) (by kernel_rfl) (by kernel_rfl) (fun _ _ _ h => h) (Or.inl ⟨by rfl, ?_⟩) (by assumption) ?_
          rotate_left
          · intro w hSw
            try dsimp only at hSw
            go_simp
            all_goals with_reducible rfl
          try simp only [Act.put, List.setIfInBounds_toArray, List.set_cons_zero, List.set_cons_succ]
          refine wpAnyH_take (i := 1) (v := ?_) (iatLS (iatSS iatZS)) (by kernel_rfl) (by kernel_rfl) (by kernel_rfl) (fun _ _ _ h => h) (Or.inl ⟨by rfl, ?_⟩) (by assumption) ?_
          rotate_left
          · intro w hSw
            try dsimp only at hSw
            go_simp
            all_goals with_reducible rfl
          try simp only [Act.put, List.setIfInBounds_toArray, List.set_cons_zero, List.set_cons_succ]
          refine wpAnyH_take (i := 2) (v := ?_) (iatLS (iatSS (iatSS iatZS))) (by kernel_rfl) (by kernel_rfl) (by kernel_rfl) (fun _ _ _ h => h) (Or.inl ⟨by rfl, ?_⟩) (by assumption) ?_
          rotate_left
          · intro w hSw
            try dsimp only at hSw
            go_simp
            all_goals with_reducible rfl
          try simp only [Act.put, List.setIfInBounds_toArray, List.set_cons_zero, List.set_cons_succ]
          refine wpAnyH_take (i := 3) (v := ?_) (iatLS (iatSS (iatSS (iatSS iatZS)))) (by kernel_rfl) (by kernel_rfl) (by kernel_rfl) (fun _ _ _ h => h) (Or.inl ⟨by rfl, ?_⟩) (by assumption) ?_
          rotate_left
          · intro w hSw
            try dsimp only at hSw
            go_simp
            all_goals with_reducible rfl
          try simp only [Act.put, List.setIfInBounds_toArray, List.set_cons_zero, List.set_cons_succ]
          refine wpAnyH_take (i := 4) (v := ?_) (iatLS (iatSS (iatSS (iatSS (iatSS iatZS))))) (by kernel_rfl) (by kernel_rfl) (by kernel_rfl) (fun _ _ _ h => h) (Or.inl ⟨by rfl, ?_⟩) (by assumption) ?_
          rotate_left
          · intro w hSw
            try dsimp only at hSw
            go_simp
            all_goals with_reducible rfl
          try simp only [Act.put, List.setIfInBounds_toArray, List.set_cons_zero, List.set_cons_succ]
          refine wpAnyH_take (i := 5) (v := ?_) (iatLS (iatSS (iatSS (iatSS (iatSS (iatSS iatZS)))))) (by kernel_rfl) (by kernel_rfl) (by kernel_rfl) (fun _ _ _ h => h) (Or.inl ⟨by rfl, ?_⟩) (by assumption) ?_
          rotate_left
          · intro w hSw
            try dsimp only at hSw
            go_simp
            all_goals with_reducible rfl
          try simp only [Act.put, List.setIfInBounds_toArray, List.set_cons_zero, List.set_cons_succ]
          refine wpAnyH_take (i := 6) (v := ?_) (iatLS (iatSS (iatSS (iatSS (iatSS (iatSS (iatSS iatZS))))))) (by kernel_rfl) (by kernel_rfl) (by kernel_rfl) (fun _ _ _ h => h) (Or.inl ⟨by rfl, ?_⟩) (by assumption) ?_
          rotate_left
          · intro w hSw
            try dsimp only at hSw
            go_simp
            all_goals with_reducible rfl
          try simp only [Act.put, List.setIfInBounds_toArray, List.set_cons_zero, List.set_cons_succ]
          refine wpAnyH_ready (rs := [7]) (by kernel_rfl) (by simp) ?_
          refine AllReadyH.cons (iatLS (iatSS (iatSS (iatSS (iatSS (iatSS (iatSS (iatSS iatZS)))))))) (fun K hK => ?_) AllReadyH.nil
          go_simp
          (with_reducible refine Hc.out.mono ?_)
          rintro e V4 ⟨rfl, hb4⟩
          have hR4 := World.ownsRow.kept HR.out (grownBy_drew wr none) (by cases e : (Value.slice (some ⟨ib, 0, none⟩) M M).ownBlock <;> simp)
          have hR5 := World.ownsRow.kept hR4 (below_grownBy hb4 none) (by cases e : (Value.slice (some ⟨ib, 0, none⟩) M M).ownBlock <;> simp)
          have z0 := hR5.cellAt j (by omega)
          rw [List.getElem?_append_right (by simp; omega), show j - (((d.l.take j).map g).map (Value.int .i64)).length = 0 by simp; omega, List.getElem?_replicate, if_pos (by omega)] at z0
          have zf := own_frz (j := j) hR5
          have zl : ib < V4.heap.size := (World.ownsRow.lt hR5 ib rfl).2
          obtain ⟨hR6, hg6⟩ := hR5.stored j (.int .i64 (g x))
          rw [set_fill _ _ _ M j (by simp; omega) hltj] at hR6
          have HR6 : Hid ((V4.setCell ⟨ib, j, none⟩ (.int .i64 (g x))).ownsRow base 3 1 (.slice (some ⟨ib, 0, none⟩) M M) M (((d.l.take (j + 1)).map g).map (Value.int .i64) ++ List.replicate (M - (j + 1)) (.int .i64 0))) := Lib.hid (by rw [hst2.out, List.map_append]; exact hR6)
          have HG6 := Lib.hid (grownBy_trans (grownBy_trans (grownBy_trans HG.out (grownBy_drew wr (some ib)) (fun i e => .inl e)) (below_grownBy hb4 (some ib)) (fun i e => .inl e)) hg6 (fun i e => .inl e))
          have HS9b : Hid (V4.cell? ⟨base, i, none⟩ = some (.slice (some ⟨ib, 0, none⟩) M M)) := Lib.hid (cell_up hb4 HS9.out)
          have HS9c : Hid ((V4.setCell ⟨ib, j, none⟩ (.int .i64 (g x))).cell? ⟨base, i, none⟩ = some (.slice (some ⟨ib, 0, none⟩) M M)) := Lib.hid (by have h1 := HS9b.out; unfold World.cell? at h1 ⊢; rw [hg6.block base (World.block_lt_of_cell? _ _ HS9b.out) (fun e => by injection e; omega)]; exact h1)
          clear hR4 hR5 hR6 hg6 hb4
          try dsimp only
          refine hK.out _ _ ?_ (fun hHeld => ?_)
          · exact HS9b.out
          clear hK K
          try simp only [Act.put, List.setIfInBounds_toArray, List.set_cons_zero, List.set_cons_succ]
          refine wpAnyH_take (i := 8) (v := ?_) (iatLS (iatSS (iatSS (iatSS (iatSS (iatSS (iatSS (iatSS (iatSS iatZS))))))))) (by kernel_rfl) (by kernel_rfl) (by kernel_rfl) (fun _ _ _ h => h) (Or.inl ⟨by rfl, ?_⟩) (by assumption) ?_
          rotate_left
          · intro w hSw
            try dsimp only at hSw
            go_simp
            all_goals with_reducible rfl
          try simp only [Act.put, List.setIfInBounds_toArray, List.set_cons_zero, List.set_cons_succ]
          refine wpAnyH_ready (rs := [9]) (by kernel_rfl) (by simp) ?_
          refine AllReadyH.cons (iatLS (iatSS (iatSS (iatSS (iatSS (iatSS (iatSS (iatSS (iatSS (iatSS iatZS)))))))))) (fun K hK => ?_) AllReadyH.nil
          go_simp
          refine hK.out _ _ ?_ (fun hHeld => ?_)
          · exact HS9c.out
          clear hK K
          try simp only [Act.put, List.setIfInBounds_toArray, List.set_cons_zero, List.set_cons_succ]
          refine wpAnyH_done (by kernel_rfl) ?_ _
          go_wp2_with (fail)
          exact ⟨⟨j + 1, by omega, by go_num, HR6, HG6⟩, by simp [intOf]; omega⟩
        · obtain rfl : j = M := by omega
          have hjI : ¬ (j : Int) < (j : Int) := by omega
          have hrow : Hid (wr.ownsRow base 3 1 (.slice (some ⟨ib, 0, none⟩) j j) j ((d.l.map g).map (Value.int .i64))) := Lib.hid (by
            have := HR.out
            rw [List.take_of_length_le (by rw [hM.out]; exact Nat.le_refl _), Nat.sub_self, List.replicate_zero, List.append_nil] at this
            exact this)
          have hlen : Hid ((d.l.map g).length = j) := Lib.hid (by rw [List.length_map, hM.out])
          have hO4 := Lib.hid (World.ownsRow.kept HO3.out HG.out (.inr (fun e => by
            have e2 : base = ib := by simpa [Value.ownBlock] using e
            omega)))
          have HD4 : Hid (∀ e ∈ dn, wr.ownsRow base 3 1 (.slice e.a e.l.length e.c) e.l.length (e.l.map (Value.int .i64))) := Lib.hid (fun e he => World.ownsRow.kept (HD3.out e he).1 HG.out (.inr (HD3.out e he).2))
          have Hbv := Lib.hid hbv
          clear hbv hbv2
          go_wp2_with (fail)
          exact ⟨⟨i + 1, dn ++ [⟨d.l.map g, some ⟨ib, 0, none⟩, j⟩], by omega, by go_num, Lib.hid (by rw [List.map_append, hdn.out, hst.out]; rfl), Lib.hid (by rw [List.length_append, hdl.out]; rfl), Lib.hid (by
            rw [List.map_append]
            show World.ownsRow _ _ _ _ _ _ (dn.map IltD.v ++ [.slice (some ⟨ib, 0, none⟩) (d.l.map g).length j] ++ _)
            rw [hlen.out]
            exact hO4.out), Lib.hid (fun e he => by
            rcases List.mem_append.1 he with he | he
            · exact HD4.out e he
            · rw [List.mem_singleton] at he
              subst he
              show World.ownsRow _ _ _ _ (.slice (some ⟨ib, 0, none⟩) (d.l.map g).length j) (d.l.map g).length _
              rw [hlen.out]
              exact hrow.out), Hbv.out⟩, by simp [intOf]; omega⟩
    · obtain rfl : i = L := by omega
      have hiI : ¬ (i : Int) < (i : Int) := by omega
      go_wp2_with (fail)
      show Q (.returned (.slice (some ⟨base, 0, none⟩) i i)) wr
      rw [← hQ.out, HL.out]
      exact ⟨some ⟨base, 0, none⟩, i, dn, rfl, by
        rw [hbase.out]
        refine ⟨?_, HD.out⟩
        have := HO.out
        rw [Nat.sub_self, List.replicate_zero, List.append_nil] at this
        rw [hdl.out]
        exact this, by rw [hdn.out, List.take_of_length_le (by rw [HL.out]; exact Nat.le_refl _)], by rw [hbase.out]; exact hbr⟩
end Go.Proofs.Ytiopbjgpaidemaa

