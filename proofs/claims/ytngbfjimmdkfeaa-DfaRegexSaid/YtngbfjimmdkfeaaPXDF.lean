/- Texts joined: Eg Ei Cf. -/
import Derived.Test.YtngbfjimmdkfeaaPXW1
import Derived.Test.YtngbfjimmdkfeaaPXDA
set_option linter.unusedVariables false
set_option linter.unusedSimpArgs false
namespace Go.Proofs.Ytngbfjimmdkfeaa
open Go.RowKit Go.Shelf

attribute [local go_sem] Oper.semAt_some

set_option maxRecDepth 100000 in
set_option maxHeartbeats 2000000 in
theorem inZ_any (l : List Int) (a : Option Addr) (cap : Nat) (v : Int) (w : World) (hl : Ints w a cap l) :
    Calls Try.prog 43 #[.slice a l.length cap, .int .i64 v] w fun e w' => e = .returned (.bool (decide (v ∈ l))) ∧ w' = w := by
  have hlm : l.length ≤ cap ∧ cap ≤ 9223372036854775807 := ⟨hl.le, hl.max⟩
  obtain ⟨L, HL⟩ : ∃ L, Hid (l.length = L) := ⟨_, Lib.hid rfl⟩
  rw [HL.out] at hlm ⊢
  obtain ⟨B, HB⟩ : ∃ B, Hid (decide (v ∈ l) = B) := ⟨_, Lib.hid rfl⟩
  rw [HB.out]
  go_enter Try.func43, Try.ntmps43
  go_wp2_with (fail)
  go_loopw [6, 9] (fun _ i wr => ∃ (k : Nat), k ≤ L ∧ i = .int .i64 k ∧ B = decide (v ∈ l.drop k) ∧ wr = w) (fun _ i _ => L - (intOf i).toNat)
  case atStart => exact ⟨0, by omega, rfl, HB.out.symm, rfl⟩
  case round =>
    obtain ⟨k, hk, rfl, hr, rfl⟩ := hrel
    have HR := Lib.hid hr
    clear hr
    by_cases hlt : k < L
    · have hkI : (k : Int) < (L : Int) := by omega
      have hkI0 : (0 : Int) ≤ (k : Int) := by omega
      have hkl : k < l.length := by rw [HL.out]; exact hlt
      obtain ⟨b, off, rfl⟩ := hl.at_ k hkl
      have c0 := hl.cell b off rfl k hkl
      have hbl := World.block_lt_of_cell? _ _ c0
      have hdr : Hid (l.drop k = l[k] :: l.drop (k + 1)) := Lib.hid (List.drop_eq_getElem_cons hkl)
      obtain ⟨u, hu⟩ : ∃ u, Hid (l[k] = u) := ⟨_, Lib.hid rfl⟩
      rw [hu.out] at c0 hdr
      by_cases he : u = v
      · have HT : Hid (B = true) := Lib.hid (by rw [HR.out, hdr.out, he]; simp)
        subst he
        go_wp2_with (fail)
        exact bodyPost_ret (v := .bool true) (by simp [results, Try.results43, go_sem]; try rfl) rfl ⟨ret_bool (by rw [HT.out]), rfl⟩
      · have heI : (u == v) = false := by rw [beq_eq_false_iff_ne]; exact he
        have HN : Hid (B = decide (v ∈ l.drop (k + 1))) := Lib.hid (by
          rw [HR.out, hdr.out]
          simp [Ne.symm he])
        go_wp2_with (fail)
        exact ⟨⟨k + 1, by omega, by simp, HN.out, trivial⟩, by simp [intOf]; omega⟩
    · obtain rfl : k = L := by omega
      have hkI : ¬ (k : Int) < (k : Int) := by omega
      have HK : Hid (B = false) := Lib.hid (by rw [HR.out, List.drop_eq_nil_of_le (by rw [HL.out]; exact Nat.le_refl _)]; simp)
      go_wp2_with (fail)
      exact bodyPost_ret (v := .bool false) (by simp [results, Try.results43, go_sem]; try rfl) rfl ⟨ret_bool (by rw [HK.out]), rfl⟩
/-- An own row of numbers. -/
def OwnZ (w : World) (base : Nat) (a : Option Addr) (n cap : Nat) (l : List Int) : Prop := w.ownsRow base 3 1 (.slice a n cap) n (l.map (fun v => Value.int .i64 v))
theorem run_pushZ (w : World) (ty : TypeId) {base n cap : Nat} {a : Option Addr} {l : List Int} (x : Int) (hown : OwnZ w base a n cap l) (hn : n + 1 ≤ 1099511627780) (hbase : base ≤ w.heap.size) :
    ∃ a' cap' w', (Builtin.append_ #[23, 23] ty #[.slice a n cap, .slice (some ⟨w.heap.size, 0, none⟩) 1 1]).run Try.prog (w.alloc (.cells #[.int .i64 x] 3)) = .ok (.slice a' (n + 1) cap') w' ∧
      OwnZ w' base a' (n + 1) cap' (l ++ [x]) ∧ w.grownBy w' (Value.slice a n cap).ownBlock := by
  obtain ⟨g, cap', w', h1, h2, h3, _⟩ := run_pushL w 23 ty 3 (.int .i64 0) 1 8 Try.underlying23 info_int rfl (by decide) [.int .i64 x] rfl (by simp [Value.oneCell']) hown (by omega) (by unfold maxLen; omega) hbase
  exact ⟨some ⟨g, 0, none⟩, cap', w', h1, by unfold OwnZ; rw [List.map_append]; exact h2, h3⟩
theorem OwnZ.ints {w : World} {base cap : Nat} {a : Option Addr} {l : List Int} (h : OwnZ w base a l.length cap l) : Ints w a cap l := ints_own h
theorem two_sides (v : Int) : ∀ l : List Int, (l.filter (fun a => decide (a < v))).length + (l.filter (fun a => decide (v < a))).length ≤ l.length
  | [] => Nat.le_refl _
  | a :: l => by
    have := two_sides v l
    rw [List.filter_cons, List.filter_cons]
    by_cases h1 : a < v
    · have h2 : ¬ v < a := by omega
      simp only [h1, h2, decide_true, decide_false, if_true, Bool.false_eq_true, if_false, List.length_cons]
      omega
    · by_cases h2 : v < a
      · simp only [h1, h2, decide_true, decide_false, if_true, Bool.false_eq_true, if_false, List.length_cons]
        omega
      · simp only [h1, h2, decide_false, Bool.false_eq_true, if_false, List.length_cons]
        omega
theorem takeZ_step {l : List Int} {k : Nat} (h : k < l.length) (p : Int → Bool) : (l.take (k + 1)).filter p = (l.take k).filter p ++ (if p l[k] then [l[k]] else []) := by
  rw [List.take_add_one, List.getElem?_eq_getElem h, List.filter_append]
  congr 1
  by_cases hp : p l[k] <;> simp [hp]

end Go.Proofs.Ytngbfjimmdkfeaa

namespace Go.Proofs.Ytngbfjimmdkfeaa
open Go.RowKit Go.Shelf

attribute [local go_sem] Oper.semAt_some

/-- Small enough to be played. -/
def smallD (x : Nf) : Bool := decide (x.n ≤ 40) && decide (x.es.length ≤ 80) && decide (x.ends.length ≤ 20) && x.es.all (fun e => decide (e.q.length ≤ 10))

set_option maxRecDepth 100000 in
set_option maxHeartbeats 2000000 in
theorem small4_any (x : Nf) (p : NfL) (w : World) (hx : NfAt w x p) :
    Calls Try.prog 13 #[.agg #[.int .i64 x.n, .int .i64 x.s, .slice p.ea x.ends.length p.ec, .slice p.ga x.es.length p.gc]] w fun e w' => e = .returned (.bool (smallD x)) ∧ Below w.heap.size w w' := by
  have hE1 := hx.ends.le
  have hE2 := hx.ends.max
  have hG1 := hx.es.le
  have hG2 := hx.es.max
  have Hx := Lib.hid hx
  obtain ⟨ea, ec, ga, gc⟩ := p
  dsimp only at *
  obtain ⟨R, hR⟩ : ∃ R, Hid (smallD x = R) := ⟨_, Lib.hid rfl⟩
  have HS : Hid (R = (decide (x.n ≤ 40) && decide (x.es.length ≤ 80) && decide (x.ends.length ≤ 20) && x.es.all (fun e => decide (e.q.length ≤ 10)))) := Lib.hid (by rw [← hR.out]; rfl)
  obtain ⟨E, hE⟩ : ∃ E, Hid (x.ends.length = E) := ⟨_, Lib.hid rfl⟩
  obtain ⟨G, hG⟩ : ∃ G, Hid (x.es.length = G) := ⟨_, Lib.hid rfl⟩
  obtain ⟨xn, hn⟩ : ∃ n, Hid (x.n = n) := ⟨_, Lib.hid rfl⟩
  obtain ⟨xs, hs⟩ : ∃ n, Hid (x.s = n) := ⟨_, Lib.hid rfl⟩
  rw [hE.out] at hE1
  rw [hG.out] at hG1
  rw [hE.out, hG.out, hn.out] at HS
  rw [hE.out, hG.out, hn.out, hs.out, hR.out]
  have hA0 := Blk.new w 32 #[.int .i64 xn, .int .i64 xs, .slice ea E ec, .slice ga G gc]
  have hb0 : Below w.heap.size w (w.alloc (.cells #[.int .i64 xn, .int .i64 xs, .slice ea E ec, .slice ga G gc] 32)) := (Below.refl _ w).alloc (Nat.le_refl _) _
  have x0 := hA0.cell 0
  have x1 := hA0.cell 1
  have x2 := hA0.cell 2
  have x3 := hA0.cell 3
  have xl := hA0.lt
  simp only [List.getElem?_cons_zero, List.getElem?_cons_succ] at x0 x1 x2 x3
  clear hx hR
  by_cases h0 : 40 < xn
  · have HF : Hid (R = false) := Lib.hid (by rw [HS.out, decide_eq_false (by omega : ¬ xn ≤ 40)]; rfl)
    go_enter Try.func13, Try.ntmps13
    go_wp2_with (fail)
    exact bodyPost_ret (v := .bool false) (by simp [results, Try.results13, go_sem]; try rfl) rfl ⟨ret_bool HF.out.symm, hb0⟩
  by_cases hg : 80 < G
  · have hgI : (80 : Int) < (G : Int) := by omega
    have HF : Hid (R = false) := Lib.hid (by rw [HS.out, decide_eq_false (by omega : ¬ G ≤ 80), Bool.and_false]; rfl)
    go_enter Try.func13, Try.ntmps13
    go_wp2_with (fail)
    exact bodyPost_ret (v := .bool false) (by simp [results, Try.results13, go_sem]; try rfl) rfl ⟨ret_bool HF.out.symm, hb0⟩
  have hgI : ¬ (80 : Int) < (G : Int) := by omega
  by_cases he : 20 < E
  · have heI : (20 : Int) < (E : Int) := by omega
    have HF : Hid (R = false) := Lib.hid (by rw [HS.out, decide_eq_false (by omega : ¬ E ≤ 20), Bool.and_false]; rfl)
    go_enter Try.func13, Try.ntmps13
    go_wp2_with (fail)
    exact bodyPost_ret (v := .bool false) (by simp [results, Try.results13, go_sem]; try rfl) rfl ⟨ret_bool HF.out.symm, hb0⟩
  have heI : ¬ (20 : Int) < (E : Int) := by omega
  have HS1 : Hid (R = x.es.all (fun e => decide (e.q.length ≤ 10))) := Lib.hid (by rw [HS.out, decide_eq_true (by omega : xn ≤ 40), decide_eq_true (by omega : G ≤ 80), decide_eq_true (by omega : E ≤ 20), Bool.true_and, Bool.true_and, Bool.true_and])
  clear HS
  have Hb0 := Lib.hid hb0
  clear hb0
  go_enter Try.func13, Try.ntmps13
  go_wp2_with (fail)
  go_loopw [4, 23] (fun _ iv wr => ∃ k : Nat, k ≤ G ∧ iv = .int .i64 (k : Int) ∧ (R = (x.es.drop k).all (fun e => decide (e.q.length ≤ 10))) ∧ Below w.heap.size w wr) (fun _ iv _ => G - (intOf iv).toNat)
  case atStart => exact ⟨0, Nat.zero_le _, rfl, HS1.out, Hb0.out⟩
  case round =>
    obtain ⟨k, hk, rfl, hall, hbr⟩ := hrel
    have Hall := Lib.hid hall
    clear x0 x1 x2 x3 xl hall
    by_cases hlt : k < G
    · have hkI : (k : Int) < (G : Int) := by omega
      have hkI0 : (0 : Int) ≤ (k : Int) := by omega
      have hkl : k < x.es.length := by rw [hG.out]; exact hlt
      obtain ⟨b, off, rfl⟩ := Hx.out.es.at_ k hkl
      obtain ⟨c0, c1, sa, sc, c2, hsp⟩ := ((Hx.out.es.grown hbr).cell b off rfl k hkl)
      have hdr : Hid (x.es.drop k = x.es[k] :: x.es.drop (k + 1)) := Lib.hid (List.drop_eq_getElem_cons hkl)
      obtain ⟨v, hv⟩ : ∃ v, Hid (x.es[k] = v) := ⟨_, Lib.hid rfl⟩
      rw [hv.out] at c0 c1 c2 hsp hdr
      obtain ⟨ef, et, q⟩ := v
      dsimp only at c0 c1 c2 hsp
      have hbl := World.block_lt_of_cell? _ _ c0
      have hql : q.length ≤ sc ∧ sc ≤ 9223372036854775807 := ⟨hsp.le, hsp.max⟩
      have Hq : Hid (R = (decide (q.length ≤ 10) && (x.es.drop (k + 1)).all (fun e => decide (e.q.length ≤ 10)))) := Lib.hid (by rw [Hall.out, hdr.out, List.all_cons])
      obtain ⟨Q, hQ⟩ : ∃ Q, Hid (q.length = Q) := ⟨_, Lib.hid rfl⟩
      rw [hQ.out] at c2 hql Hq
      have hbd := (Below.refl wr.heap.size wr).alloc (Nat.le_refl _) (.cells #[.int .i64 ef, .int .i64 et, .slice sa Q sc] 61)
      have HB := Lib.hid (hbr.trans (hbd.mono hbr.size))
      have hA5 := Blk.new wr 61 #[.int .i64 ef, .int .i64 et, .slice sa Q sc]
      have z0 := hA5.cell 0
      have z1 := hA5.cell 1
      have z2 := hA5.cell 2
      have zl := hA5.lt
      simp only [List.getElem?_cons_zero, List.getElem?_cons_succ] at z0 z1 z2
      clear hbd hbr hsp hdr
      by_cases hq : 10 < Q
      · have hqI : (10 : Int) < (Q : Int) := by omega
        have HF : Hid (R = false) := Lib.hid (by rw [Hq.out, decide_eq_false (by omega : ¬ Q ≤ 10)]; rfl)
        go_wp2_with (fail)
        exact bodyPost_ret (v := .bool false) (by simp [results, Try.results13, go_sem]; try rfl) rfl ⟨ret_bool HF.out.symm, HB.out⟩
      · have hqI : ¬ (10 : Int) < (Q : Int) := by omega
        have HN : Hid (R = (x.es.drop (k + 1)).all (fun e => decide (e.q.length ≤ 10))) := Lib.hid (by rw [Hq.out, decide_eq_true (by omega : Q ≤ 10), Bool.true_and])
        go_wp2_with (fail)
        exact ⟨⟨k + 1, by omega, by simp, HN.out, HB.out⟩, by simp [intOf]; omega⟩
    · obtain rfl : G = k := by omega
      have hkI : ¬ (G : Int) < (G : Int) := by omega
      have HF : Hid (R = true) := Lib.hid (by rw [Hall.out, List.drop_eq_nil_of_le (by rw [hG.out]; exact Nat.le_refl _)]; rfl)
      have HB := Lib.hid hbr
      clear hbr
      go_wp2_with (fail)
      exact bodyPost_ret (v := .bool true) (by simp [results, Try.results13, go_sem]; try rfl) rfl ⟨ret_bool HF.out.symm, HB.out⟩

end Go.Proofs.Ytngbfjimmdkfeaa

namespace Go.Proofs.Ytngbfjimmdkfeaa
open Go.RowKit Go.Shelf

attribute [local go_sem] Oper.semAt_some

set_option maxRecDepth 100000 in
set_option maxHeartbeats 2000000 in
theorem withR_any (l : List Int) (n : Int) (a : Option Addr) (cap : Nat) (w : World) (hl : Ints w a cap l) (hll : l.length ≤ 1000000) :
    Calls Try.prog 28 #[.slice a l.length cap, .int .i64 n] w fun e w' => (∃ r oa oc, e = .returned (.slice oa r.length oc) ∧ Ints w' oa oc r ∧ r.length ≤ l.length + 1 ∧ ∀ v, v ∈ l ∨ v = n → v ∈ r) ∧ Below w.heap.size w w' := by
  have hle := hl.le
  have hmx := hl.max
  have HI := Lib.hid (inZ_any l a cap n w hl)
  obtain ⟨L, HL⟩ : ∃ L, Hid (l.length = L) := ⟨_, Lib.hid rfl⟩
  obtain ⟨B, hB⟩ : ∃ B, Hid (decide (n ∈ l) = B) := ⟨_, Lib.hid rfl⟩
  rw [hB.out, HL.out] at HI
  rw [HL.out] at hle hll ⊢
  have H2 := Lib.hid (two_sides n l)
  have Hl := Lib.hid hl
  clear hl
  go_enter Try.func28, Try.ntmps28
  go_wp2_with (fail)
  refine HI.out.mono ?_
  rintro e w1 ⟨rfl, rfl⟩
  cases B
  case true =>
    go_wp2_with (fail)
    exact bodyPost_ret (v := .slice a L cap) (by simp [results, Try.results28, go_sem]; try rfl) rfl ⟨⟨l, a, cap, by rw [HL.out], Hl.out, by rw [HL.out]; omega, fun v hv => hv.elim id (fun e => by rw [e]; exact of_decide_eq_true hB.out)⟩, Below.refl _ _⟩
  go_wp2_with (fail)
  go_loopw [5, 7, 16] (fun ov _ iv wr => ∃ (k : Nat) (ra : Option Addr) (rc : Nat) (r : List Int), k ≤ L ∧ iv = .int .i64 (k : Int) ∧ ov = .slice ra r.length rc ∧ OwnZ wr w1.heap.size ra r.length rc r ∧ r = (l.take k).filter (fun a => decide (a < n)) ∧ r.length ≤ k ∧ Below w1.heap.size w1 wr) (fun _ _ iv _ => L - (intOf iv).toNat)
  case atStart => exact ⟨0, none, 0, [], Nat.zero_le _, rfl, rfl, World.ownsRow_nil _ _ _ _, rfl, Nat.le_refl _, Below.refl _ _⟩
  case round =>
    obtain ⟨k, ra, rc, r, hk, rfl, rfl, hor, hr, hrl, hbr⟩ := hrel
    have Hr := Lib.hid hr
    clear hr
    by_cases hlt : k < L
    · have hkI : (k : Int) < (L : Int) := by omega
      have hkI0 : (0 : Int) ≤ (k : Int) := by omega
      have hkl : k < l.length := by rw [HL.out]; exact hlt
      obtain ⟨b, off, rfl⟩ := Hl.out.at_ k hkl
      have c0 := (Hl.out.grown hbr).cell b off rfl k hkl
      have Hts := Lib.hid (takeZ_step hkl (fun a => decide (a < n)))
      obtain ⟨v, hv⟩ : ∃ v, Hid (l[k] = v) := ⟨_, Lib.hid rfl⟩
      rw [hv.out] at c0 Hts
      have hbl := World.block_lt_of_cell? _ _ c0
      by_cases hlv : v < n
      · obtain ⟨ra', rc', w', hr6, ho6, hg6⟩ := run_pushZ wr 23 v hor (by omega) hbr.size
        have Hr6 := Lib.hid hr6
        have HQ : Hid (OwnZ w' w1.heap.size ra' (r ++ [v]).length rc' (r ++ [v]) ∧ (r ++ [v]) = (l.take (k + 1)).filter (fun a => decide (a < n)) ∧ (r ++ [v]).length ≤ k + 1 ∧ Below w1.heap.size w1 w') := Lib.hid ⟨by rw [List.length_append]; exact ho6, by rw [Hts.out, ← Hr.out, if_pos (decide_eq_true hlv)], by rw [List.length_append]; exact Nat.add_le_add_right hrl 1, hbr.grown hg6 hbr.size (fun i e => (own_typD hor i e).1)⟩
        clear hr6 ho6 hg6 hor hbr
        go_wp2_with (at_builtin; refine wpList_append_run rfl _ _ 23 23 rfl _ _ _ _ rfl rfl Hr6.out ?_)
        exact ⟨⟨k + 1, ra', rc', r ++ [v], by omega, by simp, by simp, HQ.out⟩, by simp [intOf]; omega⟩
      · have HQ : Hid (OwnZ wr w1.heap.size ra r.length rc r ∧ r = (l.take (k + 1)).filter (fun a => decide (a < n)) ∧ r.length ≤ k + 1 ∧ Below w1.heap.size w1 wr) := Lib.hid ⟨hor, by rw [Hts.out, ← Hr.out, if_neg (by simpa using hlv), List.append_nil], by omega, hbr⟩
        clear hor hbr
        go_wp2_with (fail)
        exact ⟨⟨k + 1, ra, rc, r, by omega, by simp, rfl, HQ.out⟩, by simp [intOf]; omega⟩
    · obtain rfl : L = k := by omega
      have hkI : ¬ (L : Int) < (L : Int) := by omega
      have Hr0 : Hid (r = l.filter (fun a => decide (a < n))) := Lib.hid (by rw [Hr.out, List.take_of_length_le (by rw [HL.out]; exact Nat.le_refl _)])
      obtain ⟨ra', rc', w', hr6, ho6, hg6⟩ := run_pushZ wr 23 n hor (by omega) hbr.size
      have Hr6 := Lib.hid hr6
      have HO6 : Hid (OwnZ w' w1.heap.size ra' (r ++ [n]).length rc' (r ++ [n])) := Lib.hid (by rw [List.length_append]; exact ho6)
      have Hb6 := Lib.hid (hbr.grown hg6 hbr.size (fun i e => (own_typD hor i e).1))
      clear hr6 ho6 hg6 hor hbr Hr
      obtain ⟨A, hA⟩ : ∃ A, Hid (r ++ [n] = A) := ⟨_, Lib.hid rfl⟩
      have hAl : A.length ≤ L + 1 := by rw [← hA.out, List.length_append]; exact Nat.add_le_add_right hrl 1
      have hAr : r.length + 1 = A.length := by rw [← hA.out, List.length_append]; rfl
      have HAm : Hid (∀ v, (v ∈ l ∧ v < n) ∨ v = n → v ∈ A) := Lib.hid (fun v hv => by
        rw [← hA.out, Hr0.out]
        rcases hv with ⟨h1, h2⟩ | h1
        · exact List.mem_append_left _ (List.mem_filter.2 ⟨h1, decide_eq_true h2⟩)
        · exact List.mem_append_right _ (List.mem_singleton.2 h1))
      have HAs : Hid (A.length = (l.filter (fun a => decide (a < n))).length + 1) := Lib.hid (by rw [← hAr, Hr0.out])
      rw [hA.out] at HO6
      rw [hAr] at Hr6
      clear hAr
      go_wp2_with (at_builtin; refine wpList_append_run rfl _ _ 23 23 rfl _ _ _ _ rfl rfl Hr6.out ?_)
      go_loopw [5, 9, 34] (fun ov _ iv wr => ∃ (k : Nat) (ra : Option Addr) (rc : Nat) (r : List Int), k ≤ L ∧ iv = .int .i64 (k : Int) ∧ ov = .slice ra r.length rc ∧ OwnZ wr w1.heap.size ra r.length rc r ∧ r = A ++ (l.take k).filter (fun a => decide (n < a)) ∧ r.length ≤ L + 1 + k ∧ Below w1.heap.size w1 wr) (fun _ _ iv _ => L - (intOf iv).toNat)
      case atStart => exact ⟨0, ra', rc', A, Nat.zero_le _, rfl, rfl, HO6.out, by simp, hAl, Hb6.out⟩
      case round =>
        obtain ⟨k, ra, rc, r, hk, rfl, rfl, hor, hr, hrl, hbr⟩ := hrel
        have Hr := Lib.hid hr
        clear hr
        by_cases hlt : k < L
        · have hkI : (k : Int) < (L : Int) := by omega
          have hkI0 : (0 : Int) ≤ (k : Int) := by omega
          have hkl : k < l.length := by rw [HL.out]; exact hlt
          obtain ⟨b, off, rfl⟩ := Hl.out.at_ k hkl
          have c0 := (Hl.out.grown hbr).cell b off rfl k hkl
          have Hts := Lib.hid (takeZ_step hkl (fun a => decide (n < a)))
          obtain ⟨v, hv⟩ : ∃ v, Hid (l[k] = v) := ⟨_, Lib.hid rfl⟩
          rw [hv.out] at c0 Hts
          have hbl := World.block_lt_of_cell? _ _ c0
          by_cases hlv : n < v
          · obtain ⟨ra', rc', w', hr6, ho6, hg6⟩ := run_pushZ wr 23 v hor (by omega) hbr.size
            have Hr6 := Lib.hid hr6
            have HQ : Hid (OwnZ w' w1.heap.size ra' (r ++ [v]).length rc' (r ++ [v]) ∧ (r ++ [v]) = A ++ (l.take (k + 1)).filter (fun a => decide (n < a)) ∧ (r ++ [v]).length ≤ L + 1 + (k + 1) ∧ Below w1.heap.size w1 w') := Lib.hid ⟨by rw [List.length_append]; exact ho6, by rw [Hts.out, ← List.append_assoc, ← Hr.out, if_pos (decide_eq_true hlv)], by rw [List.length_append]; exact Nat.add_le_add_right hrl 1, hbr.grown hg6 hbr.size (fun i e => (own_typD hor i e).1)⟩
            clear hr6 ho6 hg6 hor hbr
            go_wp2_with (at_builtin; refine wpList_append_run rfl _ _ 23 23 rfl _ _ _ _ rfl rfl Hr6.out ?_)
            exact ⟨⟨k + 1, ra', rc', r ++ [v], by omega, by simp, by simp, HQ.out⟩, by simp [intOf]; omega⟩
          · have HQ : Hid (OwnZ wr w1.heap.size ra r.length rc r ∧ r = A ++ (l.take (k + 1)).filter (fun a => decide (n < a)) ∧ r.length ≤ L + 1 + (k + 1) ∧ Below w1.heap.size w1 wr) := Lib.hid ⟨hor, by rw [Hts.out, if_neg (by simpa using hlv), List.append_nil]; exact Hr.out, by omega, hbr⟩
            clear hor hbr
            go_wp2_with (fail)
            exact ⟨⟨k + 1, ra, rc, r, by omega, by simp, rfl, HQ.out⟩, by simp [intOf]; omega⟩
        · obtain rfl : L = k := by omega
          have hkI : ¬ (L : Int) < (L : Int) := by omega
          have HR : Hid (r.length ≤ L + 1) := Lib.hid (by
            have h2 := H2.out
            have h3 := HL.out
            rw [Hr.out, List.length_append, HAs.out, List.take_of_length_le (by rw [HL.out]; exact Nat.le_refl _)]
            omega)
          have HM : Hid (∀ v, v ∈ l ∨ v = n → v ∈ r) := Lib.hid (fun v hv => by
            rw [Hr.out]
            by_cases h1 : v = n
            · exact List.mem_append_left _ (HAm.out v (.inr h1))
            · have h2 := hv.resolve_right h1
              rcases (show v < n ∨ n < v by omega) with h3 | h3
              · exact List.mem_append_left _ (HAm.out v (.inl ⟨h2, h3⟩))
              · refine List.mem_append_right _ (List.mem_filter.2 ⟨?_, decide_eq_true (by omega)⟩)
                rwa [List.take_of_length_le (by rw [HL.out]; exact Nat.le_refl _)])
          have HQ := Lib.hid (And.intro (OwnZ.ints hor) hbr)
          clear hor hbr
          go_wp2_with (fail)
          exact bodyPost_ret (v := .slice ra r.length rc) (by simp [results, Try.results28, go_sem]; try rfl) rfl ⟨⟨r, ra, rc, rfl, HQ.out.1, HR.out, HM.out⟩, HQ.out.2⟩
set_option maxRecDepth 100000 in
set_option maxHeartbeats 2000000 in
theorem hardR_any (x : Nf) (p : NfL) (w : World) (hx : NfAt w x p) (hM : x.es.length ≤ 500000) :
    Calls Try.prog 14 #[.agg #[.int .i64 x.n, .int .i64 x.s, .slice p.ea x.ends.length p.ec, .slice p.ga x.es.length p.gc]] w fun e w' => (∃ r : List Int, (∀ e ∈ x.es, e.q ≠ [] → e.f ∈ r) ∧ e = .returned (.bool (decide ((8 : Int) < (r.length : Int))))) ∧ Below w.heap.size w w' := by
  have hE1 := hx.ends.le
  have hE2 := hx.ends.max
  have hG1 := hx.es.le
  have hG2 := hx.es.max
  have Hx := Lib.hid hx
  obtain ⟨ea, ec, ga, gc⟩ := p
  dsimp only at *
  obtain ⟨E, hE⟩ : ∃ E, Hid (x.ends.length = E) := ⟨_, Lib.hid rfl⟩
  obtain ⟨G, hG⟩ : ∃ G, Hid (x.es.length = G) := ⟨_, Lib.hid rfl⟩
  obtain ⟨xn, hn⟩ : ∃ n, Hid (x.n = n) := ⟨_, Lib.hid rfl⟩
  obtain ⟨xs, hs⟩ : ∃ n, Hid (x.s = n) := ⟨_, Lib.hid rfl⟩
  rw [hE.out] at hE1
  rw [hG.out] at hG1 hM
  rw [hE.out, hG.out, hn.out, hs.out]
  have hA0 := Blk.new w 32 #[.int .i64 xn, .int .i64 xs, .slice ea E ec, .slice ga G gc]
  have Hb0 : Hid (Below w.heap.size w (w.alloc (.cells #[.int .i64 xn, .int .i64 xs, .slice ea E ec, .slice ga G gc] 32))) := Lib.hid ((Below.refl _ w).alloc (Nat.le_refl _) _)
  have x0 := hA0.cell 0
  have x1 := hA0.cell 1
  have x2 := hA0.cell 2
  have x3 := hA0.cell 3
  have xl := hA0.lt
  simp only [List.getElem?_cons_zero, List.getElem?_cons_succ] at x0 x1 x2 x3
  clear hx
  go_enter Try.func14, Try.ntmps14
  go_wp2_with (fail)
  go_loopw [3, 5, 9] (fun ov _ iv wr => ∃ (k : Nat) (ra : Option Addr) (rc : Nat) (r : List Int), k ≤ G ∧ iv = .int .i64 (k : Int) ∧ ov = .slice ra r.length rc ∧ Ints wr ra rc r ∧ (r.length ≤ k ∧ ∀ e ∈ x.es.take k, e.q ≠ [] → e.f ∈ r) ∧ Below w.heap.size w wr) (fun _ _ iv _ => G - (intOf iv).toNat)
  case atStart => exact ⟨0, none, 0, [], Nat.zero_le _, rfl, rfl, ⟨Nat.zero_le _, by omega, fun _ => rfl, fun i h => (by simp at h), fun b off e => (by cases e)⟩, ⟨Nat.le_refl _, fun e he => by simp at he⟩, Hb0.out⟩
  case round =>
    obtain ⟨k, ra, rc, r, hk, rfl, rfl, hri, ⟨hrl, hrm⟩, hbr⟩ := hrel
    have HRm := Lib.hid hrm
    clear hrm
    clear x0 x1 x2 x3 xl
    have hrm : r.length ≤ rc ∧ rc ≤ 9223372036854775807 := ⟨hri.le, hri.max⟩
    by_cases hlt : k < G
    · have hkI : (k : Int) < (G : Int) := by omega
      have hkI0 : (0 : Int) ≤ (k : Int) := by omega
      have hkl : k < x.es.length := by rw [hG.out]; exact hlt
      obtain ⟨b, off, rfl⟩ := Hx.out.es.at_ k hkl
      obtain ⟨c0, c1, sa, sc, c2, hsp⟩ := ((Hx.out.es.grown hbr).cell b off rfl k hkl)
      have htk : Hid (x.es.take (k + 1) = x.es.take k ++ [x.es[k]]) := Lib.hid (by rw [List.take_add_one, List.getElem?_eq_getElem hkl]; rfl)
      obtain ⟨v, hv⟩ : ∃ v, Hid (x.es[k] = v) := ⟨_, Lib.hid rfl⟩
      rw [hv.out] at c0 c1 c2 hsp htk
      obtain ⟨ef, et, q⟩ := v
      dsimp only at c0 c1 c2 hsp
      have hbl := World.block_lt_of_cell? _ _ c0
      have hql : q.length ≤ sc ∧ sc ≤ 9223372036854775807 := ⟨hsp.le, hsp.max⟩
      obtain ⟨Q, hQ⟩ : ∃ Q, Hid (q.length = Q) := ⟨_, Lib.hid rfl⟩
      rw [hQ.out] at c2 hql
      have hbd := (Below.refl wr.heap.size wr).alloc (Nat.le_refl _) (.cells #[.int .i64 ef, .int .i64 et, .slice sa Q sc] 61)
      have HB := Lib.hid (hbr.trans (hbd.mono hbr.size))
      have hri2 := hri.grown hbd
      have hA5 := Blk.new wr 61 #[.int .i64 ef, .int .i64 et, .slice sa Q sc]
      have z0 := hA5.cell 0
      have z1 := hA5.cell 1
      have z2 := hA5.cell 2
      have zl := hA5.lt
      simp only [List.getElem?_cons_zero, List.getElem?_cons_succ] at z0 z1 z2
      have HW := Lib.hid (withR_any r ef ra rc _ hri2 (by omega))
      have HRI := Lib.hid hri2
      clear hbd hbr hsp hri hri2
      by_cases hq : 0 < Q
      · have hqI : (0 : Int) < (Q : Int) := by omega
        go_wp2_with (fail)
        refine HW.out.mono ?_
        rintro e w2 ⟨⟨r2, oa, oc, rfl, hr2, hl2, hm2⟩, hb2⟩
        have HQ : Hid (Ints w2 oa oc r2 ∧ (r2.length ≤ k + 1 ∧ ∀ e ∈ x.es.take (k + 1), e.q ≠ [] → e.f ∈ r2) ∧ Below w.heap.size w w2) := Lib.hid ⟨hr2, ⟨by omega, fun e he hne => by
          rw [htk.out] at he
          rcases List.mem_append.1 he with h | h
          · exact hm2 _ (.inl (HRm.out e h hne))
          · rw [List.mem_singleton] at h
            subst h
            exact hm2 _ (.inr rfl)⟩, HB.out.trans (hb2.mono HB.out.size)⟩
        clear hr2 hl2 hb2 hm2
        go_wp2_with (fail)
        exact ⟨⟨k + 1, oa, oc, r2, by omega, by simp, rfl, HQ.out⟩, by simp [intOf]; omega⟩
      · have hqI : ¬ (0 : Int) < (Q : Int) := by omega
        have HQ : Hid (r.length ≤ k + 1 ∧ ∀ e ∈ x.es.take (k + 1), e.q ≠ [] → e.f ∈ r) := Lib.hid ⟨by omega, fun e he hne => by
          rw [htk.out] at he
          rcases List.mem_append.1 he with h | h
          · exact HRm.out e h hne
          · rw [List.mem_singleton] at h
            subst h
            have h0 : q.length = 0 := by rw [hQ.out]; omega
            exact absurd (List.length_eq_zero_iff.1 h0) hne⟩
        go_wp2_with (fail)
        exact ⟨⟨k + 1, ra, rc, r, by omega, by simp, rfl, HRI.out, HQ.out, HB.out⟩, by simp [intOf]; omega⟩
    · obtain rfl : G = k := by omega
      have hkI : ¬ (G : Int) < (G : Int) := by omega
      have HF : Hid (∃ r' : List Int, (∀ e ∈ x.es, e.q ≠ [] → e.f ∈ r') ∧ Ending.returned (Value.bool (decide ((8 : Int) < (r.length : Int)))) = .returned (.bool (decide ((8 : Int) < (r'.length : Int))))) := Lib.hid ⟨r, fun e he => HRm.out e (by rw [List.take_of_length_le (by rw [hG.out]; exact Nat.le_refl _)]; exact he), rfl⟩
      have HB := Lib.hid hbr
      clear hbr hri
      go_wp2_with (fail)
      exact bodyPost_ret (v := .bool (decide ((8 : Int) < (r.length : Int)))) (by simp [results, Try.results14, go_sem]; try rfl) rfl ⟨HF.out, HB.out⟩
end Go.Proofs.Ytngbfjimmdkfeaa

