/- Texts of layer 2 joined: TSet Txt. -/
import Derived.Test.YtkdfobnkebkpfaaJC
import Derived.Test.YtkdfobnkebkpfaaJA
import Derived.Outline
import Derived.Test.YtkdfobnkebkpfaaJB
set_option linter.unusedVariables false
set_option linter.unusedSimpArgs false
/- regex.appendSet: a Set's text. -/
namespace Go.Proofs.Ytkdfobnkebkpfaa
open Go.RowKit Go.Shelf

attribute [local go_sem] Oper.semAt_some

/-- A step that writes the own row alone, and what becomes of the row. -/
structure Grw (base : Nat) (w : World) (a : Option Addr) (w' : World) (a' : Option Addr) : Prop where
  only : Only base 5 w w'
  keep : ∀ (i : Nat) (o : Obj), w.heap[i]? = some o → (∀ p, a = some p → p.block ≠ i) → w'.heap[i]? = some o
  new : New w.heap.size a a'
theorem Grw.trans {base : Nat} {w w' w'' : World} {a a' a'' : Option Addr} (h : Grw base w a w' a') (k : Grw base w' a' w'' a'') : Grw base w a w'' a'' :=
  ⟨h.only.trans k.only, fun i o hi ha => k.keep i o (h.keep i o hi ha) (fun p e => by
    have hlt : i < w.heap.size := (Array.getElem?_eq_some_iff.1 hi).1
    rcases h.new with e1 | ⟨g, e1, hg⟩
    · exact ha p (by rw [← e1]; exact e)
    · rw [e1] at e; cases e; show g ≠ i; omega), h.new.trans k.new h.only.size⟩
theorem Grw.still {base : Nat} {w w' : World} (a : Option Addr) (h : Only base 5 w w') (hk : ∀ (i : Nat) (o : Obj), w.heap[i]? = some o → w'.heap[i]? = some o) : Grw base w a w' a := ⟨h, fun i o hi _ => hk i o hi, .inl rfl⟩
theorem Grw.alloc (base : Nat) (w : World) (a : Option Addr) (o : Obj) : Grw base w a (w.alloc o) a := Grw.still a (Only.alloc w o) (fun i o' hi => by
  have hlt : i < w.heap.size := (Array.getElem?_eq_some_iff.1 hi).1
  exact ((World.grownBy_alloc w o none).block i hlt (by simp)).trans hi)
theorem Grw.drewN (base : Nat) (w : World) (a : Option Addr) (k : Nat) : Grw base w a (w.drewN k) a := Grw.still a ⟨rfl, rfl, rfl, Nat.le_refl _, fun _ _ h _ => h⟩ (fun _ _ h => h)
theorem Grw.drew (base : Nat) (w : World) (a : Option Addr) : Grw base w a w.drew a := Grw.still a ⟨rfl, rfl, rfl, Nat.le_refl _, fun _ _ h _ => h⟩ (fun _ _ h => h)
theorem Grw.of {base n cap : Nat} {w w' : World} {a a' : Option Addr} {ys : List UInt8} (hown : OwnB w base a n cap ys) (hg : w.grownBy w' (Value.slice a n cap).ownBlock) (hn : New w.heap.size a a') : Grw base w a w' a' :=
  ⟨hown.only hg, fun i o hi ha => (hg.block i (Array.getElem?_eq_some_iff.1 hi).1 (fun e => by
    cases a with
    | none => cases e
    | some p => cases e; exact ha p rfl rfl)).trans hi, hn⟩
theorem Grw.blk {base b e : Nat} {w w' : World} {a a' : Option Addr} {cs : List Value} (h : Grw base w a w' a') (hb : Blk w b e cs) (hne : e ≠ 5) : Blk w' b e cs := h.only.blk hb hne

theorem appendByte_only (a : Option Addr) (n cap base : Nat) (c : UInt8) (ys : List UInt8) (w : World) (hown : OwnB w base a n cap ys) (hn : n + 4 ≤ 140737488355328) (hbase : base ≤ w.heap.size) :
    Calls Try.prog 76 #[.slice a n cap, .int .u8 (c.toNat : Int)] w fun e w' => ∃ a' c', e = .returned (.slice a' (n + (byteT c).length) c') ∧ OwnB w' base a' (n + (byteT c).length) c' (ys ++ byteT c) ∧ Grw base w a w' a' :=
  (appendByte_any a n cap base c ys w hown hn hbase).mono fun e w' ⟨⟨a', c', he, ho, hn⟩, hg⟩ => ⟨a', c', he, ho, Grw.of hown hg hn⟩

theorem byteT_length (c : UInt8) : (byteT c).length ≤ 4 := by
  unfold byteT
  repeat' split
  all_goals simp

/-- A span's text. -/
def spanT (s : Sp) : List UInt8 := byteT s.lo ++ ((if s.lo.toNat + 1 < s.hi.toNat then [45] else []) ++ (if s.lo.toNat < s.hi.toNat then byteT s.hi else []))
def spansT (l : List Sp) : List UInt8 := (l.map spanT).flatten
/-- The byte of a Set of one byte. -/
def lone : List Sp → Option UInt8
  | [x] => if x.lo = x.hi then some x.lo else none
  | _ => none
/-- A Set's text. -/
def setT (l : List Sp) : List UInt8 :=
  match lone l with
  | some c => byteT c
  | none => 91 :: (spansT l ++ [93])

theorem spanT_length (s : Sp) : (spanT s).length ≤ 9 := by
  have h1 := byteT_length s.lo
  have h2 := byteT_length s.hi
  unfold spanT
  repeat' split
  all_goals simp
  all_goals omega
theorem spansT_length (l : List Sp) : (spansT l).length ≤ 9 * l.length := by
  induction l with
  | nil => simp [spansT]
  | cons s l ih =>
    have := spanT_length s
    simp [spansT] at ih ⊢
    omega
theorem setT_length (l : List Sp) : (setT l).length ≤ 9 * l.length + 4 := by
  have := spansT_length l
  unfold setT
  cases lone l with
  | none => simp; omega
  | some c => have := byteT_length c; simp; omega
theorem spansT_snoc (l : List Sp) (k : Nat) (s : Sp) (h : l[k]? = some s) : spansT (l.take (k + 1)) = spansT (l.take k) ++ spanT s := by
  obtain ⟨hk, e⟩ := List.getElem?_eq_some_iff.1 h
  rw [List.take_add_one, h]
  simp [spansT]

theorem step_bytes (w : World) (ty : TypeId) {base n cap : Nat} {a : Option Addr} {ys : List UInt8} (hown : OwnB w base a n cap ys) (c : UInt8) (hbound : n + 1 ≤ 140737488355328) (hbase : base ≤ w.heap.size) (v : Value) (hv : v = bv c) :
    ∃ a' cap' w', (Builtin.append_ #[65, 65] ty #[.slice a n cap, .slice (some ⟨w.heap.size, 0, none⟩) 1 1]).run Try.prog (w.alloc (.cells #[v] 5)) = .ok (.slice a' (n + 1) cap') w' ∧ OwnB w' base a' (n + 1) cap' (ys ++ [c]) ∧ Grw base w a w' a' := by
  obtain ⟨a', cap', w', h1, h2, h3, h4⟩ := run_append_one w ty hown c v hv hbound hbase
  exact ⟨a', cap', w', h1, h2, Grw.of hown h3 h4⟩

theorem OwnB.drewN {w : World} {base n cap : Nat} {a : Option Addr} {ys : List UInt8} (h : OwnB w base a n cap ys) (k : Nat) : OwnB (w.drewN k) base a n cap ys := h
theorem Only.drewN (w : World) (base : Nat) (t : TypeId) (k : Nat) : Only base t w (w.drewN k) := ⟨rfl, rfl, rfl, Nat.le_refl _, fun _ _ h _ => h⟩
theorem Sps.drewN {w : World} {a : Option Addr} {cap : Nat} {l : List Sp} (h : Sps w a cap l) (k : Nat) : Sps (w.drewN k) a cap l := ⟨h.le, h.max, h.nil_, h.at_, h.cell⟩

set_option maxRecDepth 100000 in
set_option maxHeartbeats 1000000 in
theorem appendSet_lone (a : Option Addr) (n cap base : Nat) (sa : Option Addr) (sc : Nat) (x : Sp) (ys : List UInt8) (w : World) (hs : Sps w sa sc [x]) (hx : x.lo = x.hi) (hown : OwnB w base a n cap ys) (hn : n + 4 ≤ 140737488355328) (hbase : base ≤ w.heap.size) :
    Calls Try.prog 61 #[.slice a n cap, .slice sa 1 sc] w fun e w' => ∃ a' c', e = .returned (.slice a' (n + (byteT x.lo).length) c') ∧ OwnB w' base a' (n + (byteT x.lo).length) c' (ys ++ byteT x.lo) ∧ Grw base w a w' a' := by
  obtain ⟨b, off, rfl⟩ := hs.at_ 0 (by simp)
  obtain ⟨c0, c1⟩ := hs.cell b off rfl 0 (by simp)
  simp only [List.getElem_cons_zero, Nat.zero_mul, Nat.add_zero] at c0 c1
  rw [← hx] at c1
  have hmx := hs.max
  have hle := hs.le
  simp only [List.length_singleton] at hle
  obtain ⟨X, HX⟩ : ∃ X, Hid (x.lo = X) := ⟨_, Lib.hid rfl⟩
  rw [HX.out] at c0 c1 ⊢
  clear hx hs
  go_enter Try.func61, Try.ntmps61
  go_wp2_with (fail)
  go_quiet (fail)
  have hO := Grw.drewN base w a nq
  have hown1 := hown.drewN nq
  have hb1 : base ≤ (w.drewN nq).heap.size := hbase
  have c2 : (w.drewN nq).cell? ⟨b, off, none⟩ = _ := c0
  generalize w.drewN nq = W at hO hown1 hb1 c2 ⊢
  go_wp2_with (go_at_call 76; (with_reducible refine (appendByte_only a n cap base X ys W hown1 hn hb1).mono ?_); rintro e w8 ⟨a8, c8, rfl, ho8, hon8⟩)
  go_ret
  exact ⟨_, _, rfl, ho8, hO.trans hon8⟩

theorem Below.spsB {B : Nat} {w w' : World} {a : Option Addr} {cap : Nat} {l : List Sp} (hb : Below B w w') (h : Sps w a cap l) (ha : ∀ b off, a = some ⟨b, off, none⟩ → b < B) : Sps w' a cap l :=
  ⟨h.le, h.max, h.nil_, h.at_, fun b off e i hi => ⟨(hb.cell (p := ⟨b, off + i * 2, none⟩) (ha b off e)).trans (h.cell b off e i hi).1, (hb.cell (p := ⟨b, off + i * 2 + 1, none⟩) (ha b off e)).trans (h.cell b off e i hi).2⟩⟩

set_option maxRecDepth 100000 in
set_option maxHeartbeats 2000000 in
theorem appendSet_many (a : Option Addr) (n cap base : Nat) (sa : Option Addr) (L sc : Nat) (l : List Sp) (ys : List UInt8) (w : World) (hs : Sps w sa sc l) (hL : L = l.length) (hB : ∀ b off, sa = some ⟨b, off, none⟩ → b < base) (hx : lone l = none) (hord : ∀ s ∈ l, s.lo.toNat ≤ s.hi.toNat) (hown : OwnB w base a n cap ys) (hn : n + 9 * L + 4 ≤ 140737488355328) (hbase : base ≤ w.heap.size) :
    Calls Try.prog 61 #[.slice a n cap, .slice sa L sc] w fun e w' => ∃ a' c', e = .returned (.slice a' (n + (setT l).length) c') ∧ OwnB w' base a' (n + (setT l).length) c' (ys ++ setT l) ∧ Grw base w a w' a' := by
  have hle := hs.le
  have hmx := hs.max
  rw [← hL] at hle
  have HL := Lib.hid hL
  have Hset : Hid (setT l = 91 :: (spansT l ++ [93])) := Lib.hid (by unfold setT; rw [hx])
  have hg : (L = 1 ∧ ∃ x y : UInt8, x ≠ y ∧ ∃ b off, sa = some ⟨b, off, none⟩ ∧ w.cell? ⟨b, off, none⟩ = some (.int .u8 (x.toNat : Int)) ∧ w.cell? ⟨b, off + 1, none⟩ = some (.int .u8 (y.toNat : Int))) ∨ L ≠ 1 := by
    by_cases h1 : L = 1
    · refine .inl ⟨h1, ?_⟩
      obtain ⟨x, rfl⟩ := List.length_eq_one_iff.1 (hL.symm.trans h1)
      obtain ⟨b, off, rfl⟩ := hs.at_ 0 (by simp)
      obtain ⟨c0, c1⟩ := hs.cell b off rfl 0 (by simp)
      simp only [List.getElem_cons_zero, Nat.zero_mul, Nat.add_zero] at c0 c1
      refine ⟨x.lo, x.hi, fun e => ?_, b, off, rfl, c0, c1⟩
      simp [lone, e] at hx
    · exact .inr h1
  have hsw := hs
  clear hL hx
  rcases hg with ⟨h1, x, y, hxy, b, off, rfl, c0, c1⟩ | h1
  · have hne : ((x.toNat : Int) == (y.toNat : Int)) = false := by
      have : x.toNat ≠ y.toNat := fun e => hxy (UInt8.toNat_inj.1 e)
      simp; omega
    have hne1 : ((L : Int) == 1) = true := by simp; omega
    have hlt : 0 < L := by omega
    clear hxy h1
    go_enter Try.func61, Try.ntmps61
    go_wp2_with (fail)
    go_quiet (fail)
    clear hlt hne c0 c1 hne1
    have hO := Grw.drewN base w a nq
    have hown1 := hown.drewN nq
    have hb1 : base ≤ (w.drewN nq).heap.size := hbase
    have hs1 := hs.drewN nq
    generalize w.drewN nq = W at hO hown1 hb1 hs1 ⊢
    clear hs hown
    obtain ⟨a1, c1, w1, hrun1, ho1, hon1⟩ := step_bytes W 65 hown1 91 (by omega) hb1 (.int .u8 91) rfl
    have Hr1 := Lib.hid hrun1
    have hs2 := Below.spsB (Only.below hon1.only (Nat.le_refl _) hb1) hs1 hB
    have hb2 : base ≤ w1.heap.size := Nat.le_trans hb1 hon1.only.size
    have hO2 := hO.trans hon1
    clear hrun1 hs1 hown1 hon1 hO
    go_wp2_with (at_builtin; refine wpList_append_run rfl _ _ 65 65 rfl _ _ _ _ rfl rfl Hr1.out ?_)
    clear Hr1 hb1
    go_loopw [0, 32] (fun ov iv wr => ∃ (k : Nat) (ak : Option Addr) (ck : Nat), k ≤ L ∧ iv = .int .i64 (k : Int) ∧ ov = .slice ak (n + 1 + (spansT (l.take k)).length) ck ∧ OwnB wr base ak (n + 1 + (spansT (l.take k)).length) ck (ys ++ [91] ++ spansT (l.take k)) ∧ Grw base w a wr ak) (fun _ i _ => L - (intOf i).toNat)
    case atStart => exact ⟨0, a1, c1, by omega, rfl, by simp [spansT], by simpa [spansT] using ho1, hO2⟩
    case round =>
      obtain ⟨k, ak, ck, hk, rfl, rfl, hok, hOk⟩ := hrel
      by_cases hlt : k < L
      · have hlt' : k < l.length := by rw [← HL.out]; exact hlt
        have hsr := Below.spsB (Only.below hOk.only (Nat.le_refl _) hbase) hsw hB
        obtain ⟨b', off', he⟩ := hs2.at_ k hlt'
        obtain ⟨c0, c1'⟩ := hsr.cell b' off' he k hlt'
        cases he
        obtain ⟨s, HS1⟩ : ∃ s, Hid (l[k] = s) := ⟨_, Lib.hid rfl⟩
        rw [HS1.out] at c0 c1'
        have hsl : s.lo.toNat ≤ s.hi.toNat := by rw [← HS1.out]; exact hord _ (List.getElem_mem _)
        have hget : l[k]? = some s := by rw [List.getElem?_eq_getElem hlt', HS1.out]
        have hsn := Lib.hid (spansT_snoc l k s hget)
        have hlen := spansT_length (l.take k)
        rw [List.length_take_of_le (by omega)] at hlen
        obtain ⟨T, HT⟩ : ∃ T, Hid (spansT (l.take k) = T) := ⟨_, Lib.hid rfl⟩
        rw [HT.out] at hok hlen hsn ⊢
        clear hget
        have hb8l := byteT_length s.lo
        have hb8h := byteT_length s.hi
        have hu1 : s.hi.toNat < 256 := s.hi.toNat_lt
        have hi1 : (s.lo.toNat : Int) ≤ (s.hi.toNat : Int) := by omega
        have hi2 : (s.hi.toNat : Int) < 256 := by omega
        have hokX : OwnB (wr.alloc (.cells #[.int .u8 (s.lo.toNat : Int), .int .u8 (s.hi.toNat : Int)] 52)) base ak (n + 1 + T.length) ck (ys ++ [91] ++ T) := World.ownsRow.alloc hok _
        have hBs := Blk.new wr 52 #[.int .u8 (s.lo.toNat : Int), .int .u8 (s.hi.toNat : Int)]
        have hOX := hOk.trans (Grw.alloc base wr ak (.cells #[.int .u8 (s.lo.toNat : Int), .int .u8 (s.hi.toNat : Int)] 52))
        have hbX : base ≤ (wr.alloc (.cells #[.int .u8 (s.lo.toNat : Int), .int .u8 (s.hi.toNat : Int)] 52)).heap.size := Nat.le_trans hbase hOX.only.size
        have hk1 := appendByte_only ak (n + 1 + T.length) ck base s.lo _ _ hokX (by omega) hbX
        have Hk : Hid ((k : Int) + 1 = ((k + 1 : Nat) : Int)) := Lib.hid (by omega)
        clear hok hsr hlt' HS1 hokX
        rcases (show s.hi.toNat = s.lo.toNat ∨ s.hi.toNat = s.lo.toNat + 1 ∨ s.lo.toNat + 1 < s.hi.toNat by omega) with hc | hc | hc
        · have Hsp : Hid (spanT s = byteT s.lo) := Lib.hid (by unfold spanT; rw [if_neg (by omega), if_neg (by omega)]; simp)
          have n1 : ¬ (1 : Int) < (s.hi.toNat : Int) - (s.lo.toNat : Int) := by omega
          have n2 : ¬ (s.lo.toNat : Int) < (s.hi.toNat : Int) := by omega
          clear hc
          go_wp2_with (first
            | (go_at_call 76; (with_reducible refine hk1.mono ?_); rintro e w8 ⟨a8, c8, rfl, ho8, hon8⟩;
               have z0 := (hon8.blk hBs (by decide)).cell 0; have z1 := (hon8.blk hBs (by decide)).cell 1;
               simp only [List.getElem?_cons_zero, List.getElem?_cons_succ] at z0 z1))
          refine ⟨⟨k + 1, a8, c8, by omega, by rw [← Hk.out], ?_, ?_, hOX.trans hon8⟩, by simp [intOf]; omega⟩
          · rw [hsn.out, Hsp.out, List.length_append, Nat.add_assoc (n + 1)]
          · rw [hsn.out, Hsp.out, List.length_append]; simpa [Nat.add_assoc] using ho8
        · have Hsp : Hid (spanT s = byteT s.lo ++ byteT s.hi) := Lib.hid (by unfold spanT; rw [if_neg (by omega), if_pos (by omega)]; simp)
          have n1 : ¬ (1 : Int) < (s.hi.toNat : Int) - (s.lo.toNat : Int) := by omega
          have n2 : (s.lo.toNat : Int) < (s.hi.toNat : Int) := by omega
          clear hc
          go_wp2_with (first
            | (go_at_call 76; (with_reducible refine hk1.mono ?_); rintro e w8 ⟨a8, c8, rfl, ho8, hon8⟩;
               have z0 := (hon8.blk hBs (by decide)).cell 0; have z1 := (hon8.blk hBs (by decide)).cell 1;
               simp only [List.getElem?_cons_zero, List.getElem?_cons_succ] at z0 z1;
               have hk2 := appendByte_only a8 _ c8 base s.hi _ _ ho8 (by omega) (Nat.le_trans hbX hon8.only.size))
            | (go_at_call 76; (with_reducible refine hk2.mono ?_); rintro e w9 ⟨a9, c9, rfl, ho9, hon9⟩))
          refine ⟨⟨k + 1, a9, c9, by omega, by rw [← Hk.out], ?_, ?_, (hOX.trans hon8).trans hon9⟩, by simp [intOf]; omega⟩
          · rw [hsn.out, Hsp.out, List.length_append, List.length_append]; simp [Nat.add_assoc]
          · rw [hsn.out, Hsp.out, List.length_append, List.length_append]; simpa [Nat.add_assoc] using ho9
        · have Hsp : Hid (spanT s = byteT s.lo ++ ([45] ++ byteT s.hi)) := Lib.hid (by unfold spanT; rw [if_pos (by omega), if_pos (by omega)])
          have n1 : (1 : Int) < (s.hi.toNat : Int) - (s.lo.toNat : Int) := by omega
          have n2 : (s.lo.toNat : Int) < (s.hi.toNat : Int) := by omega
          clear hc
          go_wp2_with (first
            | (go_at_call 76; (with_reducible refine hk1.mono ?_); rintro e w8 ⟨a8, c8, rfl, ho8, hon8⟩;
               have z0 := (hon8.blk hBs (by decide)).cell 0; have z1 := (hon8.blk hBs (by decide)).cell 1;
               simp only [List.getElem?_cons_zero, List.getElem?_cons_succ] at z0 z1;
               obtain ⟨a9, c9, w9, hrun9, ho9, hon9⟩ := step_bytes w8 65 ho8 45 (by omega) (Nat.le_trans hbX hon8.only.size) (.int .u8 45) rfl;
               have Hr9 := Lib.hid hrun9; clear hrun9;
               have y0 := (hon9.blk (hon8.blk hBs (by decide)) (by decide)).cell 0; have y1 := (hon9.blk (hon8.blk hBs (by decide)) (by decide)).cell 1;
               simp only [List.getElem?_cons_zero, List.getElem?_cons_succ] at y0 y1;
               have hk2 := appendByte_only a9 _ c9 base s.hi _ _ ho9 (by omega) (Nat.le_trans (Nat.le_trans hbX hon8.only.size) hon9.only.size))
            | (at_builtin; refine wpList_append_run rfl _ _ 65 65 rfl _ _ _ _ rfl rfl Hr9.out ?_)
            | (go_at_call 76; (with_reducible refine hk2.mono ?_); rintro e w7 ⟨a7, c7, rfl, ho7, hon7⟩))
          refine ⟨⟨k + 1, a7, c7, by omega, by rw [← Hk.out], ?_, ?_, ((hOX.trans hon8).trans hon9).trans hon7⟩, by simp [intOf]; omega⟩
          · rw [hsn.out, Hsp.out, List.length_append, List.length_append]; simp [Nat.add_assoc]; omega
          · rw [hsn.out, Hsp.out, List.length_append, List.length_append]; simpa [Nat.add_assoc, Nat.add_comm, Nat.add_left_comm] using ho7
      · obtain rfl : k = L := by omega
        have htk : l.take k = l := by rw [HL.out]; exact List.take_length
        rw [htk] at hok ⊢
        have hlen := spansT_length l
        rw [← HL.out] at hlen
        clear htk
        obtain ⟨a8, c8, w8, hrun8, ho8, hon8⟩ := step_bytes wr 65 hok 93 (by omega) (Nat.le_trans hbase hOk.only.size) (.int .u8 93) rfl
        have Hr8 := Lib.hid hrun8
        clear hrun8
        go_wp2_with (at_builtin; refine wpList_append_run rfl _ _ 65 65 rfl _ _ _ _ rfl rfl Hr8.out ?_)
        go_ret
        have hle2 : (setT l).length = 1 + (spansT l).length + 1 := by rw [Hset.out]; simp; omega
        refine ⟨a8, c8, ?_, ?_, hOk.trans hon8⟩
        · rw [hle2]; simp [Nat.add_assoc]
        · rw [hle2, Hset.out]; simpa [Nat.add_assoc] using ho8
  · have hne : ((L : Int) == 1) = false := by simp; omega
    go_enter Try.func61, Try.ntmps61
    go_wp2_with (fail)
    go_quiet (fail)
    clear hne h1
    have hO := Grw.drewN base w a nq
    have hown1 := hown.drewN nq
    have hb1 : base ≤ (w.drewN nq).heap.size := hbase
    have hs1 := hs.drewN nq
    generalize w.drewN nq = W at hO hown1 hb1 hs1 ⊢
    clear hs hown
    obtain ⟨a1, c1, w1, hrun1, ho1, hon1⟩ := step_bytes W 65 hown1 91 (by omega) hb1 (.int .u8 91) rfl
    have Hr1 := Lib.hid hrun1
    have hs2 := Below.spsB (Only.below hon1.only (Nat.le_refl _) hb1) hs1 hB
    have hb2 : base ≤ w1.heap.size := Nat.le_trans hb1 hon1.only.size
    have hO2 := hO.trans hon1
    clear hrun1 hs1 hown1 hon1 hO
    go_wp2_with (at_builtin; refine wpList_append_run rfl _ _ 65 65 rfl _ _ _ _ rfl rfl Hr1.out ?_)
    clear Hr1 hb1
    go_loopw [0, 32] (fun ov iv wr => ∃ (k : Nat) (ak : Option Addr) (ck : Nat), k ≤ L ∧ iv = .int .i64 (k : Int) ∧ ov = .slice ak (n + 1 + (spansT (l.take k)).length) ck ∧ OwnB wr base ak (n + 1 + (spansT (l.take k)).length) ck (ys ++ [91] ++ spansT (l.take k)) ∧ Grw base w a wr ak) (fun _ i _ => L - (intOf i).toNat)
    case atStart => exact ⟨0, a1, c1, by omega, rfl, by simp [spansT], by simpa [spansT] using ho1, hO2⟩
    case round =>
      obtain ⟨k, ak, ck, hk, rfl, rfl, hok, hOk⟩ := hrel
      by_cases hlt : k < L
      · have hlt' : k < l.length := by rw [← HL.out]; exact hlt
        have hsr := Below.spsB (Only.below hOk.only (Nat.le_refl _) hbase) hsw hB
        obtain ⟨b', off', he⟩ := hs2.at_ k hlt'
        obtain ⟨c0, c1'⟩ := hsr.cell b' off' he k hlt'
        cases he
        obtain ⟨s, HS1⟩ : ∃ s, Hid (l[k] = s) := ⟨_, Lib.hid rfl⟩
        rw [HS1.out] at c0 c1'
        have hsl : s.lo.toNat ≤ s.hi.toNat := by rw [← HS1.out]; exact hord _ (List.getElem_mem _)
        have hget : l[k]? = some s := by rw [List.getElem?_eq_getElem hlt', HS1.out]
        have hsn := Lib.hid (spansT_snoc l k s hget)
        have hlen := spansT_length (l.take k)
        rw [List.length_take_of_le (by omega)] at hlen
        obtain ⟨T, HT⟩ : ∃ T, Hid (spansT (l.take k) = T) := ⟨_, Lib.hid rfl⟩
        rw [HT.out] at hok hlen hsn ⊢
        clear hget
        have hb8l := byteT_length s.lo
        have hb8h := byteT_length s.hi
        have hu1 : s.hi.toNat < 256 := s.hi.toNat_lt
        have hi1 : (s.lo.toNat : Int) ≤ (s.hi.toNat : Int) := by omega
        have hi2 : (s.hi.toNat : Int) < 256 := by omega
        have hokX : OwnB (wr.alloc (.cells #[.int .u8 (s.lo.toNat : Int), .int .u8 (s.hi.toNat : Int)] 52)) base ak (n + 1 + T.length) ck (ys ++ [91] ++ T) := World.ownsRow.alloc hok _
        have hBs := Blk.new wr 52 #[.int .u8 (s.lo.toNat : Int), .int .u8 (s.hi.toNat : Int)]
        have hOX := hOk.trans (Grw.alloc base wr ak (.cells #[.int .u8 (s.lo.toNat : Int), .int .u8 (s.hi.toNat : Int)] 52))
        have hbX : base ≤ (wr.alloc (.cells #[.int .u8 (s.lo.toNat : Int), .int .u8 (s.hi.toNat : Int)] 52)).heap.size := Nat.le_trans hbase hOX.only.size
        have hk1 := appendByte_only ak (n + 1 + T.length) ck base s.lo _ _ hokX (by omega) hbX
        have Hk : Hid ((k : Int) + 1 = ((k + 1 : Nat) : Int)) := Lib.hid (by omega)
        clear hok hsr hlt' HS1 hokX
        rcases (show s.hi.toNat = s.lo.toNat ∨ s.hi.toNat = s.lo.toNat + 1 ∨ s.lo.toNat + 1 < s.hi.toNat by omega) with hc | hc | hc
        · have Hsp : Hid (spanT s = byteT s.lo) := Lib.hid (by unfold spanT; rw [if_neg (by omega), if_neg (by omega)]; simp)
          have n1 : ¬ (1 : Int) < (s.hi.toNat : Int) - (s.lo.toNat : Int) := by omega
          have n2 : ¬ (s.lo.toNat : Int) < (s.hi.toNat : Int) := by omega
          clear hc
          go_wp2_with (first
            | (go_at_call 76; (with_reducible refine hk1.mono ?_); rintro e w8 ⟨a8, c8, rfl, ho8, hon8⟩;
               have z0 := (hon8.blk hBs (by decide)).cell 0; have z1 := (hon8.blk hBs (by decide)).cell 1;
               simp only [List.getElem?_cons_zero, List.getElem?_cons_succ] at z0 z1))
          refine ⟨⟨k + 1, a8, c8, by omega, by rw [← Hk.out], ?_, ?_, hOX.trans hon8⟩, by simp [intOf]; omega⟩
          · rw [hsn.out, Hsp.out, List.length_append, Nat.add_assoc (n + 1)]
          · rw [hsn.out, Hsp.out, List.length_append]; simpa [Nat.add_assoc] using ho8
        · have Hsp : Hid (spanT s = byteT s.lo ++ byteT s.hi) := Lib.hid (by unfold spanT; rw [if_neg (by omega), if_pos (by omega)]; simp)
          have n1 : ¬ (1 : Int) < (s.hi.toNat : Int) - (s.lo.toNat : Int) := by omega
          have n2 : (s.lo.toNat : Int) < (s.hi.toNat : Int) := by omega
          clear hc
          go_wp2_with (first
            | (go_at_call 76; (with_reducible refine hk1.mono ?_); rintro e w8 ⟨a8, c8, rfl, ho8, hon8⟩;
               have z0 := (hon8.blk hBs (by decide)).cell 0; have z1 := (hon8.blk hBs (by decide)).cell 1;
               simp only [List.getElem?_cons_zero, List.getElem?_cons_succ] at z0 z1;
               have hk2 := appendByte_only a8 _ c8 base s.hi _ _ ho8 (by omega) (Nat.le_trans hbX hon8.only.size))
            | (go_at_call 76; (with_reducible refine hk2.mono ?_); rintro e w9 ⟨a9, c9, rfl, ho9, hon9⟩))
          refine ⟨⟨k + 1, a9, c9, by omega, by rw [← Hk.out], ?_, ?_, (hOX.trans hon8).trans hon9⟩, by simp [intOf]; omega⟩
          · rw [hsn.out, Hsp.out, List.length_append, List.length_append]; simp [Nat.add_assoc]
          · rw [hsn.out, Hsp.out, List.length_append, List.length_append]; simpa [Nat.add_assoc] using ho9
        · have Hsp : Hid (spanT s = byteT s.lo ++ ([45] ++ byteT s.hi)) := Lib.hid (by unfold spanT; rw [if_pos (by omega), if_pos (by omega)])
          have n1 : (1 : Int) < (s.hi.toNat : Int) - (s.lo.toNat : Int) := by omega
          have n2 : (s.lo.toNat : Int) < (s.hi.toNat : Int) := by omega
          clear hc
          go_wp2_with (first
            | (go_at_call 76; (with_reducible refine hk1.mono ?_); rintro e w8 ⟨a8, c8, rfl, ho8, hon8⟩;
               have z0 := (hon8.blk hBs (by decide)).cell 0; have z1 := (hon8.blk hBs (by decide)).cell 1;
               simp only [List.getElem?_cons_zero, List.getElem?_cons_succ] at z0 z1;
               obtain ⟨a9, c9, w9, hrun9, ho9, hon9⟩ := step_bytes w8 65 ho8 45 (by omega) (Nat.le_trans hbX hon8.only.size) (.int .u8 45) rfl;
               have Hr9 := Lib.hid hrun9; clear hrun9;
               have y0 := (hon9.blk (hon8.blk hBs (by decide)) (by decide)).cell 0; have y1 := (hon9.blk (hon8.blk hBs (by decide)) (by decide)).cell 1;
               simp only [List.getElem?_cons_zero, List.getElem?_cons_succ] at y0 y1;
               have hk2 := appendByte_only a9 _ c9 base s.hi _ _ ho9 (by omega) (Nat.le_trans (Nat.le_trans hbX hon8.only.size) hon9.only.size))
            | (at_builtin; refine wpList_append_run rfl _ _ 65 65 rfl _ _ _ _ rfl rfl Hr9.out ?_)
            | (go_at_call 76; (with_reducible refine hk2.mono ?_); rintro e w7 ⟨a7, c7, rfl, ho7, hon7⟩))
          refine ⟨⟨k + 1, a7, c7, by omega, by rw [← Hk.out], ?_, ?_, ((hOX.trans hon8).trans hon9).trans hon7⟩, by simp [intOf]; omega⟩
          · rw [hsn.out, Hsp.out, List.length_append, List.length_append]; simp [Nat.add_assoc]; omega
          · rw [hsn.out, Hsp.out, List.length_append, List.length_append]; simpa [Nat.add_assoc, Nat.add_comm, Nat.add_left_comm] using ho7
      · obtain rfl : k = L := by omega
        have htk : l.take k = l := by rw [HL.out]; exact List.take_length
        rw [htk] at hok ⊢
        have hlen := spansT_length l
        rw [← HL.out] at hlen
        clear htk
        obtain ⟨a8, c8, w8, hrun8, ho8, hon8⟩ := step_bytes wr 65 hok 93 (by omega) (Nat.le_trans hbase hOk.only.size) (.int .u8 93) rfl
        have Hr8 := Lib.hid hrun8
        clear hrun8
        go_wp2_with (at_builtin; refine wpList_append_run rfl _ _ 65 65 rfl _ _ _ _ rfl rfl Hr8.out ?_)
        go_ret
        have hle2 : (setT l).length = 1 + (spansT l).length + 1 := by rw [Hset.out]; simp; omega
        refine ⟨a8, c8, ?_, ?_, hOk.trans hon8⟩
        · rw [hle2]; simp [Nat.add_assoc]
        · rw [hle2, Hset.out]; simpa [Nat.add_assoc] using ho8

theorem appendSet_any (a : Option Addr) (n cap base : Nat) (sa : Option Addr) (L sc : Nat) (l : List Sp) (ys : List UInt8) (w : World) (hs : Sps w sa sc l) (hL : L = l.length) (hB : ∀ b off, sa = some ⟨b, off, none⟩ → b < base) (hord : ∀ s ∈ l, s.lo.toNat ≤ s.hi.toNat) (hown : OwnB w base a n cap ys) (hn : n + 9 * L + 4 ≤ 140737488355328) (hbase : base ≤ w.heap.size) :
    Calls Try.prog 61 #[.slice a n cap, .slice sa L sc] w fun e w' => ∃ a' c', e = .returned (.slice a' (n + (setT l).length) c') ∧ OwnB w' base a' (n + (setT l).length) c' (ys ++ setT l) ∧ Grw base w a w' a' := by
  cases hlo : lone l with
  | none => exact appendSet_many a n cap base sa L sc l ys w hs hL hB hlo hord hown hn hbase
  | some c =>
    have hst : setT l = byteT c := by unfold setT; rw [hlo]
    rw [hst]
    obtain ⟨x, rfl, hx, rfl⟩ : ∃ x, l = [x] ∧ x.lo = x.hi ∧ c = x.lo := by
      match l with
      | [] => simp [lone] at hlo
      | [x] =>
        by_cases hx : x.lo = x.hi
        · simp only [lone, if_pos hx, Option.some.injEq] at hlo
          exact ⟨x, rfl, hx, hlo.symm⟩
        · simp [lone, hx] at hlo
      | _ :: _ :: _ => simp [lone] at hlo
    subst hL
    exact appendSet_lone a n cap base sa sc x ys w hs hx hown (by omega) hbase
end Go.Proofs.Ytkdfobnkebkpfaa

/- An expression's text, as a plain function. -/
namespace Go.Proofs.Ytkdfobnkebkpfaa
open Go.RowKit

def repT (k : Int) : UInt8 := if k = 5 then 42 else if k = 6 then 43 else 63
/-- What an expression's text is, given its parts' together. -/
def nodeT (h : Hd) (body : List UInt8) : List UInt8 :=
  if h.k = 1 then [40, 41] else if h.k = 2 then setT h.set else body ++ (if 5 ≤ h.k then [repT h.k] else [])
/-- A part of an expression of kind k. -/
def partT (k : Int) (h : Hd) (t : List UInt8) : List UInt8 := if h.k = 4 ∨ (h.k = 3 ∧ k ≠ 4) then 40 :: (t ++ [41]) else t
/-- The parts of an expression of kind k, one behind the other. -/
def textF : Fo → Int → Bool → List UInt8
  | .nil, _, _ => []
  | .cons h kids rest, k, first => (if k = 4 ∧ first = false then [124] else []) ++ (partT k h (nodeT h (textF kids h.k true)) ++ textF rest k false)
/-- An expression's text. -/
def textOf (h : Hd) (kids : Fo) : List UInt8 := nodeT h (textF kids h.k true)

/-- Every expression has just what its kind has. -/
def okF : Fo → Prop
  | .nil => True
  | .cons h kids rest => plainB h kids.len = true ∧ okF kids ∧ okF rest
/-- How much room is surely enough. -/
def wtT : Fo → Nat
  | .nil => 0
  | .cons h kids rest => 9 * h.set.length + 12 + wtT kids + wtT rest

theorem nodeT_length (h : Hd) (b : List UInt8) : (nodeT h b).length ≤ 9 * h.set.length + 5 + b.length := by
  have := setT_length h.set
  unfold nodeT
  repeat' split
  all_goals simp
  all_goals omega
theorem partT_length (k : Int) (h : Hd) (t : List UInt8) : (partT k h t).length ≤ t.length + 2 := by
  unfold partT
  split
  all_goals simp
theorem textF_length : ∀ (f : Fo) (k : Int) (b : Bool), (textF f k b).length ≤ wtT f := by
  intro f
  induction f with
  | nil => intro k b; simp [textF]
  | cons h kids rest ihk ihr =>
    intro k b
    have h1 := ihk h.k true
    have h2 := ihr k false
    have h3 := nodeT_length h (textF kids h.k true)
    have h4 := partT_length k h (nodeT h (textF kids h.k true))
    have h5 : (if k = 4 ∧ b = false then ([124] : List UInt8) else []).length ≤ 1 := by split <;> simp
    simp only [textF, wtT, List.length_append]
    omega
theorem textOf_length (h : Hd) (kids : Fo) : (textOf h kids).length ≤ 9 * h.set.length + 5 + wtT kids := by
  have h1 := textF_length kids h.k true
  have h2 := nodeT_length h (textF kids h.k true)
  unfold textOf; omega

/-- The parts up to the j-th. -/
def Fo.take : Nat → Fo → Fo
  | 0, _ => .nil
  | _ + 1, .nil => .nil
  | k + 1, .cons h kids rest => .cons h kids (rest.take k)
theorem textF_snoc : ∀ (j : Nat) (f : Fo) (k : Int) (b : Bool) (h : Hd) (kids rest : Fo), f.drop j = .cons h kids rest →
    textF (f.take (j + 1)) k b = textF (f.take j) k b ++ ((if k = 4 ∧ (b = false ∨ 0 < j) then [124] else []) ++ partT k h (textOf h kids)) := by
  intro j
  induction j with
  | zero =>
    intro f k b h kids rest e
    simp only [Fo.drop] at e
    subst e
    simp [Fo.take, textF, textOf]
  | succ j ih =>
    intro f k b h kids rest e
    cases f with
    | nil => simp [Fo.drop] at e
    | cons h' kids' rest' =>
      simp only [Fo.drop] at e
      have := ih rest' k false h kids rest e
      simp only [Fo.take, textF] at this ⊢
      rw [this]
      simp
theorem Fo.take_all : ∀ (j : Nat) (f : Fo), f.len ≤ j → f.take j = f := by
  intro j
  induction j with
  | zero => intro f h; cases f with
    | nil => rfl
    | cons h' k r => simp [Fo.len] at h
  | succ j ih => intro f h; cases f with
    | nil => rfl
    | cons h' k r => simp only [Fo.take]; rw [ih r (by simp [Fo.len] at h; omega)]
theorem okF_drop : ∀ (j : Nat) (f : Fo), okF f → okF (f.drop j) := by
  intro j
  induction j with
  | zero => intro f h; exact h
  | succ j ih => intro f h; cases f with
    | nil => trivial
    | cons h' k r => exact ih r h.2.2
theorem wtT_drop : ∀ (j : Nat) (f : Fo), wtT (f.take j) + wtT (f.drop j) = wtT f := by
  intro j
  induction j with
  | zero => intro f; simp [Fo.take, Fo.drop, wtT]
  | succ j ih => intro f; cases f with
    | nil => rfl
    | cons h' k r => have := ih r; simp only [Fo.take, Fo.drop, wtT]; omega

/-- Spans in order are none of them empty. -/
theorem ordB_le {l : List Sp} (h : ordB l = true) : ∀ s ∈ l, s.lo.toNat ≤ s.hi.toNat := by
  intro s hs
  obtain ⟨i, hi, e⟩ := List.mem_iff_getElem.1 hs
  unfold ordB ordK at h
  rw [List.all_eq_true] at h
  have := h i (by simpa using hi)
  unfold okAt at this
  rw [List.getElem?_eq_getElem hi] at this
  simp only [e, Bool.and_eq_true, decide_eq_true_eq] at this
  exact this.1
end Go.Proofs.Ytkdfobnkebkpfaa
