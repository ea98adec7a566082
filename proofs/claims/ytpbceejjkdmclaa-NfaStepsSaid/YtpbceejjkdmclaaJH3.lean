/- Texts of layer 2 joined: Hc. -/
import Derived.Test.YtpbceejjkdmclaaJH1
import Derived.Test.YtpbceejjkdmclaaJM
set_option linter.unusedVariables false
set_option linter.unusedSimpArgs false
/- Layer 3: has, step's closure, behind. -/
namespace Go.Proofs.Ytpbceejjkdmclaa
open Go.RowKit Go.Shelf

attribute [local go_sem] Oper.semAt_some

set_option maxRecDepth 100000 in
set_option maxHeartbeats 1000000 in
theorem nhas_any (a : Option Addr) (ac : Nat) (l : List Sp) (c : Nat) (hc : c < 256) (w : World) (hl : Sps w a ac l) :
    Calls Try.prog 67 #[.slice a l.length ac, .int .u8 (c : Int)] w fun e w' => e = .returned (.bool (inSp l c)) ∧ Below w.heap.size w w' := by
  have hle := hl.le
  have hmx := hl.max
  obtain ⟨L, HL⟩ : ∃ L, Hid (l.length = L) := ⟨_, Lib.hid rfl⟩
  rw [HL.out] at hle ⊢
  go_enter Try.func67, Try.ntmps67
  go_wp2_with (fail)
  go_loopw [6, 9] (fun _ i wr => ∃ (k : Nat), k ≤ L ∧ i = .int .i64 (k : Int) ∧ inSp (l.take k) c = false ∧ Below w.heap.size w wr) (fun _ i _ => L - (intOf i).toNat)
  case atStart => exact ⟨0, by omega, rfl, rfl, Below.refl _ w⟩
  case round =>
    obtain ⟨k, hk, rfl, hr, hbr⟩ := hrel
    have HR := Lib.hid hr
    clear hr
    by_cases hlt : k < L
    · have hkl : k < l.length := by rw [HL.out]; exact hlt
      obtain ⟨b1, o1, rfl⟩ := hl.at_ k hkl
      obtain ⟨c0, c1⟩ := (hl.grown hbr).cell b1 o1 rfl k hkl
      obtain ⟨s, HS⟩ : ∃ s, Hid (l[k] = s) := ⟨_, Lib.hid rfl⟩
      rw [HS.out] at c0 c1
      have hlw : b1 < wr.heap.size := World.block_lt_of_cell? wr _ c0
      have hmore : Hid (inSp (l.take (k + 1)) c = (inSp (l.take k) c || decide (s.lo.toNat ≤ c ∧ c ≤ s.hi.toNat))) := Lib.hid (inSp_snoc l k s (by rw [List.getElem?_eq_getElem hkl, HS.out]) c)
      have hall : Hid (s.lo.toNat ≤ c → c ≤ s.hi.toNat → inSp l c = true) := Lib.hid (fun h1 h2 => by
        unfold inSp
        rw [List.any_eq_true]
        exact ⟨s, HS.out ▸ List.getElem_mem _, decide_eq_true ⟨h1, h2⟩⟩)
      have hbn : Below w.heap.size w (wr.alloc (.cells #[.int .u8 (s.lo.toNat : Int), .int .u8 (s.hi.toNat : Int)] 79)) := hbr.alloc hbr.size _
      clear hl
      by_cases h1 : s.lo.toNat ≤ c
      · have h1I : (s.lo.toNat : Int) ≤ (c : Int) := by omega
        by_cases h2 : c ≤ s.hi.toNat
        · have h2I : (c : Int) ≤ (s.hi.toNat : Int) := by omega
          go_wp2_with (fail)
          exact bodyPost_ret (v := .bool true) (by simp [results, Try.results67, go_sem]; try rfl) rfl ⟨ret_bool (hall.out h1 h2).symm, hbn⟩
        · have h2I : ¬ (c : Int) ≤ (s.hi.toNat : Int) := by omega
          go_wp2_with (fail)
          go_roundw
          case rel => exact ⟨k + 1, by omega, by go_num, by rw [hmore.out, HR.out, decide_eq_false (by omega)]; rfl, hbn⟩
          case measure => simp [intOf]; omega
      · have h1I : ¬ (s.lo.toNat : Int) ≤ (c : Int) := by omega
        go_wp2_with (fail)
        go_roundw
        case rel => exact ⟨k + 1, by omega, by go_num, by rw [hmore.out, HR.out, decide_eq_false (by omega)]; rfl, hbn⟩
        case measure => simp [intOf]; omega
    · obtain rfl : k = L := by omega
      have hF : Hid (inSp l c = false) := Lib.hid (by have := HR.out; rwa [List.take_of_length_le (by rw [HL.out]; exact Nat.le_refl _)] at this)
      go_wp2_with (fail)
      exact bodyPost_ret (v := .bool false) (by simp [results, Try.results67, go_sem]; try rfl) rfl ⟨ret_bool hF.out.symm, hbr⟩

set_option maxRecDepth 100000 in
set_option maxHeartbeats 1000000 in
theorem byThis_any (e : Eg) (sa : Option Addr) (sc bc : Nat) (c : Nat) (hc : c < 256) (w : World) (hs : Sps w sa sc e.q) (h0 : w.cell? ⟨bc, 0, none⟩ = some (.int .u8 (c : Int))) :
    Calls Try.prog 66 #[.agg #[.int .i64 e.f, .int .i64 e.t, .slice sa e.q.length sc], .pointer (some ⟨bc, 0, none⟩)] w fun r w' => r = .returned (.bool (inSp e.q c)) ∧ Below w.heap.size w w' := by
  have hA0 := Blk.new w 29 #[.int .i64 e.f, .int .i64 e.t, .slice sa e.q.length sc]
  have hb0 : Below w.heap.size w (w.alloc (.cells #[.int .i64 e.f, .int .i64 e.t, .slice sa e.q.length sc] 29)) := (Below.refl _ w).alloc (Nat.le_refl _) _
  have Hc := Lib.hid (nhas_any sa sc e.q c hc _ (hs.grown hb0))
  have h0l := World.block_lt_of_cell? w _ h0
  have hsm := hs.max
  have hsl := hs.le
  have x0 := hA0.cell 0
  have x1 := hA0.cell 1
  have x2 := hA0.cell 2
  have xl := hA0.lt
  simp only [List.getElem?_cons_zero, List.getElem?_cons_succ] at x0 x1 x2
  generalize inSp e.q c = R at Hc ⊢
  go_enter Try.func66, Try.ntmps66
  go_wp2_with (fail)
  refine Hc.out.mono ?_
  rintro r w1 ⟨rfl, hb1⟩
  have hb01 := hb0.trans (hb1.mono hb0.size)
  go_wp2_with (fail)
  exact bodyPost_ret (v := .bool R) (by simp [results, Try.results66, go_sem]; try first | rfl | assumption | omega) rfl ⟨rfl, hb01⟩

set_option maxRecDepth 100000 in
set_option maxHeartbeats 1000000 in
theorem behind_any (wb : Nat) (fi : Nat) (lb : Array Value) (s : Int) (w : World) :
    Calls Try.prog 65 #[.pointer (some ⟨wb, 0, none⟩), .int .i64 s, .func (.func fi) #[] lb] w fun e w' => e = .returned (.func (.func 80) #[] #[.pointer (some ⟨w.heap.size, 0, none⟩), .pointer (some ⟨w.heap.size + 1, 0, none⟩), .pointer (some ⟨w.heap.size + 2, 0, none⟩)]) ∧ w' = ((w.alloc (.cells #[.pointer (some ⟨wb, 0, none⟩)] 68)).alloc (.cells #[.int .i64 s] 3)).alloc (.cells #[.func (.func fi) #[] lb] 54) := by
  go_enter Try.func65, Try.ntmps65
  go_wp2
  go_ret
  exact ⟨rfl, rfl⟩
end Go.Proofs.Ytpbceejjkdmclaa
