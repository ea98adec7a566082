/- Layer 7: the chapter's examples. -/
import Derived.Test.YtoaabfdilhbajaaXu
import Derived.Test.YtoaabfdilhbajaaXm
namespace Go.Proofs.Ytoaabfdilhbajaa
open Go.RowKit Go.Shelf

attribute [local go_sem] Oper.semAt_some

theorem live_p1 : parseP ⟨#[83, 32, 61, 32, 97, 32, 83, 32, 98, 32, 124, 32, 59]⟩ = ([(⟨#[83]⟩, [[⟨#[97]⟩, ⟨#[83]⟩, ⟨#[98]⟩], []])], 0, 0) := by kernel_rfl
theorem live_p2 : parseP ⟨#[83, 32, 61, 32, 97]⟩ = ([], 5, 70) := by kernel_rfl
def lvD (n : Nat) : List RlD := [⟨⟨#[83]⟩, [⟨[⟨#[97]⟩, ⟨#[83]⟩, ⟨#[98]⟩], some ⟨n, 0, none⟩, 3⟩, ⟨[], some ⟨n + 1, 0, none⟩, 0⟩], some ⟨n + 1 + 1, 0, none⟩, 2⟩]
theorem lv_ck (n : Nat) : chkG (lvD n) = 0 := by rfl
theorem lv_tx (n : Nat) : txG (lvD n) = ⟨#[83, 32, 61, 32, 97, 32, 83, 32, 98, 32, 124, 32, 59, 10]⟩ := by
  unfold txG
  rw [lv_ck, if_pos rfl]
  rfl
theorem lv_gr (n : Nat) : grP (lvD n) = [(⟨#[83]⟩, [[⟨#[97]⟩, ⟨#[83]⟩, ⟨#[98]⟩], []])] := by rfl

theorem vs_new (w : World) (e : TypeId) (l : List Value) (n : Nat) (h : l.length ≤ n) (hm : n ≤ 9223372036854775807) : Vs (w.alloc (.cells l.toArray e)) (some ⟨w.heap.size, 0, none⟩) n l :=
  ⟨h, hm, fun e => (by cases e), fun _ _ => ⟨_, _, rfl⟩, fun b off e' i hi => by
    cases e'
    have := (Blk.new w e l.toArray).cell i
    rw [List.getElem?_eq_getElem hi] at this
    rw [Nat.zero_add]
    exact this⟩
theorem vs_none (w : World) (b off : Nat) : Vs w (some ⟨b, off, none⟩) 0 [] := ⟨Nat.le_refl _, by omega, fun e => (by cases e), fun i h => by simp at h, fun _ _ _ i h => by simp at h⟩
theorem hs1 (w : World) (o : Obj) : (w.alloc o).heap.size = w.heap.size + 1 := by simp [go_sem]
theorem up1 (w : World) (o : Obj) : Below w.heap.size w (w.alloc o) := (Below.refl _ w).alloc (Nat.le_refl _) _
theorem up1' (w v : World) (o : Obj) (h : Below w.heap.size w v) : Below w.heap.size w (v.alloc o) := h.alloc h.size _

theorem lv_at (w : World) : Rls (((((w.alloc (.cells #[.string ⟨#[97]⟩, .string ⟨#[83]⟩, .string ⟨#[98]⟩] 9)).alloc (.cells #[] 9)).alloc (.cells #[.slice (some ⟨w.heap.size, 0, none⟩) 3 3, .slice (some ⟨w.heap.size + 1, 0, none⟩) 0 0] 37)).alloc (.cells #[.string ⟨#[83]⟩, .slice (some ⟨w.heap.size + 1 + 1, 0, none⟩) 2 2] 40)).alloc (.cells #[.slice (some ⟨w.heap.size + 1 + 1 + 1, 0, none⟩) 1 1] 24)) (some ⟨w.heap.size + 1 + 1 + 1, 0, none⟩) 1 (lvD w.heap.size) := by
  have e2 : (w.alloc (.cells #[.string ⟨#[97]⟩, .string ⟨#[83]⟩, .string ⟨#[98]⟩] 9)).heap.size = w.heap.size + 1 := hs1 _ _
  have e3 : ((w.alloc (.cells #[.string ⟨#[97]⟩, .string ⟨#[83]⟩, .string ⟨#[98]⟩] 9)).alloc (.cells #[] 9)).heap.size = w.heap.size + 1 + 1 := by rw [hs1, e2]
  have e4 : (((w.alloc (.cells #[.string ⟨#[97]⟩, .string ⟨#[83]⟩, .string ⟨#[98]⟩] 9)).alloc (.cells #[] 9)).alloc (.cells #[.slice (some ⟨w.heap.size, 0, none⟩) 3 3, .slice (some ⟨w.heap.size + 1, 0, none⟩) 0 0] 37)).heap.size = w.heap.size + 1 + 1 + 1 := by rw [hs1, e3]
  have v1 := vs_new w 9 [.string ⟨#[97]⟩, .string ⟨#[83]⟩, .string ⟨#[98]⟩] 3 (by simp) (by omega)
  have v3 := vs_new ((w.alloc (.cells #[.string ⟨#[97]⟩, .string ⟨#[83]⟩, .string ⟨#[98]⟩] 9)).alloc (.cells #[] 9)) 37 [.slice (some ⟨w.heap.size, 0, none⟩) 3 3, .slice (some ⟨w.heap.size + 1, 0, none⟩) 0 0] 2 (by simp) (by omega)
  rw [e3] at v3
  have b13 := up1' _ _ (.cells #[.slice (some ⟨w.heap.size, 0, none⟩) 3 3, .slice (some ⟨w.heap.size + 1, 0, none⟩) 0 0] 37) (up1 (w.alloc (.cells #[.string ⟨#[97]⟩, .string ⟨#[83]⟩, .string ⟨#[98]⟩] 9)) (.cells #[] 9))
  have b3 := up1 (((w.alloc (.cells #[.string ⟨#[97]⟩, .string ⟨#[83]⟩, .string ⟨#[98]⟩] 9)).alloc (.cells #[] 9)).alloc (.cells #[.slice (some ⟨w.heap.size, 0, none⟩) 3 3, .slice (some ⟨w.heap.size + 1, 0, none⟩) 0 0] 37)) (.cells #[.string ⟨#[83]⟩, .slice (some ⟨w.heap.size + 1 + 1, 0, none⟩) 2 2] 40)
  have al : Alts ((((w.alloc (.cells #[.string ⟨#[97]⟩, .string ⟨#[83]⟩, .string ⟨#[98]⟩] 9)).alloc (.cells #[] 9)).alloc (.cells #[.slice (some ⟨w.heap.size, 0, none⟩) 3 3, .slice (some ⟨w.heap.size + 1, 0, none⟩) 0 0] 37)).alloc (.cells #[.string ⟨#[83]⟩, .slice (some ⟨w.heap.size + 1 + 1, 0, none⟩) 2 2] 40)) (some ⟨w.heap.size + 1 + 1, 0, none⟩) 2 [⟨[⟨#[97]⟩, ⟨#[83]⟩, ⟨#[98]⟩], some ⟨w.heap.size, 0, none⟩, 3⟩, ⟨[], some ⟨w.heap.size + 1, 0, none⟩, 0⟩] := by
    refine Alts.grown ⟨v3, fun d hd => ?_⟩ b3
    rcases List.mem_cons.1 hd with rfl | hd
    · exact Vs.grown v1 b13
    · rcases List.mem_cons.1 hd with rfl | hd
      · exact vs_none _ _ _
      · cases hd
  have c := Blk.new (((w.alloc (.cells #[.string ⟨#[97]⟩, .string ⟨#[83]⟩, .string ⟨#[98]⟩] 9)).alloc (.cells #[] 9)).alloc (.cells #[.slice (some ⟨w.heap.size, 0, none⟩) 3 3, .slice (some ⟨w.heap.size + 1, 0, none⟩) 0 0] 37)) 40 #[.string ⟨#[83]⟩, .slice (some ⟨w.heap.size + 1 + 1, 0, none⟩) 2 2]
  have c0 := c.cell 0
  have c1 := c.cell 1
  rw [e4] at c0 c1
  refine Rls.grown (w := ((((w.alloc (.cells #[.string ⟨#[97]⟩, .string ⟨#[83]⟩, .string ⟨#[98]⟩] 9)).alloc (.cells #[] 9)).alloc (.cells #[.slice (some ⟨w.heap.size, 0, none⟩) 3 3, .slice (some ⟨w.heap.size + 1, 0, none⟩) 0 0] 37)).alloc (.cells #[.string ⟨#[83]⟩, .slice (some ⟨w.heap.size + 1 + 1, 0, none⟩) 2 2] 40))) ⟨Nat.le_refl _, by omega, fun e => (by cases e), fun _ _ => ⟨_, _, rfl⟩, fun b off e i hi => ?_, fun r hr => ?_⟩ (up1 _ _)
  · cases e
    obtain rfl : i = 0 := by simp [lvD] at hi; omega
    exact ⟨c0, c1⟩
  · rcases List.mem_cons.1 hr with rfl | hr
    · exact al
    · cases hr
theorem lv_box (w : World) : (((((w.alloc (.cells #[.string ⟨#[97]⟩, .string ⟨#[83]⟩, .string ⟨#[98]⟩] 9)).alloc (.cells #[] 9)).alloc (.cells #[.slice (some ⟨w.heap.size, 0, none⟩) 3 3, .slice (some ⟨w.heap.size + 1, 0, none⟩) 0 0] 37)).alloc (.cells #[.string ⟨#[83]⟩, .slice (some ⟨w.heap.size + 1 + 1, 0, none⟩) 2 2] 40)).alloc (.cells #[.slice (some ⟨w.heap.size + 1 + 1 + 1, 0, none⟩) 1 1] 24)).cell? ⟨w.heap.size + 1 + 1 + 1 + 1, 0, none⟩ = some (.slice (some ⟨w.heap.size + 1 + 1 + 1, 0, none⟩) 1 1) ∧ Below w.heap.size w (((((w.alloc (.cells #[.string ⟨#[97]⟩, .string ⟨#[83]⟩, .string ⟨#[98]⟩] 9)).alloc (.cells #[] 9)).alloc (.cells #[.slice (some ⟨w.heap.size, 0, none⟩) 3 3, .slice (some ⟨w.heap.size + 1, 0, none⟩) 0 0] 37)).alloc (.cells #[.string ⟨#[83]⟩, .slice (some ⟨w.heap.size + 1 + 1, 0, none⟩) 2 2] 40)).alloc (.cells #[.slice (some ⟨w.heap.size + 1 + 1 + 1, 0, none⟩) 1 1] 24)) := by
  have e5 : ((((w.alloc (.cells #[.string ⟨#[97]⟩, .string ⟨#[83]⟩, .string ⟨#[98]⟩] 9)).alloc (.cells #[] 9)).alloc (.cells #[.slice (some ⟨w.heap.size, 0, none⟩) 3 3, .slice (some ⟨w.heap.size + 1, 0, none⟩) 0 0] 37)).alloc (.cells #[.string ⟨#[83]⟩, .slice (some ⟨w.heap.size + 1 + 1, 0, none⟩) 2 2] 40)).heap.size = w.heap.size + 1 + 1 + 1 + 1 := by rw [hs1, hs1, hs1, hs1]
  have c := (Blk.new ((((w.alloc (.cells #[.string ⟨#[97]⟩, .string ⟨#[83]⟩, .string ⟨#[98]⟩] 9)).alloc (.cells #[] 9)).alloc (.cells #[.slice (some ⟨w.heap.size, 0, none⟩) 3 3, .slice (some ⟨w.heap.size + 1, 0, none⟩) 0 0] 37)).alloc (.cells #[.string ⟨#[83]⟩, .slice (some ⟨w.heap.size + 1 + 1, 0, none⟩) 2 2] 40)) 24 #[.slice (some ⟨w.heap.size + 1 + 1 + 1, 0, none⟩) 1 1]).cell 0
  rw [e5] at c
  exact ⟨c, up1' _ _ _ (up1' _ _ _ (up1' _ _ _ (up1' _ _ _ (up1 _ _))))⟩

set_option maxRecDepth 100000 in
set_option maxHeartbeats 4000000 in
theorem live7_any (w : World) :
    Calls Try.prog 8 #[] w fun e w' => e = .returned (.bool true) ∧ Below w.heap.size w w' := by
  have H1 : Hid (∀ V : World, Calls Try.prog 16 #[.string ⟨#[83, 32, 61, 32, 97, 32, 83, 32, 98, 32, 124, 32, 59]⟩] V (PaQ V ([(⟨#[83]⟩, [[⟨#[97]⟩, ⟨#[83]⟩, ⟨#[98]⟩], []])], 0, 0))) := Lib.hid (fun V => by rw [← live_p1]; exact parse_any _ V)
  have H2 : Hid (∀ V : World, Calls Try.prog 16 #[.string ⟨#[83, 32, 61, 32, 97]⟩] V (PaQ V ([], 5, 70))) := Lib.hid (fun V => by rw [← live_p2]; exact parse_any _ V)
  have HL := Lib.hid (lv_at w)
  obtain ⟨hbox, hbW⟩ := lv_box w
  go_enter Try.func8, Try.ntmps8
  go_wp2_with (fail)
  generalize hW : World.alloc (World.alloc (World.alloc (World.alloc (World.alloc w _) _) _) _) _ = W at HL hbox hbW ⊢
  clear hW
  obtain ⟨n, hn⟩ : ∃ n, Hid (w.heap.size = n) := ⟨_, Lib.hid rfl⟩
  rw [hn.out] at HL hbox
  simp only [hn.out]
  obtain ⟨BX, hBX⟩ : ∃ q, Hid (n + 1 + 1 + 1 + 1 = q) := ⟨_, Lib.hid rfl⟩
  rw [hBX.out] at hbox
  simp only [hBX.out]
  refine (H1.out W).mono ?_
  rintro e w1 ⟨rs, a, cap, rfl, hg, hrs, hb1⟩
  have Hg := Lib.hid hg
  have hrl : rs.length = 1 := by have := congrArg List.length hg; unfold grP at this; rwa [List.length_map] at this
  have hcap : 1 ≤ cap ∧ cap ≤ 9223372036854775807 := ⟨by have := hrs.le; omega, hrs.max⟩
  rw [hrl]
  have Hrl := Lib.hid hrl
  have Hrs := Lib.hid hrs
  clear hg hrs hrl
  have x1 := cell_up hb1 hbox
  have xl := World.block_lt_of_cell? _ _ x1
  have hB := Blk.new w1 24 #[.slice a 1 cap]
  have hb2 := up1' _ _ (.cells #[.slice a 1 cap] 24) hb1
  have y0 := hB.cell 0
  have yl := hB.lt
  simp only [List.getElem?_cons_zero] at y0
  dsimp only
  go_wp2_with (fail)
  generalize hV2 : World.alloc w1 _ = V2 at y0 yl hb2 ⊢
  have x2 : V2.cell? ⟨BX, 0, none⟩ = some (.slice (some ⟨n + 1 + 1 + 1, 0, none⟩) 1 1) := by rw [← hV2]; exact cell_up (up1 _ _) x1
  have Hrs2 : Hid (Rls V2 a cap rs) := Lib.hid (by rw [← hV2]; exact Hrs.out.grown (up1 _ _))
  clear hV2 hB Hrs
  obtain ⟨GB, hGB⟩ : ∃ q, Hid (w1.heap.size = q) := ⟨_, Lib.hid rfl⟩
  rw [hGB.out] at y0 yl
  simp only [hGB.out]
  refine (H2.out V2).mono ?_
  rintro e w3 ⟨rs2, a2, cap2, rfl, hg2, hrs2, hb3⟩
  have x3 := cell_up hb3 x2
  have y3 := cell_up hb3 y0
  have Hrs3 := Lib.hid (Hrs2.out.grown hb3)
  have hrl2 : rs2.length = 0 := by have := congrArg List.length hg2; unfold grP at this; rwa [List.length_map] at this
  rw [hrl2]
  have xl3 := World.block_lt_of_cell? _ _ x3
  have yl3 := World.block_lt_of_cell? _ _ y3
  have hb4 := hb2.trans (hb3.mono hb2.size)
  have hb5 := up1' _ _ (.cells #[.slice a2 0 cap2] 24) hb4
  have HLV := Lib.hid (HL.out.grown hb5)
  have htx := gtext_any (lvD n) (some ⟨n + 1 + 1 + 1, 0, none⟩) 1 _ HLV.out
  rw [lv_ck, lv_tx, show (lvD n).length = 1 from rfl] at htx
  have Htx := Lib.hid htx
  clear hg2 hrs2 hrl2 htx Hrs2 x2 y0
  dsimp only
  go_wp2_with (fail)
  refine Htx.out.mono ?_
  rintro e w5 ⟨rfl, hb6⟩
  have x5 := cell_up hb6 (cell_up (up1 _ _) x3)
  have y5 := cell_up hb6 (cell_up (up1 _ _) y3)
  have xl5 := World.block_lt_of_cell? _ _ x5
  have yl5 := World.block_lt_of_cell? _ _ y5
  have Hrs5 := Lib.hid ((Hrs3.out.grown (up1 _ (.cells #[.slice a2 0 cap2] 24))).grown hb6)
  have HL5 := Lib.hid (HLV.out.grown hb6)
  have hb7 := hb5.trans (hb6.mono hb5.size)
  have hs1' := refGSame_any a (some ⟨n + 1 + 1 + 1, 0, none⟩) cap 1 rs (lvD n) w5 Hrs5.out HL5.out
  rw [Hrl.out, show (lvD n).length = 1 from rfl, Hg.out, lv_gr, decide_eq_true rfl] at hs1'
  have HS1 := Lib.hid hs1'
  clear hs1'
  go_wp2_with (fail)
  refine HS1.out.mono ?_
  rintro e w6 ⟨rfl, hb8⟩
  have x6 := cell_up hb8 x5
  have y6 := cell_up hb8 y5
  have xl6 := World.block_lt_of_cell? _ _ x6
  have yl6 := World.block_lt_of_cell? _ _ y6
  have hb9 := hb7.trans (hb8.mono hb7.size)
  have hs2' := gsame_any a (some ⟨n + 1 + 1 + 1, 0, none⟩) cap 1 rs (lvD n) w6 (Hrs5.out.grown hb8) (HL5.out.grown hb8)
  rw [Hrl.out, show (lvD n).length = 1 from rfl, Hg.out, lv_gr, decide_eq_true rfl] at hs2'
  have HS2 := Lib.hid hs2'
  clear hs2' HS1
  go_wp2_with (fail)
  refine HS2.out.mono ?_
  rintro e w7 ⟨rfl, hb10⟩
  have hb11 := hb9.trans (hb10.mono hb9.size)
  go_wp2_with (fail)
  exact bodyPost_ret (v := .bool true) (by simp [results, Try.results8, go_sem]; try first | rfl | assumption | omega) rfl ⟨rfl, hbW.trans (hb11.mono hbW.size)⟩
end Go.Proofs.Ytoaabfdilhbajaa
