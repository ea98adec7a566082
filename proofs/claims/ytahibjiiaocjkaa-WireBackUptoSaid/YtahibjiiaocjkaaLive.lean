/- The chapter's examples hold: live() answers true. -/
import Derived.Test.YtahibjiiaocjkaaEncode
import Derived.Lib.SlBytesConst
namespace Go.Proofs.Ytahibjiiaocjkaa
open Go.RowKit

set_option maxHeartbeats 400000 in
theorem num1_any (n : Int) (w : World) : Calls Try.prog 31 #[.int .i64 n] w fun e w' => e = .returned (itemV ⟨1, n, ByteArray.empty⟩ none 0 0) ∧ w.grownBy w' none := by
  go_enter Try.func31, Try.ntmps31
  go_wp2
  exact bodyPost_ret (v := itemV ⟨1, n, ByteArray.empty⟩ none 0 0) (by simp [results, Try.results31, go_sem]; try rfl) rfl ⟨rfl, World.grownBy_alloc w _ none⟩
theorem text1_any (s : ByteArray) (w : World) : Calls Try.prog 32 #[.string s] w fun e w' => e = .returned (itemV ⟨2, 0, s⟩ none 0 0) ∧ w.grownBy w' none := by
  go_enter Try.func32, Try.ntmps32
  go_wp2
  exact bodyPost_ret (v := itemV ⟨2, 0, s⟩ none 0 0) (by simp [results, Try.results32, go_sem]; try rfl) rfl ⟨rfl, World.grownBy_alloc w _ none⟩
theorem list1_any (a : Option Addr) (n c : Nat) (w : World) : Calls Try.prog 30 #[.slice a n c] w fun e w' => e = .returned (itemV ⟨3, 0, ByteArray.empty⟩ a n c) ∧ w.grownBy w' none := by
  go_enter Try.func30, Try.ntmps30
  go_wp2
  exact bodyPost_ret (v := itemV ⟨3, 0, ByteArray.empty⟩ a n c) (by simp [results, Try.results30, go_sem]; try rfl) rfl ⟨rfl, World.grownBy_alloc w _ none⟩
def exNum : List Nd := Fo.pre 1 (.cons ⟨1, 1, ByteArray.empty⟩ .nil .nil)
def exKids : Fo := .cons ⟨2, 0, ⟨#[97, 98]⟩⟩ .nil (.cons ⟨3, 0, ByteArray.empty⟩ .nil .nil)
def exList : List Nd := Fo.pre 1 (.cons ⟨3, 0, ByteArray.empty⟩ exKids .nil)
theorem exNum_enc : encB exNum = [1, 0, 0, 0, 0, 0, 0, 0, 1] := by decide +kernel
theorem exNum_chk : checkE exNum = 0 := by decide +kernel
theorem exList_enc : encB exList = [3, 2, 2, 2, 97, 98, 3, 0] := by decide +kernel
theorem exList_chk : checkE exList = 0 := by decide +kernel
theorem exSum : (crc [49, 50, 51, 52, 53, 54, 55, 56, 57]).toNat = 3421780262 := by decide +kernel
theorem exSeal : (sealed []).length = 8 := by decide +kernel

theorem enc_num (w : World) : Calls Try.prog 20 #[itemV ⟨1, 1, ByteArray.empty⟩ none 0 0] w fun e w' => ∃ a c, e = .returned (.tuple #[.slice a 9 c, .int .i64 0]) ∧ OwnB w' w.heap.size a 9 c [1, 0, 0, 0, 0, 0, 0, 0, 1] ∧ Below w.heap.size w w' := by
  refine (wencode_any ⟨1, 1, ByteArray.empty⟩ .nil none 0 w (Items.nil w) (by decide) (by decide +kernel)).mono ?_
  rintro e w2 ⟨a1, c1, rfl, ho1, hbl2⟩
  rw [show Fo.pre 1 (.cons ⟨1, 1, ByteArray.empty⟩ .nil .nil) = exNum from rfl, exNum_enc] at ho1
  refine ⟨a1, c1, ?_, ho1, hbl2⟩
  rw [show Fo.pre 1 (.cons ⟨1, 1, ByteArray.empty⟩ .nil .nil) = exNum from rfl, exNum_enc, exNum_chk]; rfl

theorem enc_list (w : World) (b : Nat) (hB : Blk w b 24 [.int .i64 2, .int .i64 0, .string ⟨#[97, 98]⟩, .slice none 0 0, .int .i64 3, .int .i64 0, .string ByteArray.empty, .slice none 0 0]) :
    Calls Try.prog 20 #[itemV ⟨3, 0, ByteArray.empty⟩ (some ⟨b, 0, none⟩) 2 2] w fun e w' => ∃ a c, e = .returned (.tuple #[.slice a 8 c, .int .i64 0]) ∧ OwnB w' w.heap.size a 8 c [3, 2, 2, 2, 97, 98, 3, 0] ∧ Below w.heap.size w w' := by
  have hk : Items w (some ⟨b, 0, none⟩) 2 exKids := by
    refine ⟨by decide, by omega, (fun e => by cases e), fun _ => ⟨b, 0, rfl, hB.cell 0, hB.cell 1, hB.cell 2, ⟨none, 0, hB.cell 3, by decide, by omega, fun _ => rfl, fun h => ?_⟩, hB.cell 4, hB.cell 5, hB.cell 6, ⟨none, 0, hB.cell 7, by decide, by omega, fun _ => rfl, fun h => ?_⟩, trivial⟩⟩
    · simp [Fo.len] at h
    · simp [Fo.len] at h
  refine (wencode_any ⟨3, 0, ByteArray.empty⟩ exKids (some ⟨b, 0, none⟩) 2 w hk (by decide) (by decide +kernel)).mono ?_
  rintro e w2 ⟨a1, c1, rfl, ho1, hbl2⟩
  rw [show Fo.pre 1 (.cons ⟨3, 0, ByteArray.empty⟩ exKids .nil) = exList from rfl, exList_enc] at ho1
  refine ⟨a1, c1, ?_, ho1, hbl2⟩
  rw [show Fo.pre 1 (.cons ⟨3, 0, ByteArray.empty⟩ exKids .nil) = exList from rfl, exList_enc, exList_chk]; rfl

def exC : Array Value := #[.int .u8 49, .int .u8 50, .int .u8 51, .int .u8 52, .int .u8 53, .int .u8 54, .int .u8 55, .int .u8 56, .int .u8 57]
theorem exC_bytes (w : World) : Bytes (w.alloc (.cells exC 5 (9, 10))) (some ⟨w.heap.size, 0, none⟩) 9 [49, 50, 51, 52, 53, 54, 55, 56, 57] := by
  refine ⟨by simp, by omega, fun i _ => ⟨_, _, rfl⟩, fun b off e i hi => ?_, fun e => by cases e⟩
  cases e
  rw [World.cell?_alloc_mark]
  have hi' : i < 9 := hi
  have : i = 0 ∨ i = 1 ∨ i = 2 ∨ i = 3 ∨ i = 4 ∨ i = 5 ∨ i = 6 ∨ i = 7 ∨ i = 8 := by omega
  rcases this with rfl | rfl | rfl | rfl | rfl | rfl | rfl | rfl | rfl <;> rfl

set_option maxRecDepth 100000 in
set_option maxHeartbeats 1000000 in
theorem live_any (w : World) : Calls Try.prog 12 #[] w fun e w' => e = .returned (.bool true) ∧ Below w.heap.size w w' := by
  go_enter Try.func12, Try.ntmps12
  go_wp2_with (fail)
  refine (num1_any 1 w).mono ?_
  rintro e w1 ⟨rfl, hg1⟩
  have hb1 : Below w.heap.size w w1 := grownBy_below hg1 (fun i e => by cases e)
  go_wp2_with (fail)
  refine (enc_num w1).mono ?_
  rintro e w2 ⟨a1, c1, rfl, ho1, hbl2⟩
  have hb2 : Below w.heap.size w w2 := hb1.trans (hbl2.mono hb1.size)
  clear hg1 hbl2 hb1
  go_wp2_with (fail)
  refine (text1_any _ w2).mono ?_
  rintro e w3 ⟨rfl, hg3⟩
  have hb3 : Below w.heap.size w w3 := hb2.trans ((grownBy_below hg3 (fun i e => by cases e)).mono hb2.size)
  go_wp2_with (fail)
  refine (list1_any none 0 0 w3).mono ?_
  rintro e w4 ⟨rfl, hg4⟩
  have hb4 : Below w.heap.size w w4 := hb3.trans ((grownBy_below hg4 (fun i e => by cases e)).mono hb3.size)
  have hb24 : Below w2.heap.size w2 w4 := (grownBy_below hg3 (fun i e => by cases e)).trans ((grownBy_below hg4 (fun i e => by cases e)).mono hg3.size)
  clear hg3 hg4 hb3 hb2
  go_wp2_with (fail)
  refine (list1_any (some ⟨w4.heap.size, 0, none⟩) 2 2 _).mono ?_
  rintro e w5 ⟨rfl, hg5⟩
  have hB5 := (Blk.new w4 24 #[.int .i64 2, .int .i64 0, .string ⟨#[97, 98]⟩, .slice none 0 0, .int .i64 3, .int .i64 0, .string ByteArray.empty, .slice none 0 0]).kept hg5 (by simp)
  have hba : Below w4.heap.size w4 w5 := (grownBy_below (World.grownBy_alloc w4 _ none) (fun i e => by cases e)).trans ((grownBy_below hg5 (fun i e => by cases e)).mono (by simp))
  have hb5 : Below w.heap.size w w5 := hb4.trans (hba.mono hb4.size)
  have hb25 : Below w2.heap.size w2 w5 := hb24.trans (hba.mono hb24.size)
  clear hg5 hba hb4 hb24
  go_wp2_with (fail)
  refine (enc_list w5 w4.heap.size hB5).mono ?_
  rintro e w6 ⟨a2, c2, rfl, ho2, hbl6⟩
  have hb6 : Below w.heap.size w w6 := hb5.trans (hbl6.mono hb5.size)
  have hy1 := ho1.bytes.grown (hb25.trans (hbl6.mono hb25.size))
  have hy2 := ho2.bytes
  have hr1 := run_conv (n := 9) w6 hy1 rfl
  have hr2 := run_conv (n := 8) w6 hy2 rfl
  clear hb25 hbl6 hb5 hB5 ho1 ho2
  have kc := Lib.run_convert_bytes_const (P := Try.prog) w6 31 5 exC 9 9 Try.underlying31 Try.underlying5
  have ho3 := exC_bytes w6
  unfold exC at kc ho3
  go_wp2_with (fail)
  refine (wsum_n (some ⟨w6.heap.size, 0, none⟩) 9 9 [49, 50, 51, 52, 53, 54, 55, 56, 57] 3421780262 _ ho3 rfl exSum.symm).mono ?_
  rintro e w7 ⟨rfl, rfl⟩
  go_wp2_with (fail)
  refine (wseal_any none 0 [] _ (Bytes.nil _) (by simp)).mono ?_
  rintro e w8 ⟨a4, c4, rfl, _, hb8⟩
  rw [exSeal]
  go_wp2_with (fail)
  refine bodyPost_ret (v := .bool true) (by simp [results, Try.results12, go_sem]; try rfl) rfl ⟨rfl, ?_⟩
  exact hb6.trans (((grownBy_below (World.grownBy_alloc w6 _ none) (fun i e => by cases e)).mono hb6.size).trans (hb8.mono (by simp; have := hb6.size; omega)))
end Go.Proofs.Ytahibjiiaocjkaa
