/- Layer 7: a grammar's text. -/
import Derived.Test.YtoaabfdilhbajaaXo
namespace Go.Proofs.Ytoaabfdilhbajaa
open Go.RowKit Go.Shelf

attribute [local go_sem] Oper.semAt_some

def nmT (l : List ByteArray) : List UInt8 := l.flatMap (fun s => 32 :: s.data.toList)
def alT : List UInt8 → List (List ByteArray) → List UInt8
  | _, [] => []
  | bf, x :: r => bf ++ (nmT x ++ alT [32, 124] r)
def rlT (r : Rl) : List UInt8 := r.1.data.toList ++ (alT [32, 61] r.2 ++ [32, 59, 10])
def grT (g : List Rl) : List UInt8 := g.flatMap rlT
def txG (rs : List RlD) : ByteArray := if chkG rs = 0 then ⟨(grT (grP rs)).toArray⟩ else ⟨#[]⟩

theorem name_size {s : ByteArray} (h : nameB s = true) : s.data.toList.length ≤ 32 := by
  unfold nameB at h
  cases hl : s.data.toList with
  | nil => simp
  | cons c r =>
    rw [hl, nameL, Bool.and_eq_true, Bool.and_eq_true] at h
    have := of_decide_eq_true h.1.1
    simp only [List.length_cons]; omega
theorem nmT_le : ∀ (l : List ByteArray), (∀ s ∈ l, nameB s = true) → (nmT l).length ≤ l.length * 33
  | [], _ => by simp [nmT]
  | x :: l, h => by
    have h1 := nmT_le l (fun s hs => h s (List.mem_cons_of_mem _ hs))
    have h2 := name_size (h x List.mem_cons_self)
    unfold nmT at h1 ⊢
    rw [List.flatMap_cons, List.length_append]
    simp only [List.length_cons]
    omega
theorem alT_le : ∀ (bf : List UInt8) (l : List (List ByteArray)), bf.length = 2 → (∀ x ∈ l, (∀ s ∈ x, nameB s = true) ∧ x.length ≤ 30) → (alT bf l).length ≤ l.length * 992
  | _, [], _, _ => by simp [alT]
  | bf, x :: l, hb, h => by
    have h1 := alT_le [32, 124] l rfl (fun s hs => h s (List.mem_cons_of_mem _ hs))
    obtain ⟨h2, h3⟩ := h x List.mem_cons_self
    have h4 := nmT_le x h2
    rw [alT, List.length_append, List.length_append]
    simp only [List.length_cons]
    omega
theorem grT_le : ∀ (l : List Rl), (∀ r ∈ l, nameB r.1 = true ∧ r.2.length ≤ 30 ∧ ∀ x ∈ r.2, (∀ s ∈ x, nameB s = true) ∧ x.length ≤ 30) → (grT l).length ≤ l.length * 29795
  | [], _ => by simp [grT]
  | x :: l, h => by
    have h1 := grT_le l (fun s hs => h s (List.mem_cons_of_mem _ hs))
    obtain ⟨h2, h3, h4⟩ := h x List.mem_cons_self
    have h5 := alT_le [32, 61] x.2 rfl h4
    have h6 := name_size h2
    unfold grT at h1 ⊢
    rw [List.flatMap_cons, List.length_append]
    unfold rlT at h1 ⊢
    simp only [List.length_cons, List.length_append, List.length_nil]
    omega
theorem chk_zero {rs : List RlD} (h : chkG rs = 0) : mayG rs = true ∧ longG rs = false := by
  unfold chkG at h
  cases hm : mayG rs <;> cases hg : longG rs <;> simp_all
theorem chk_parts {rs : List RlD} (h : chkG rs = 0) : 0 < rs.length ∧ rs.length ≤ 60 ∧ ∀ r ∈ grP rs, nameB r.1 = true ∧ 0 < r.2.length ∧ r.2.length ≤ 30 ∧ ∀ x ∈ r.2, (∀ s ∈ x, nameB s = true) ∧ x.length ≤ 30 := by
  obtain ⟨hm, hg⟩ := chk_zero h
  unfold mayG at hm
  rw [Bool.and_eq_true, List.all_eq_true] at hm
  unfold longG at hg
  rw [Bool.or_eq_false_iff, List.any_eq_false] at hg
  have h60 := of_decide_eq_false hg.1
  refine ⟨of_decide_eq_true hm.2, by omega, fun r hr => ?_⟩
  obtain ⟨q, hq, rfl⟩ := List.mem_map.1 hr
  have hq1 := hm.1 q hq
  have hq2 : longR q = false := by simpa using hg.2 q hq
  unfold mayR at hq1
  rw [Bool.and_eq_true, Bool.and_eq_true, List.all_eq_true] at hq1
  unfold longR at hq2
  rw [Bool.or_eq_false_iff, List.any_eq_false] at hq2
  have h30 := of_decide_eq_false hq2.1
  have hn0 := of_decide_eq_true hq1.1.2
  refine ⟨hq1.1.1, by simp only [RlD.p, List.length_map]; omega, by simp only [RlD.p, List.length_map]; omega, fun x hx => ?_⟩
  obtain ⟨d, hd, rfl⟩ := List.mem_map.1 hx
  have hl : longA d = false := by simpa using hq2.2 d hd
  have hl2 := of_decide_eq_false hl
  exact ⟨fun s hs => List.all_eq_true.1 (hq1.2 d hd) s hs, by omega⟩
theorem grT_small {rs : List RlD} (h : chkG rs = 0) : (grT (grP rs)).length ≤ 1787700 := by
  obtain ⟨_, h1, h2⟩ := chk_parts h
  have := grT_le (grP rs) (fun r hr => ⟨(h2 r hr).1, (h2 r hr).2.2.1, (h2 r hr).2.2.2⟩)
  have hl : (grP rs).length = rs.length := List.length_map ..
  omega
end Go.Proofs.Ytoaabfdilhbajaa
