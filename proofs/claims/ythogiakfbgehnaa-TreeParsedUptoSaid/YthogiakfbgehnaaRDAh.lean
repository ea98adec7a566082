/- Texts joined: Kd Kg. -/
import Derived.Test.YthogiakfbgehnaaRDAg
set_option linter.unusedVariables false
set_option linter.unusedSimpArgs false
namespace Go.Proofs.Ythogiakfbgehnaa
open Go.RowKit
theorem plc_out (s : ByteArray) : ∀ (l : List ByteArray) (k : Nat), s ∉ l → plcP s k l = -1
 | [], _, _ => rfl
 | t :: r, k, h => by
  unfold plcP
  rw [if_neg (fun e => h (by rw [e]; exact List.mem_cons_self ..)), plc_out s r (k + 1) (fun hm => h (List.mem_cons_of_mem _ hm))]
theorem plc_at (s : ByteArray) : ∀ (l : List ByteArray) (k j : Nat), l[j]? = some s → s ∉ l.take j → plcP s k l = ((k + j : Nat) : Int)
 | [], _, j, h, _ => by simp at h
 | t :: r, k, 0, h, _ => by
  have h : t = s := by simpa using h
  unfold plcP
  rw [if_pos h, Nat.add_zero]
 | t :: r, k, j + 1, h, hn => by
  have h : r[j]? = some s := by simpa using h
  rw [List.take_succ_cons] at hn
  unfold plcP
  rw [if_neg (fun e => hn (by rw [e]; exact List.mem_cons_self ..)), plc_at s r (k + 1) j h (fun hm => hn (List.mem_cons_of_mem _ hm))]
  congr 1
  omega
theorem num_apart2 {rs : List RlD} {ts : List ByteArray} (h : numE rs ts = 0) : (∀ i (hi : i < ts.length), ts[i] ∉ ts.take i) ∧ ∀ i (hi : i < (rs.map RlD.n).length), (rs.map RlD.n)[i] ∉ ts ∧ (rs.map RlD.n)[i] ∉ (rs.map RlD.n).take i := by
 have h0 := num_apart h
 refine ⟨fun i hi => ?_, fun i hi => ?_⟩
 ·have := h0 i (by rw [List.length_append]; omega)
  rw [List.getElem_append_left hi, List.take_append_of_le_length (by omega)] at this
  exact this
 ·have := h0 (ts.length + i) (by rw [List.length_append]; omega)
  rw [List.getElem_append_right (by omega), List.take_append, List.take_of_length_le (by omega), List.mem_append] at this
  simp only [show ts.length + i - ts.length = i by omega] at this
  exact ⟨fun hm => this (.inl hm), fun hm => this (.inr hm)⟩
theorem num_plc {rs : List RlD} {ts : List ByteArray} (h : numE rs ts = 0) {t : ByteArray} (ht : t ∈ rs.map RlD.n ∨ t ∈ ts) :
 rlN ts (rs.map RlD.n) rs.length t = if plcP t 0 ts < 0 then -1 - plcP t 0 (rs.map RlD.n) else plcP t 0 ts := by
 obtain ⟨a1, a2⟩ := num_apart2 h
 rw [show rs.length = (rs.map RlD.n).length from (List.length_map ..).symm]
 by_cases hn : t ∈ rs.map RlD.n
 ·obtain ⟨i, hi, he⟩ := List.getElem_of_mem hn
  obtain ⟨j, hj, h1, h2⟩ := rlN_ok ts (rs.map RlD.n) t _ (Nat.le_refl _) ⟨i, hi, by rw [List.getElem?_eq_getElem hi, he]⟩
  obtain ⟨hj', h3⟩ := List.getElem?_eq_some_iff.1 h2
  obtain ⟨b1, b2⟩ := a2 j hj'
  rw [h3] at b1 b2
  rw [h1, plc_out t ts 0 b1, if_pos (by decide), plc_at t _ 0 j h2 b2, Nat.zero_add]
 ·have hts := ht.resolve_left hn
  obtain ⟨i, hi, he⟩ := List.getElem_of_mem hts
  obtain ⟨j, hj, h1, h2⟩ := tkN_ok ts t ts.length (Nat.le_refl _) ⟨i, hi, by rw [List.getElem?_eq_getElem hi, he]⟩
  obtain ⟨hj', h3⟩ := List.getElem?_eq_some_iff.1 h2
  have b1 := a1 j hj'
  rw [h3] at b1
  rw [rlN_tk ts _ t hn _ (Nat.le_refl _), h1, plc_at t _ 0 j h2 b1, Nat.zero_add, if_neg (by omega)]
end Go.Proofs.Ythogiakfbgehnaa
namespace Go.Proofs.Ythogiakfbgehnaa
open Go.RowKit
theorem apart_inj {l : List ByteArray} (h : ∀ i (hi : i < l.length), l[i] ∉ l.take i) {i j : Nat} (hi : i < l.length) (hj : j < l.length) (e : l[i] = l[j]) : i = j := by
 have key : ∀ a b (ha : a < l.length) (hb : b < l.length), l[a] = l[b] → ¬ a < b := fun a b ha hb e hab => h b hb (by
  rw [← e]
  exact List.mem_iff_getElem.2 ⟨a, by rw [List.length_take]; omega, by rw [List.getElem_take]⟩)
 rcases Nat.lt_trichotomy i j with h1 | h1 | h1
 ·exact absurd h1 (key i j hi hj e)
 ·exact h1
 ·exact absurd h1 (key j i hj hi e.symm)
theorem nm_rl {ts ns : List ByteArray} (a1 : ∀ i (hi : i < ts.length), ts[i] ∉ ts.take i) (a2 : ∀ i (hi : i < ns.length), ns[i] ∉ ts ∧ ns[i] ∉ ns.take i) {x : Int} (hx : okN ts.length ns.length x = true) :
 rlN ts ns ns.length (nmP ts ns x) = x := by
 obtain ⟨h1, h2⟩ := okN_iff.1 hx
 by_cases hneg : x < 0
 ·obtain ⟨j, hj⟩ : ∃ j : Nat, (-1 - x).toNat = j := ⟨_, rfl⟩
  have hjl : j < ns.length := by omega
  have e : nmP ts ns x = ns[j] := by
   unfold nmP
   rw [if_pos hneg, hj, List.getD_eq_getElem?_getD, List.getElem?_eq_getElem hjl]
   rfl
  obtain ⟨j', hj', h3, h4⟩ := rlN_ok ts ns ns[j] ns.length (Nat.le_refl _) ⟨j, hjl, List.getElem?_eq_getElem hjl⟩
  obtain ⟨h5, h6⟩ := List.getElem?_eq_some_iff.1 h4
  have := apart_inj (fun i hi => (a2 i hi).2) h5 hjl h6
  rw [e, h3]
  omega
 ·obtain ⟨j, hj⟩ : ∃ j : Nat, x.toNat = j := ⟨_, rfl⟩
  have hjl : j < ts.length := by omega
  have e : nmP ts ns x = ts[j] := by
   unfold nmP
   rw [if_neg hneg, hj, List.getD_eq_getElem?_getD, List.getElem?_eq_getElem hjl]
   rfl
  have hn : ts[j] ∉ ns := fun hm => by
   obtain ⟨i, hi, h3⟩ := List.getElem_of_mem hm
   exact (a2 i hi).1 (by rw [h3]; exact List.getElem_mem hjl)
  obtain ⟨j', hj', h3, h4⟩ := tkN_ok ts ts[j] ts.length (Nat.le_refl _) ⟨j, hjl, List.getElem?_eq_getElem hjl⟩
  obtain ⟨h5, h6⟩ := List.getElem?_eq_some_iff.1 h4
  have := apart_inj a1 h5 hjl h6
  rw [e, rlN_tk ts ns _ hn _ (Nat.le_refl _), h3]
  omega
theorem backR_fst (ts ns : List ByteArray) : ∀ (l : List ByteArray) (al : List (List (List Int))), l.length = al.length → (backR ts ns l al).map Prod.fst = l
 | [], [], _ => rfl
 | [], _ :: _, h => by simp at h
 | _ :: _, [], h => by simp at h
 | n :: l, a :: al, h => by
  have ih := backR_fst ts ns l al (by simpa using h)
  simp only [backR, List.map_cons, ih]
theorem backR_alts (ts ns : List ByteArray) (g : ByteArray → Int) : ∀ (l : List ByteArray) (al : List (List (List Int))), l.length = al.length → (∀ r ∈ al, ∀ a ∈ r, ∀ x ∈ a, g (nmP ts ns x) = x) → (backR ts ns l al).map (fun r => r.2.map (fun a => a.map g)) = al
 | [], [], _, _ => rfl
 | [], _ :: _, h, _ => by simp at h
 | _ :: _, [], h, _ => by simp at h
 | n :: l, a :: al, h, hg => by
  have ih := backR_alts ts ns g l al (by simpa using h) (fun r hr => hg r (List.mem_cons_of_mem _ hr))
  have h1 : (a.map (fun x => x.map (nmP ts ns))).map (fun x => x.map g) = a := by
   rw [List.map_map]
   refine (List.map_congr_left (fun x hx => ?_)).trans (List.map_id _)
   show (x.map (nmP ts ns)).map g = x
   rw [List.map_map]
   exact (List.map_congr_left (fun y hy => hg a (List.mem_cons_self ..) x hx y hy)).trans (List.map_id _)
  simp only [backR, List.map_cons, ih, h1]
/-- What is turned back, and may be, is numbered as it was. -/
theorem back_num {p : CfP} (hb : backE p = 0) (hn : numE (can (backG p)) p.toks = 0) : numC (can (backG p)) p.toks = p := by
 obtain ⟨ts, ns, al⟩ := p
 have hl : ns.length = al.length := by
  by_cases h : ns.length = al.length
  ·exact h
  ·exact absurd (show (1 : Int) = 0 from (if_neg h).symm.trans hb) (by decide)
 have ho : numsB ⟨ts, ns, al⟩ = true := by
  have hb2 : (if numsB ⟨ts, ns, al⟩ = true then (0 : Int) else 1) = 0 := (if_pos hl).symm.trans hb
  by_cases h : numsB ⟨ts, ns, al⟩ = true
  ·exact h
  ·exact absurd (show (1 : Int) = 0 from (if_neg h).symm.trans hb2) (by decide)
 have e1 : (can (backG ⟨ts, ns, al⟩)).map RlD.n = ns := by
  have h1 : (can (backG ⟨ts, ns, al⟩)).map RlD.n = (backG ⟨ts, ns, al⟩).map Prod.fst := by
   unfold can
   rw [List.map_map]
   rfl
  rw [h1]
  exact backR_fst ts ns ns al hl
 have e2 : (can (backG ⟨ts, ns, al⟩)).length = ns.length := by
  have := congrArg List.length e1
  rwa [List.length_map] at this
 obtain ⟨a1, a2⟩ := num_apart2 hn
 dsimp only at a1 a2
 simp only [e1] at a2
 unfold numC
 rw [e1, e2]
 congr 1
 have e3 : (can (backG ⟨ts, ns, al⟩)).map (fun r => r.ds.map (fun d => d.l.map (rlN ts ns ns.length))) = (backG ⟨ts, ns, al⟩).map (fun r => r.2.map (fun a => a.map (rlN ts ns ns.length))) := by
  unfold can
  rw [List.map_map]
  refine List.map_congr_left (fun r _ => ?_)
  show ((r.2.map (fun l => (⟨l, none, 0⟩ : AltD))).map (fun d => d.l.map (rlN ts ns ns.length))) = _
  rw [List.map_map]
  rfl
 refine e3.trans ?_
 refine backR_alts ts ns _ ns al hl (fun r hr a ha x hx => nm_rl a1 a2 ?_)
 unfold numsB at ho
 simp only [List.all_eq_true] at ho
 exact ho r hr a ha x hx
end Go.Proofs.Ythogiakfbgehnaa
