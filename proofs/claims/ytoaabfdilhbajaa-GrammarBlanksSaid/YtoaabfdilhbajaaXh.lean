/- Layer 7: reader.take. -/
import Derived.Test.YtoaabfdilhbajaaXg
import Derived.Test.YtoaabfdilhbajaaXd
namespace Go.Proofs.Ytoaabfdilhbajaa
open Go.RowKit Go.Shelf

attribute [local go_sem] Oper.semAt_some

theorem loop_is (s : ByteArray) : ∀ (n i : Nat) (r : List UInt8), s.size - i = n → ByteArray.toList.loop s i r = r.reverse ++ s.data.toList.drop i := by
  intro n
  induction n with
  | zero => intro i r h; unfold ByteArray.toList.loop; rw [if_neg (by omega), List.drop_eq_nil_of_le (by rw [dlen]; omega)]; simp
  | succ n ih =>
    intro i r h
    have hi : i < s.data.toList.length := by rw [dlen]; omega
    unfold ByteArray.toList.loop
    rw [if_pos (by omega), ih _ _ (by omega), List.drop_eq_getElem_cons hi]
    have : s.get! i = s.data.toList[i] := by
      cases s with
      | mk data =>
        show data[i]! = data.toList[i]
        rw [getElem!_pos data i (by simpa using hi)]
        simp
    rw [this]
    simp
theorem beq_dec (a b : List UInt8) : (a == b) = decide (a = b) := by rw [Bool.eq_iff_iff]; simp
theorem toList_is (s : ByteArray) : s.toList = s.data.toList := by
  unfold ByteArray.toList
  rw [loop_is s _ 0 [] rfl]
  simp
theorem addLast_snoc {α : Type} (f : α → α) : ∀ (l : List α) (x : α), addLast f (l ++ [x]) = l ++ [f x]
  | [], x => rfl
  | [y], x => rfl
  | y :: z :: r, x => by
    have := addLast_snoc f (z :: r) x
    simp only [List.cons_append, addLast] at this ⊢
    rw [this]
theorem grP_snoc (qs : List RlD) (r : RlD) : grP (qs ++ [r]) = grP qs ++ [r.p] := by simp [grP]
/-- What stands there is as the place says; nothing is longer than there were words. -/
structure RdOk (rs : List RlD) (place k : Nat) : Prop where
  le : place ≤ 2
  one : 1 ≤ place → ∃ qs r, rs = qs ++ [r]
  two : place = 2 → ∃ qs r ds d, rs = qs ++ [r] ∧ r.ds = ds ++ [d]
  len : rs.length ≤ k
  lenA : ∀ r ∈ rs, r.ds.length ≤ k
  lenN : ∀ r ∈ rs, ∀ d ∈ r.ds, d.l.length ≤ k
theorem RdOk.mono {rs : List RlD} {place k k' : Nat} (h : RdOk rs place k) (hk : k ≤ k') : RdOk rs place k' :=
  ⟨h.le, h.one, h.two, Nat.le_trans h.len hk, fun r hr => Nat.le_trans (h.lenA r hr) hk, fun r hr d hd => Nat.le_trans (h.lenN r hr d hd) hk⟩
theorem RdOk.rule {rs : List RlD} {place k : Nat} (h : RdOk rs place k) (w : ByteArray) : RdOk (rs ++ [⟨w, [], none, 0⟩]) 1 (k + 1) := by
  refine ⟨by omega, fun _ => ⟨_, _, rfl⟩, fun e => by omega, by have := h.len; simp; omega, fun r hr => ?_, fun r hr d hd => ?_⟩
  · rcases List.mem_append.1 hr with hr | hr
    · have := h.lenA r hr; omega
    · rw [List.mem_singleton.1 hr]; simp
  · rcases List.mem_append.1 hr with hr | hr
    · have := h.lenN r hr d hd; omega
    · rw [List.mem_singleton.1 hr] at hd; cases hd
theorem RdOk.alt {qs : List RlD} {r : RlD} {place k : Nat} (h : RdOk (qs ++ [r]) place k) (a : Option Addr) (c : Nat) : RdOk (qs ++ [⟨r.n, r.ds ++ [⟨[], none, 0⟩], a, c⟩]) 2 (k + 1) := by
  refine ⟨by omega, fun _ => ⟨_, _, rfl⟩, fun e => ⟨_, _, _, _, rfl, rfl⟩, by have := h.len; simp at this ⊢; omega, fun x hx => ?_, fun x hx d hd => ?_⟩
  · rcases List.mem_append.1 hx with hx | hx
    · have := h.lenA x (List.mem_append_left _ hx); omega
    · rw [List.mem_singleton.1 hx]
      have := h.lenA r (by simp)
      simp; omega
  · rcases List.mem_append.1 hx with hx | hx
    · have := h.lenN x (List.mem_append_left _ hx) d hd; omega
    · rw [List.mem_singleton.1 hx] at hd
      rcases List.mem_append.1 hd with hd | hd
      · have := h.lenN r (by simp) d hd; omega
      · rw [List.mem_singleton.1 hd]; simp
theorem RdOk.name {qs : List RlD} {r : RlD} {ds : List AltD} {d : AltD} {place k : Nat} (h : RdOk (qs ++ [r]) place k) (hr : r.ds = ds ++ [d]) (w : ByteArray) (a : Option Addr) (c : Nat) : RdOk (qs ++ [⟨r.n, ds ++ [⟨d.l ++ [w], a, c⟩], r.a, r.c⟩]) 2 (k + 1) := by
  refine ⟨by omega, fun _ => ⟨_, _, rfl⟩, fun e => ⟨_, _, _, _, rfl, rfl⟩, by have := h.len; simp at this ⊢; omega, fun x hx => ?_, fun x hx y hy => ?_⟩
  · rcases List.mem_append.1 hx with hx | hx
    · have := h.lenA x (List.mem_append_left _ hx); omega
    · rw [List.mem_singleton.1 hx]
      have := h.lenA r (by simp)
      rw [hr] at this
      simp at this ⊢; omega
  · rcases List.mem_append.1 hx with hx | hx
    · have := h.lenN x (List.mem_append_left _ hx) y hy; omega
    · rw [List.mem_singleton.1 hx] at hy
      rcases List.mem_append.1 hy with hy | hy
      · have := h.lenN r (by simp) y (by rw [hr]; exact List.mem_append_left _ hy); omega
      · rw [List.mem_singleton.1 hy]
        have := h.lenN r (by simp) d (by rw [hr]; simp)
        simp; omega
theorem RdOk.end_ {rs : List RlD} {place k : Nat} (h : RdOk rs place k) : RdOk rs 0 (k + 1) :=
  ⟨by omega, fun e => by omega, fun e => by omega, by have := h.len; omega, fun r hr => by have := h.lenA r hr; omega, fun r hr d hd => by have := h.lenN r hr d hd; omega⟩
/-- What take comes to. -/
def TkQ (w : World) (B rb : Nat) (rs : List RlD) (place k : Nat) (word : ByteArray) : Ending → World → Prop := fun e w' =>
  ∃ b, e = .returned (.bool b) ∧ Kb B rb w w' ∧ (b = false → takeP ⟨grP rs, place⟩ word = none) ∧ (b = true → ∃ rs' place' ra' rc', RdAt w' B rb rs' place' ra' rc' ∧ RdOk rs' place' (k + 1) ∧ takeP ⟨grP rs, place⟩ word = some ⟨grP rs', place'⟩)

set_option maxRecDepth 100000 in
set_option maxHeartbeats 4000000 in
theorem take_any (B rb place rc k : Nat) (rs : List RlD) (ra : Option Addr) (word : ByteArray) (w : World) (h : RdAt w B rb rs place ra rc) (ho : RdOk rs place k) (hk : k ≤ 1000000) :
    Calls Try.prog 30 #[.pointer (some ⟨rb, 0, none⟩), .string word] w (TkQ w B rb rs place k word) := by
  have x0 := h.box.cell 0
  have x1 := h.box.cell 1
  have xl := h.box.lt
  have xf := h.box.frozen
  simp only [List.getElem?_cons_succ, List.getElem?_cons_zero] at x0 x1
  have Hn := Lib.hid (isName_any word w)
  obtain ⟨nb, hnb⟩ : ∃ v, Hid (nameB word = v) := ⟨_, Lib.hid rfl⟩
  rw [hnb.out] at Hn
  obtain ⟨b61, h61⟩ : ∃ v, (word.toList == [61]) = v := ⟨_, rfl⟩
  obtain ⟨b124, h124⟩ : ∃ v, (word.toList == [124]) = v := ⟨_, rfl⟩
  obtain ⟨b59, h59⟩ : ∃ v, (word.toList == [59]) = v := ⟨_, rfl⟩
  have K61 : Hid (b61 = decide (word.data.toList = [61])) := Lib.hid (by rw [← h61, toList_is]; exact beq_dec _ _)
  have K124 : Hid (b124 = decide (word.data.toList = [124])) := Lib.hid (by rw [← h124, toList_is]; exact beq_dec _ _)
  have K59 : Hid (b59 = decide (word.data.toList = [59])) := Lib.hid (by rw [← h59, toList_is]; exact beq_dec _ _)
  have H := Lib.hid h
  have Ho := Lib.hid ho
  have hlen := ho.len
  have hle := ho.le
  clear h ho
  have hp : place = 0 ∨ place = 1 ∨ place = 2 := by omega
  rcases hp with rfl | rfl | rfl
  · cases nb
    case false =>
      have HT : Hid (takeP ⟨grP rs, 0⟩ word = none) := Lib.hid (by simp [takeP, hnb.out])
      go_enter Try.func30, Try.ntmps30
      go_wp2_with (go_at_call 34; (with_reducible refine Hn.out.mono ?_); rintro e w1 ⟨rfl, hw1⟩; subst w1)
      exact bodyPost_ret (v := .bool false) (by simp [results, Try.results30, go_sem]; try rfl) rfl ⟨false, rfl, Kb.refl _ _ _, fun _ => HT.out, fun e => (by cases e)⟩
    case true =>
      have HT : Hid (takeP ⟨grP rs, 0⟩ word = some ⟨grP rs ++ [(word, [])], 1⟩) := Lib.hid (by simp [takeP, hnb.out])
      obtain ⟨a', c', w', hrun, hbx, hR, hb⟩ := H.out.rule word 22 (by omega)
      have y0 := hbx.cell 0
      have yf := hbx.frozen 0
      have yl := hbx.lt
      simp only [List.getElem?_cons_zero] at y0
      obtain ⟨hR2, hb2⟩ := hR.put 1
      have z1 := hR.box.cell 1
      have zf := hR.box.frozen 1
      have zl := hR.box.lt
      simp only [List.getElem?_cons_succ, List.getElem?_cons_zero] at z1
      have Hrun := Lib.hid hrun
      have HR2 := Lib.hid hR2
      have HB := Lib.hid (hb.trans hb2)
      have HK := Lib.hid (Ho.out.rule word)
      have HG : Hid (grP (rs ++ [⟨word, [], none, 0⟩]) = grP rs ++ [(word, [])]) := Lib.hid (grP_snoc _ _)
      clear hrun hbx hR hb hR2 hb2
      obtain ⟨L, hL⟩ : ∃ L, Hid (rs.length = L) := ⟨_, Lib.hid rfl⟩
      rw [hL.out] at x0 Hrun y0 HR2 HB z1 zf zl hlen
      go_enter Try.func30, Try.ntmps30
      go_wp2_with (first | (go_at_call 34; (with_reducible refine Hn.out.mono ?_); rintro e w1 ⟨rfl, hw1⟩; subst w1) | (at_builtin; refine wpList_append_run rfl _ _ 22 22 rfl _ _ _ _ rfl rfl Hrun.out ?_))
      exact bodyPost_ret (v := .bool true) (by simp [results, Try.results30, go_sem]; try rfl) rfl ⟨true, rfl, HB.out, fun e => (by cases e), fun _ => ⟨_, 1, a', c', HR2.out, HK.out, by rw [HT.out, HG.out]⟩⟩
  · obtain ⟨qs, r, hqr⟩ := Ho.out.one (Nat.le_refl _)
    subst hqr
    cases b61
    case false =>
      have HT : Hid (takeP ⟨grP (qs ++ [r]), 1⟩ word = none) := Lib.hid (by
        have := K61.out
        simp only [Bool.false_eq, decide_eq_false_iff_not] at this
        simp [takeP, this])
      go_enter Try.func30, Try.ntmps30
      go_wp2_with (go_at_call 34; (with_reducible refine Hn.out.mono ?_); rintro e w1 ⟨rfl, hw1⟩; subst w1)
      exact bodyPost_ret (v := .bool false) (by simp [results, Try.results30, go_sem]; try rfl) rfl ⟨false, rfl, Kb.refl _ _ _, fun _ => HT.out, fun e => (by cases e)⟩
    case true =>
      have HT : Hid (takeP ⟨grP (qs ++ [r]), 1⟩ word = some ⟨grP qs ++ [(r.n, r.ds.map AltD.l ++ [[]])], 2⟩) := Lib.hid (by
        have h1 := K61.out
        simp only [Bool.true_eq, decide_eq_true_eq] at h1
        simp [takeP, h1, grP_snoc, addLast_snoc, RlD.p])
      have hdl := Ho.out.lenA r (by simp)
      have Hc := Lib.hid (begin_any B rb 1 rc qs r ra w H.out (by omega))
      go_enter Try.func30, Try.ntmps30
      go_wp2_with (go_at_call 34; (with_reducible refine Hn.out.mono ?_); rintro e w1 ⟨rfl, hw1⟩; subst w1)
      refine Hc.out.mono ?_
      rintro e w2 ⟨rfl, a', c', hR, hb⟩
      obtain ⟨hR2, hb2⟩ := hR.put 2
      have y1 := hR.box.cell 1
      have yf := hR.box.frozen 1
      have yl := hR.box.lt
      simp only [List.getElem?_cons_succ, List.getElem?_cons_zero] at y1
      have HR2 := Lib.hid hR2
      have HB := Lib.hid (hb.trans hb2)
      have HK := Lib.hid (Ho.out.alt a' c')
      clear hR hb hR2 hb2 x0 x1 xl xf
      go_wp2_with (fail)
      exact bodyPost_ret (v := .bool true) (by simp [results, Try.results30, go_sem]; try rfl) rfl ⟨true, rfl, HB.out, fun e => (by cases e), fun _ => ⟨_, 2, _, _, HR2.out, HK.out, by rw [HT.out, grP_snoc]; simp [RlD.p]⟩⟩
  · obtain ⟨qs, r, ds, d, hqr, hds⟩ := Ho.out.two rfl
    subst hqr
    cases nb
    case true =>
      have HT : Hid (takeP ⟨grP (qs ++ [r]), 2⟩ word = some ⟨grP qs ++ [(r.n, ds.map AltD.l ++ [d.l ++ [word]])], 2⟩) := Lib.hid (by
        simp [takeP, hnb.out, grP_snoc, addLast_snoc, RlD.p, hds])
      have hdl := Ho.out.lenN r (by simp) d (by rw [hds]; simp)
      have Hc := Lib.hid (add_any B rb 2 rc qs r ds d hds word ra w H.out (by omega))
      go_enter Try.func30, Try.ntmps30
      go_wp2_with (first | (go_at_call 34; (with_reducible refine Hn.out.mono ?_); rintro e w1 ⟨rfl, hw1⟩; subst w1))
      refine Hc.out.mono ?_
      rintro e w2 ⟨rfl, a', c', hR, hb⟩
      have HR := Lib.hid hR
      have HB := Lib.hid hb
      have HK := Lib.hid (Ho.out.name hds word a' c')
      clear hR hb
      go_wp2_with (fail)
      exact bodyPost_ret (v := .bool true) (by simp [results, Try.results30, go_sem]; try rfl) rfl ⟨true, rfl, HB.out, fun e => (by cases e), fun _ => ⟨_, 2, _, _, HR.out, HK.out, by rw [HT.out, grP_snoc]; simp [RlD.p]⟩⟩
    case false =>
      cases b124
      case true =>
        have HT : Hid (takeP ⟨grP (qs ++ [r]), 2⟩ word = some ⟨grP qs ++ [(r.n, r.ds.map AltD.l ++ [[]])], 2⟩) := Lib.hid (by
          have h1 := K124.out
          simp only [Bool.true_eq, decide_eq_true_eq] at h1
          simp [takeP, h1, hnb.out, grP_snoc, addLast_snoc, RlD.p])
        have hdl := Ho.out.lenA r (by simp)
        have Hc := Lib.hid (begin_any B rb 2 rc qs r ra w H.out (by omega))
        go_enter Try.func30, Try.ntmps30
        go_wp2_with (go_at_call 34; (with_reducible refine Hn.out.mono ?_); rintro e w1 ⟨rfl, hw1⟩; subst w1)
        refine Hc.out.mono ?_
        rintro e w2 ⟨rfl, a', c', hR, hb⟩
        have HR2 := Lib.hid hR
        have HB := Lib.hid hb
        have HK := Lib.hid (Ho.out.alt a' c')
        clear hR hb x0 x1 xl xf
        go_wp2_with (fail)
        exact bodyPost_ret (v := .bool true) (by simp [results, Try.results30, go_sem]; try rfl) rfl ⟨true, rfl, HB.out, fun e => (by cases e), fun _ => ⟨_, 2, _, _, HR2.out, HK.out, by rw [HT.out, grP_snoc]; simp [RlD.p]⟩⟩
      case false =>
        cases b59
        case false =>
          have HT : Hid (takeP ⟨grP (qs ++ [r]), 2⟩ word = none) := Lib.hid (by
            have h1 := K124.out
            have h2 := K59.out
            simp only [Bool.false_eq, decide_eq_false_iff_not] at h1 h2
            simp [takeP, hnb.out, h1, h2])
          go_enter Try.func30, Try.ntmps30
          go_wp2_with (go_at_call 34; (with_reducible refine Hn.out.mono ?_); rintro e w1 ⟨rfl, hw1⟩; subst w1)
          exact bodyPost_ret (v := .bool false) (by simp [results, Try.results30, go_sem]; try rfl) rfl ⟨false, rfl, Kb.refl _ _ _, fun _ => HT.out, fun e => (by cases e)⟩
        case true =>
          have HT : Hid (takeP ⟨grP (qs ++ [r]), 2⟩ word = some ⟨grP (qs ++ [r]), 0⟩) := Lib.hid (by
            have h1 := K124.out
            have h2 := K59.out
            simp only [Bool.false_eq, decide_eq_false_iff_not] at h1
            simp only [Bool.true_eq, decide_eq_true_eq] at h2
            simp [takeP, hnb.out, h2])
          obtain ⟨hR, hb⟩ := H.out.put 0
          have HR := Lib.hid hR
          have HB := Lib.hid hb
          clear hR hb
          go_enter Try.func30, Try.ntmps30
          go_wp2_with (go_at_call 34; (with_reducible refine Hn.out.mono ?_); rintro e w1 ⟨rfl, hw1⟩; subst w1)
          exact bodyPost_ret (v := .bool true) (by simp [results, Try.results30, go_sem]; try rfl) rfl ⟨true, rfl, HB.out, fun e => (by cases e), fun _ => ⟨_, 0, _, _, HR.out, Ho.out.end_, HT.out⟩⟩
end Go.Proofs.Ytoaabfdilhbajaa
