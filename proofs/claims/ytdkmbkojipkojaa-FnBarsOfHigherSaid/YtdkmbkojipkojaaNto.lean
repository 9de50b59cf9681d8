
/- Parts of lists of notes, their lengths, their bars; the law of LengthOf. -/
import Derived.Test.YtdkmbkojipkojaaNtm
namespace Go.Proofs.Ytdkmbkojipkojaa
open Go.RowKit

theorem NotesAt.takeN {w : World} {a : Option Addr} {n c k : Nat} {P : List PNote} (h : NotesAt w (.slice a n c) P) (hk : k ≤ n) : NotesAt w (.slice a k c) (P.take k) := by
  obtain ⟨a', cp, e, x1, x2, x3⟩ := h
  injection e with e1 e2 e3
  subst e1 e3
  have hl : (P.take k).length = k := by simp; omega
  refine ⟨_, c, by rw [hl], by omega, x2, ?_⟩
  rcases x3 with rfl | ⟨g', off, e, x3⟩
  · exact .inl (by simp)
  · refine .inr ⟨g', off, e, fun i hi => ?_⟩
    rw [List.getD_eq_getElem?_getD, List.getElem?_take, if_pos (by omega), ← List.getD_eq_getElem?_getD]
    exact x3 i (by omega)
theorem NotesAt.dropN {w : World} {g off n c k : Nat} {P : List PNote} (h : NotesAt w (.slice (some ⟨g, off, none⟩) n c) P) (hk : k ≤ n) : NotesAt w (.slice (some ⟨g, off + k * 2, none⟩) (n - k) (c - k)) (P.drop k) := by
  obtain ⟨a', cp, e, x1, x2, x3⟩ := h
  injection e with e1 e2 e3
  subst e3
  have hl : (P.drop k).length = n - k := by simp; omega
  refine ⟨_, c - k, by rw [hl], by omega, by omega, ?_⟩
  rcases x3 with rfl | ⟨g', off', e, x3⟩
  · exact .inl (by simp)
  · rw [e] at e1
    injection e1 with e1
    injection e1 with e1 e4 _
    subst e1 e4
    refine .inr ⟨g, off + k * 2, rfl, fun i hi => ?_⟩
    rw [List.getD_eq_getElem?_getD, List.getElem?_drop, ← List.getD_eq_getElem?_getD, show off + k * 2 + i * 2 = off + (k + i) * 2 from by omega]
    exact x3 (k + i) (by omega)
/-- Q is P from f on -/
def PartN (P Q : List PNote) (f : Nat) : Prop := f + Q.length ≤ P.length ∧ ∀ i, i < Q.length → Q.getD i noN = P.getD (f + i) noN
theorem PartN.ok {P Q : List PNote} {f : Nat} (h : PartN P Q f) (hP : NtsOk P) : NtsOk Q := ⟨by have := h.1; have := hP.1; omega, fun i hi => by rw [h.2 i hi]; exact hP.2 _ (by have := h.1; omega)⟩
theorem PartN.len {P Q : List PNote} {f : Nat} (h : PartN P Q f) : ∀ j, j ≤ Q.length → lenTo Q j = lenTo P (f + j) - lenTo P f := by
  intro j
  induction j with
  | zero => intro _; simp [lenTo]
  | succ j ih =>
    intro hj
    show lenTo Q j + lenV (Q.getD j noN).v = lenTo P (f + j) + lenV (P.getD (f + j) noN).v - lenTo P f
    rw [ih (by omega), h.2 j (by omega)]; omega
theorem PartN.ln {P Q : List PNote} {f : Nat} (h : PartN P Q f) (hP : NtsOk P) : lnOf Q = lenTo P (f + Q.length) - lenTo P f := by
  rw [lnOf_yes (h.ok hP), h.len _ (Nat.le_refl _)]
theorem partN_seg {P : List PNote} {f t : Nat} (h1 : f ≤ t) (h2 : t ≤ P.length) : PartN P ((P.take t).drop f) f ∧ ((P.take t).drop f).length = t - f := by
  have hl : ((P.take t).drop f).length = t - f := by simp; omega
  refine ⟨⟨by omega, fun i hi => ?_⟩, hl⟩
  rw [List.getD_eq_getElem?_getD, List.getElem?_drop, List.getElem?_take, if_pos (by omega), ← List.getD_eq_getElem?_getD]
theorem i_LengthOf_far (w3 wx : World) (v : Value) (P : List PNote) (r : Int) (hx : NotesAt w3 v P) (hb : Below w3.heap.size w3 wx) (hr : Hid (lnOf P = r)) :
    Calls Try.prog 12 #[v] wx fun e w' => e = .returned (.int .i64 r) ∧ Below w3.heap.size w3 w' :=
  (i_LengthOf wx v P r (hx.below hb) hr).mono fun _ _ ⟨h1, h2⟩ => ⟨h1, below_next hb h2⟩
theorem nil_notes (w : World) (a : Option Addr) (c : Nat) (h : c ≤ 9223372036854775807) : NotesAt w (.slice a 0 c) [] := ⟨a, c, rfl, Nat.zero_le _, h, .inl rfl⟩
set_option maxHeartbeats 2000000 in
theorem lengthOf_walk (a : Option Addr) (len cap : Nat) (zs : List Int) (w : World) (h : RowIn .u8 w a len cap zs) :
    Calls Try.prog 3 #[.slice a len cap] w fun e w' => e = .returned (.bool true) ∧ Below w.heap.size w w' := by
  have hlen : len ≤ 9223372036854775807 := by
    obtain ⟨_, h2, h3⟩ := bytesAt_of_row h; unfold maxLen at h3; omega
  by_cases hbig : len ≤ 1048576
  · go_enter Try.func3, Try.ntmps3
    go_wp2_with fail
    refine (drawLengthOf_any w a len cap zs h).mono ?_
    rintro e w1 ⟨a1, n1, c1, P, rfl, hx, hl, hb1⟩
    clear h
    obtain ⟨r, hr⟩ : ∃ r, lnOf P = r := ⟨_, rfl⟩
    have HR := keptN hr
    have HX := keptN hx
    have hn := hx.len
    have hc : n1 ≤ c1 ∧ c1 ≤ 9223372036854775807 := by obtain ⟨_, _, e, e1, e2, _⟩ := hx; injection e with _ e3 e4; omega
    clear hx
    go_wp2_with fail
    refine (i_LengthOf w1 _ P r HX.out HR).mono ?_
    rintro e w2 ⟨rfl, hb2⟩
    have hB2 := below_next hb1 hb2
    have HX2 := keptN (HX.out.below hb2)
    clear hb1 hb2 HX
    go_wp2_with fail
    refine (s_LengthOf w2 _ P r HX2.out HR).mono ?_
    rintro e w3 ⟨rfl, hb3⟩
    have hB3 := below_next hB2 hb3
    have HX3 := keptN (HX2.out.below hb3)
    clear hB2 hb3 HX2
    by_cases hok : NtsOk P
    · rw [lnOf_yes hok] at hr
      have hbd := lenTo_bd P P.length
      rw [hr] at hbd
      have d1 : decide (r < 0) = false := decide_eq_false (by omega)
      obtain ⟨k, hk⟩ : ∃ k, n1 / 2 = k := ⟨_, rfl⟩
      have hk1 : k ≤ n1 := by omega
      have hk2 : n1 = 0 ∨ k < n1 := by omega
      have t1 : ((n1 : Int)).tdiv 2 = (k : Int) := by rw [Int.tdiv_eq_ediv_of_nonneg (by omega), ← hk]; simp
      have p1 := partN_seg (P := P) (f := 0) (t := k) (Nat.zero_le _) (by omega)
      have p2 := partN_seg (P := P) (f := k) (t := n1) hk1 (by omega)
      have l1 := p1.1.ln hok
      have l2 := p2.1.ln hok
      rw [p1.2] at l1
      rw [p2.2] at l2
      rw [List.drop_zero] at l1
      rw [show P.take n1 = P from by rw [← hn]; exact List.take_length ..] at l2
      obtain ⟨r1, hr1⟩ : ∃ r1, lnOf (P.take k) = r1 := ⟨_, rfl⟩
      obtain ⟨r2, hr2⟩ : ∃ r2, lnOf (P.drop k) = r2 := ⟨_, rfl⟩
      have HR1 := keptN hr1
      have HR2 := keptN hr2
      have hsum : r1 + r2 = r := by
        rw [← hr1, ← hr2, l1, l2, ← hr, show (0 + (k - 0)) = k from by omega, show k + (n1 - k) = n1 from by omega, hn]
        simp [lenTo]
        omega
      have hr1b : 0 ≤ r1 ∧ r1 ≤ 400 := by
        have := lenTo_bd P k
        have := hok.1
        rw [← hr1, l1, show (0 + (k - 0)) = k from by omega]
        simp only [lenTo]
        omega
      have hr2b : r ≤ 400 := by have := hok.1; omega
      have us : IntKind.i64.wrap (r1 + r2) = r := by rw [hsum]; exact IntWalk.i64_in _ (by omega)
      have um : IntKind.i64.wrap (8 * (n1 : Int)) = 8 * (n1 : Int) := IntWalk.i64_in _ (by have := hok.1; omega)
      have d2 : decide ((n1 : Int) ≤ r) = true := decide_eq_true (by omega)
      have d3 : decide (r ≤ 8 * (n1 : Int)) = true := decide_eq_true (by omega)
      have hT : NotesAt w3 (.slice a1 k c1) (P.take k) := HX3.out.takeN hk1
      by_cases h0 : 0 < n1
      · obtain ⟨g, off, c', hv, _, _⟩ := HX3.out.nth (k := 0) (by omega)
        injection hv with v1 v9 v2
        subst v1 v2
        clear v9
        have hD : NotesAt w3 (.slice (some ⟨g, off + k * 2, none⟩) (n1 - k) (c1 - k)) (P.drop k) := HX3.out.dropN hk1
        have HT := keptN hT
        have HD := keptN hD
        have b1 : (0 : Int) ≤ (k : Int) := by omega
        have b2 : (k : Int) ≤ (n1 : Int) := by omega
        have b3 : (n1 : Int) ≤ (c1 : Int) := by omega
        have b4 : ¬ c1 = k := by omega
        have b5 : (k : Int) ≤ (c1 : Int) := by omega
        clear hT hD hr hr1 hr2 l1 l2 p1 p2 hok hk hbd hk2 hsum hn hl
        go_wp2_with fail
        go_region_held3 (fun w' => Below w3.heap.size w3 w') (first | assumption | exact (Below.refl _ _).drew) (first | (go_at_call 12; (with_reducible refine (i_LengthOf_far w3 _ (.slice (some ⟨g, off, none⟩) k c1) (P.take k) r1 HT.out ?_ HR1).mono ?_) <;> (first | assumption | rintro e w' ⟨rfl, hbn⟩)) | (go_at_call 12; (with_reducible refine (i_LengthOf_far w3 _ (.slice (some ⟨g, off + k * 2, none⟩) (n1 - k) (c1 - k)) (P.drop k) r2 HD.out ?_ HR2).mono ?_) <;> (first | assumption | rintro e w' ⟨rfl, hbn⟩)))
        all_goals
          go_wp2
          go_ret
          exact ⟨rfl, below_next hB3 (by assumption)⟩
      · obtain rfl : n1 = 0 := by omega
        obtain rfl : k = 0 := by omega
        obtain rfl : P = [] := List.length_eq_zero_iff.1 hn
        have hr00 : r = 0 := by rw [← hr]; rfl
        subst hr00
        have HZ : Hid (lnOf [] = 0) := by show lnOf [] = 0; rw [lnOf_yes hok]; rfl
        have HC := keptN hc
        clear hT hr hr1 hr2 l1 l2 p1 p2 hok hk hbd hk2 hsum hn hl HR1 HR2 HR hr1b hr2b us um d2 d3 t1 h0 hk1
        cases a1 with
        | none =>
          go_wp2_with fail
          go_region_held3 (fun w' => Below w3.heap.size w3 w') (first | assumption | exact (Below.refl _ _).drew) (first | (go_at_call 12; (refine (i_LengthOf_far w3 _ _ [] 0 (nil_notes w3 _ _ (by have := HC.out; omega)) ?_ HZ).mono ?_) <;> (first | assumption | rintro e w' ⟨rfl, hbn⟩)))
          all_goals
            go_wp2
            go_ret
            exact ⟨rfl, below_next hB3 (by assumption)⟩
        | some x =>
          go_wp2_with fail
          go_region_held3 (fun w' => Below w3.heap.size w3 w') (first | assumption | exact (Below.refl _ _).drew) (first | (go_at_call 12; (refine (i_LengthOf_far w3 _ _ [] 0 (nil_notes w3 _ _ (by have := HC.out; omega)) ?_ HZ).mono ?_) <;> (first | assumption | rintro e w' ⟨rfl, hbn⟩)))
          all_goals
            go_wp2
            go_ret
            exact ⟨rfl, below_next hB3 (by assumption)⟩
    · have hr0 : r = -1 := by rw [← hr]; exact lnOf_no hok
      subst hr0
      clear hr
      go_wp2_with fail
      refine (s_LengthOf w3 _ P (-1) HX3.out HR).mono ?_
      rintro e w4 ⟨rfl, hb4⟩
      go_wp2
      go_ret
      exact ⟨rfl, below_next hB3 hb4⟩
  · go_enter Try.func3, Try.ntmps3
    go_wp2
    go_ret
    exact ⟨rfl, Below.refl _ _⟩
end Go.Proofs.Ytdkmbkojipkojaa
