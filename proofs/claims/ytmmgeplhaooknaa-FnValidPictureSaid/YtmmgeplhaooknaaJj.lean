
/- P126: pictures can lose rows. -/
import Derived.Test.YtmmgeplhaooknaaJh
import Derived.Test.YtmmgeplhaooknaaIc
namespace Go.Proofs.Ytmmgeplhaooknaa
open Go.RowKit

theorem ListsAt.dropI {w : World} {g off n cap : Nat} {L : List (List Int)} (h : ListsAt w (.slice (some ⟨g, off, none⟩) n cap) L) (k : Nat) (hk : k ≤ n) : ListsAt w (.slice (some ⟨g, off + k, none⟩) (n - k) (cap - k)) (L.drop k) := by
  obtain ⟨a', cap', h1, h2, h3, h4⟩ := h
  injection h1 with e1 e2 e3
  subst e1 e3
  have hl : (L.drop k).length = n - k := by rw [List.length_drop]; omega
  refine ⟨_, _, by rw [hl], by rw [hl]; omega, by omega, ?_⟩
  rcases h4 with h4 | ⟨g', off', h4, h5⟩
  · subst h4; exact .inl (by simp)
  · injection h4 with h4
    injection h4 with h4 h4' _
    subst h4 h4'
    refine .inr ⟨g, off + k, rfl, fun i hi => ?_⟩
    rw [hl] at hi
    have e : (L.drop k).getD i [] = L.getD (k + i) [] := by simp [List.getD_eq_getElem?_getD]
    rw [e, Nat.add_assoc]
    exact h5 (k + i) (by omega)
theorem block_drop {L : List (List Int)} (h : BlockOk L 24 24 1) (h2 : 2 ≤ L.length) : BlockOk (L.drop 1) 24 24 1 := by
  have e : ∀ i, (L.drop 1).getD i [] = L.getD (1 + i) [] := fun i => by rw [List.getD_eq_getElem?_getD, List.getElem?_drop, ← List.getD_eq_getElem?_getD]
  have hl : (L.drop 1).length = L.length - 1 := by rw [List.length_drop]
  have hw : ((L.drop 1).getD 0 []).length = (L.getD 0 []).length := by rw [e 0]; exact (h.2.2 1 (by omega)).1
  have hd := h.bd
  refine ⟨by rw [hl]; omega, by rw [hw]; exact h.2.1, ?_⟩
  rw [hw, hl]
  intro i hi
  have h3 := h.2.2 (1 + i) (by omega)
  refine ⟨by rw [e i]; exact h3.1, fun j hj => ?_⟩
  have h4 := h3.2 j hj
  unfold px at h4 ⊢
  rw [e i]; exact h4
set_option maxHeartbeats 4000000 in
theorem validPicture_walk (a : Option Addr) (len cap : Nat) (zs : List Int) (w : World) (h : RowIn .u8 w a len cap zs) :
    Calls Try.prog 3 #[.slice a len cap] w fun e w' => e = .returned (.bool true) ∧ Below w.heap.size w w' := by
  have hlen : len ≤ 9223372036854775807 := by
    obtain ⟨_, h2, h3⟩ := bytesAt_of_row h; unfold maxLen at h3; omega
  by_cases hbig : len ≤ 1048576
  · go_enter Try.func3, Try.ntmps3
    go_wp2_with fail
    refine (drawValidPicture_any w a len cap zs h).mono ?_
    rintro e w1 ⟨a1, n1, c1, P, rfl, hP1, hbd, hB1⟩
    clear h
    have hn1 : P.length = n1 := by
      obtain ⟨_, _, e, _⟩ := hP1
      injection e with _ e2 _
      exact e2.symm
    have HN1 := Lib.hid hn1
    have HP1 := keptI hP1
    have HB1 := keptI hB1
    obtain ⟨b, hb⟩ := boolOfI (BlockOk P 24 24 1)
    have HI : Hid (Calls Try.prog 19 #[.slice a1 n1 c1] w1 fun e w' => e = .returned (.bool b) ∧ w1 = w') := (i_ValidPicture w1 _ P HP1.out).mono fun _ _ ⟨b', h1, h2, h3⟩ => ⟨by rw [h1, bool_same h3 hb], h2⟩
    have HS : Hid (∀ wy, Below w1.heap.size w1 wy → Calls Try.prog 20 #[.slice a1 n1 c1] wy fun e w' => e = .returned (.bool b) ∧ Below wy.heap.size wy w') := fun wy hby => (s_ValidPicture wy _ P (HP1.out.below hby)).mono fun _ _ ⟨b', h1, h2, h3⟩ => ⟨by rw [h1, bool_same h3 hb], h2⟩
    have HBB := keptI hb
    have db : (b != b) = false := by simp
    have db2 : (b == b) = true := by simp
    clear hP1 hbd hB1 hn1 hb
    go_wp2_with fail
    refine HI.out.mono ?_
    rintro e w' ⟨rfl, rfl⟩
    go_wp2_with fail
    refine (HS.out w1 (Below.refl _ _)).mono ?_
    rintro e w2 ⟨rfl, hb2⟩
    have HB2 := keptI hb2
    have HB12 := keptI (below_next HB1.out hb2)
    clear hb2
    cases b with
    | false =>
      clear db db2
      go_wp2_with fail
      refine (HS.out w2 HB2.out).mono ?_
      rintro e w3 ⟨rfl, hb3⟩
      have HB3 := keptI (below_next HB12.out hb3)
      clear hb3
      go_wp2
      go_ret
      exact ⟨rfl, HB3.out⟩
    | true =>
      clear db db2
      have HOK : Hid (BlockOk P 24 24 1) := HBB.out.1 rfl
      by_cases h2 : n1 < 2
      · have d1 : decide ((n1 : Int) < 2) = true := decide_eq_true (by omega)
        go_wp2_with fail
        refine (HS.out w2 HB2.out).mono ?_
        rintro e w3 ⟨rfl, hb3⟩
        have HB3 := keptI (below_next HB12.out hb3)
        clear hb3
        go_wp2
        go_ret
        exact ⟨rfl, HB3.out⟩
      · have d1 : decide ((n1 : Int) < 2) = false := decide_eq_false (by omega)
        have hpic := HOK.out.pic (HP1.out.below HB2.out)
        obtain ⟨m, hm⟩ : ∃ m, wdt P = m := ⟨_, rfl⟩
        rw [hm] at hpic
        have hd := HOK.out.bd
        rw [hm, HN1.out] at hd
        obtain ⟨hd1, hd2, hd3, hd4⟩ := hd
        obtain ⟨hcap, hcap2, _⟩ := id hpic.2
        obtain ⟨g, off, b0, o0, d0, rfl, c00, _, _, _⟩ := hpic.2.row (y := 0) hd1
        rw [Nat.add_zero] at c00
        have q0 : (0 : Int) < (n1 : Int) := by omega
        have HDR := keptI (block_drop HOK.out (by rw [HN1.out]; omega))
        have HPD := keptI ((HP1.out.below HB2.out).dropI 1 (by omega))
        have HV : Hid (Calls Try.prog 19 #[.slice (some ⟨g, off + 1, none⟩) (n1 - 1) (c1 - 1)] w2 fun e w' => e = .returned (.bool true) ∧ w2 = w') := (i_ValidPicture w2 _ _ HPD.out).mono fun _ _ ⟨b', h1, h2, h3⟩ => ⟨by rw [h1, h3.2 HDR.out], h2⟩
        have hc1 : ¬ c1 = 1 := by omega
        clear hpic hm
        go_wp2_with fail
        refine HV.out.mono ?_
        rintro e w' ⟨rfl, rfl⟩
        go_wp2
        go_ret
        exact ⟨ret_bool (decide_eq_true (by omega)), HB12.out⟩
  · have d : decide (len ≤ 1048576) = false := decide_eq_false hbig
    have hl : (1048576 : Int) < len := by omega
    clear h
    go_enter Try.func3, Try.ntmps3
    go_wp2
    go_ret
    exact ⟨rfl, Below.refl _ _⟩
end Go.Proofs.Ytmmgeplhaooknaa
