
/- The rests of a code, in the program. -/
import Derived.Test.YtdjgodemeaneeaaCo
namespace Go.Proofs.Ytdjgodemeaneeaa
open Go.RowKit

def RowMade (R : List (List Int)) (base eb : Nat) (w : World) (e : Ending) (w' : World) : Prop := ∃ a n c, e = .returned (.slice a n c) ∧ OwnLs w' base eb (.slice a n c) R ∧ Below base w w'
set_option maxHeartbeats 4000000 in
theorem i_withRest (w : World) (base eb : Nat) (v u u2 : Value) (R : List (List Int)) (xs ys : List Int) (hO : OwnLs w base eb v R) (hx : ElOk w eb u xs) (hy : IntsAt w u2 ys) (hl : R.length ≤ 1000) (hs : base ≤ w.heap.size) :
    Calls Try.prog 91 #[v, u, u2] w fun e w' => RowMade (putL R xs ys) base eb w e w' := by
  have HO := keptC hO
  have HX := keptC hx
  have HY := keptC hy
  obtain ⟨ao, no, co, hoo⟩ := hO.isSlice
  subst hoo
  obtain ⟨a, c, hu, x1, x2, _⟩ := hx.1
  subst hu
  obtain ⟨a', d, hu, y1, y2, _⟩ := hy
  subst hu
  obtain ⟨n, hn⟩ : ∃ n, xs.length = n := ⟨_, rfl⟩
  obtain ⟨m, hm⟩ : ∃ m, ys.length = m := ⟨_, rfl⟩
  rw [hn] at x1 HX ⊢
  rw [hm] at y1 HY ⊢
  have HN := Lib.hid hn
  have HM := Lib.hid hm
  clear hO hx
  by_cases hb : xs.take ys.length = ys
  · have HB : Hid (decide (xs.take ys.length = ys) = true) := decide_eq_true hb
    have hle : m ≤ n := by have := begins_len hb; omega
    by_cases hlt : m < n
    · have HP : Hid (Pre xs ys) := ⟨by omega, hb⟩
      obtain ⟨g, off, rfl⟩ := HX.out.1.addrC (by omega)
      have HD : Hid (IntsAt w (.slice (some ⟨g, off + m, none⟩) (n - m) (c - m)) (xs.drop ys.length)) := by
        rw [HM.out]; exact HX.out.1.dropC m (by omega)
      have HE : Hid (ElOk w eb (.slice (some ⟨g, off + m, none⟩) (n - m) (c - m)) (xs.drop ys.length)) := ⟨HD.out, fun b hb => HX.out.2.1 b hb, .inr ⟨_, _, _, rfl⟩⟩
      have q1 : ((n : Int) == (m : Int)) = false := by simp; omega
      have d2 : ¬ c = m := by omega
      have b1 : (0 : Int) ≤ (m : Int) := by omega
      have b2 : (m : Int) ≤ (n : Int) := by omega
      have n1 : ((m : Int)).toNat = m := by omega
      by_cases hin : xs.drop ys.length ∈ R
      · have HH : Hid (decide (xs.drop ys.length ∈ R) = true) := decide_eq_true hin
        have HR : Hid (putL R xs ys = R) := putL_old hin
        clear hb hin hn hm
        go_enter Try.func91, Try.ntmps91
        go_wp2_with fail
        refine (i_beginsWith_b w _ _ xs ys true HX.out.1 HY.out HB).mono ?_
        rintro e w1 ⟨rfl, hb1⟩
        go_wp2_with fail
        refine (i_hasList_b w1 _ _ R (xs.drop ys.length) true (HO.out.at.below hb1) (HD.out.below hb1) HH).mono ?_
        rintro e w2 ⟨rfl, hb2⟩
        have FIN := keptC (below_next hb1 hb2)
        clear hb1 hb2
        go_wp2
        go_ret
        exact ⟨_, _, _, rfl, by rw [HR.out]; exact HO.out.below FIN.out, FIN.out.mono hs⟩
      · have HH : Hid (decide (xs.drop ys.length ∈ R) = false) := decide_eq_false hin
        have HR : Hid (putL R xs ys = R ++ [xs.drop ys.length]) := putL_new HP.out hin
        clear hb hin hn hm
        go_enter Try.func91, Try.ntmps91
        go_wp2_with fail
        refine (i_beginsWith_b w _ _ xs ys true HX.out.1 HY.out HB).mono ?_
        rintro e w1 ⟨rfl, hb1⟩
        go_wp2_with fail
        refine (i_hasList_b w1 _ _ R (xs.drop ys.length) false (HO.out.at.below hb1) (HD.out.below hb1) HH).mono ?_
        rintro e w2 ⟨rfl, hb2⟩
        have hB := below_next hb1 hb2
        have hal : Below w2.heap.size w2 (w2.alloc (.cells #[.slice (some ⟨g, off + m, none⟩) (n - m) (c - m)] 31)) := (Below.refl _ _).alloc (Nat.le_refl _) _
        have HO8 := keptC ((HO.out.below hB).below hal)
        have HE8 := keptC ((HE.out.below hB).below hal)
        have HC8 : Hid ((w2.alloc (.cells #[.slice (some ⟨g, off + m, none⟩) (n - m) (c - m)] 31)).cell? ⟨w2.heap.size, 0, none⟩ = some (.slice (some ⟨g, off + m, none⟩) (n - m) (c - m))) := by
          show _ = _
          rw [cell_of_row _ w2.heap.size 0 _ _ _ (heap_alloc_new w2 _)]; rfl
        have HS8 : Hid (R.length ≤ 100000 ∧ base ≤ (w2.alloc (.cells #[.slice (some ⟨g, off + m, none⟩) (n - m) (c - m)] 31)).heap.size) := ⟨by omega, Nat.le_trans (Nat.le_trans hs hB.size) hal.size⟩
        have HO2 := keptC (HO.out.below hB)
        have hs2 := Nat.le_trans hs hB.size
        have HB2 := keptC (hB.mono hs)
        clear hb1 hb2 hB hal
        go_wp2_with (at_builtin; go_loud (refine wpList_append_ls rfl _ _ rfl base eb w2.heap.size (xs.drop ys.length) rfl rfl HO8.out HC8.out HE8.out rfl HS8.out.1 HS8.out.2 ?_))
        intro v' w7 hown' hgrow
        obtain ⟨a7, n7, c7, h7⟩ := hown'.isSlice
        subst h7
        have HO7 := keptC hown'
        have HB7 := keptC (grown_ls HB2.out hs2 HO2.out hgrow)
        clear hown' hgrow
        go_wp2
        go_ret
        exact ⟨_, _, _, rfl, by rw [HR.out]; exact HO7.out, HB7.out⟩
    · have HP : Hid (¬ Pre xs ys) := fun h => by have := h.1; omega
      have HR : Hid (putL R xs ys = R) := putL_no HP.out
      have q1 : ((n : Int) == (m : Int)) = true := by simp; omega
      clear hb hn hm
      go_enter Try.func91, Try.ntmps91
      go_wp2_with fail
      refine (i_beginsWith_b w _ _ xs ys true HX.out.1 HY.out HB).mono ?_
      rintro e w1 ⟨rfl, hb1⟩
      have FIN := keptC hb1
      clear hb1
      go_wp2
      go_ret
      exact ⟨_, _, _, rfl, by rw [HR.out]; exact HO.out.below FIN.out, FIN.out.mono hs⟩
  · have HB : Hid (decide (xs.take ys.length = ys) = false) := decide_eq_false hb
    have HR : Hid (putL R xs ys = R) := putL_no fun h => hb h.2
    clear hb hn hm
    go_enter Try.func91, Try.ntmps91
    go_wp2_with fail
    refine (i_beginsWith_b w _ _ xs ys false HX.out.1 HY.out HB).mono ?_
    rintro e w1 ⟨rfl, hb1⟩
    have FIN := keptC hb1
    clear hb1
    go_wp2
    go_ret
    exact ⟨_, _, _, rfl, by rw [HR.out]; exact HO.out.below FIN.out, FIN.out.mono hs⟩
end Go.Proofs.Ytdjgodemeaneeaa
