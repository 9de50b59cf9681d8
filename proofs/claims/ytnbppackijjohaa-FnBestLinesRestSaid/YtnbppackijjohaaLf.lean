
/- The laws of LineCost. -/
import Derived.Test.YtnbppackijjohaaLe
import Derived.Test.YtnbppackijjohaaLd
import Derived.Test.YtnbppackijjohaaCb
namespace Go.Proofs.Ytnbppackijjohaa
open Go.RowKit

set_option maxHeartbeats 2000000 in
theorem exLineCost_walk (a : Option Addr) (len cap : Nat) (L : List (List Int)) (W : Int) (w : World) (hx : ListsAt w (.slice a len cap) L) :
    Calls Try.prog 12 #[.slice a len cap, .int .i64 W] w fun e w' => e = .returned (.bool true) ∧ Below w.heap.size w w' := by
  have HX := Lib.hid hx
  obtain ⟨b, hb⟩ := boolOf (LinesOk L W)
  have HI : Hid (∀ wx v, ListsAt wx v L → Calls Try.prog 22 #[v, .int .i64 W] wx fun e w' => e = .returned (.int .i64 (lcOf L W b)) ∧ wx = w') := fun wx v h => i_LineCost wx v L W b h hb
  have HS : Hid (∀ wx v, ListsAt wx v L → Calls Try.prog 23 #[v, .int .i64 W] wx fun e w' => e = .returned (.int .i64 (lcOf L W b)) ∧ wx = w') := fun wx v h => s_LineCost wx v L W b h hb
  obtain ⟨C, hC⟩ : ∃ C, lcOf L W b = C := ⟨_, rfl⟩
  rw [hC] at HI HS
  clear hb hx hC
  go_enter Try.func12, Try.ntmps12
  go_wp2_with fail
  refine (szIntSS_any w _ L HX.out).mono ?_
  rintro e w1 ⟨l, rfl, hb1, hl⟩
  rcases hl with rfl | ⟨hl0, hl1, hsm⟩
  · go_wp2
    go_ret
    exact ⟨rfl, hb1⟩
  · have HSM := Lib.hid hsm
    have d1 : decide (l < 0) = false := decide_eq_false (by omega)
    clear hsm
    go_wp2_with fail
    refine (toIntSS_any w1 _ L (HX.out.below hb1) HSM.out).mono ?_
    rintro e w2 ⟨u2, rfl, ht2, hb2⟩
    have hB2 := below_next hb1 hb2
    go_wp2_with fail
    refine (HS.out w2 _ ht2).mono ?_
    rintro e w3 ⟨rfl, rfl⟩
    clear ht2
    go_wp2_with fail
    refine (toIntSS_any w2 _ L (HX.out.below hB2) HSM.out).mono ?_
    rintro e w4 ⟨u4, rfl, ht4, hb4⟩
    have hB4 := below_next hB2 hb4
    go_wp2_with fail
    refine (HI.out w4 _ ht4).mono ?_
    rintro e w5 ⟨rfl, rfl⟩
    go_wp2_with fail
    refine (toIntSS_any w4 _ L (HX.out.below hB4) HSM.out).mono ?_
    rintro e w6 ⟨u6, rfl, ht6, hb6⟩
    have hB6 := below_next hB4 hb6
    have ht46 := ht4.below hb6
    clear ht4
    go_wp2_with fail
    refine (eqIntSS_same w6 _ _ L ht46 ht6).mono ?_
    rintro e w7 ⟨rfl, hb7⟩
    go_wp2
    go_ret
    exact ⟨rfl, below_next hB6 hb7⟩

theorem ListsAt.dropL {w : World} {g off n cap : Nat} {L : List (List Int)} (h : ListsAt w (.slice (some ⟨g, off, none⟩) n cap) L) (k : Nat) (hk : k ≤ n) : ListsAt w (.slice (some ⟨g, off + k, none⟩) (n - k) (cap - k)) (L.drop k) := by
  obtain ⟨a', cap', h1, h2, h3, h4⟩ := h
  injection h1 with e1 e2 e3
  subst e1 e2 e3
  refine ⟨_, _, by rw [List.length_drop], by rw [List.length_drop]; omega, by omega, ?_⟩
  rcases h4 with h4 | ⟨g', off', h4, h5⟩
  · subst h4; exact .inl (by simp)
  · injection h4 with h4
    injection h4 with e1 e2 _
    subst e1 e2
    refine .inr ⟨g, off + k, rfl, fun i hi => ?_⟩
    rw [List.length_drop] at hi
    obtain ⟨u, h6, h7⟩ := h5 (k + i) (by omega)
    refine ⟨u, by rw [Nat.add_assoc]; exact h6, ?_⟩
    rw [List.getD_eq_getElem?_getD, List.getElem?_drop, ← List.getD_eq_getElem?_getD]
    exact h7
theorem LinesOk.drop {L : List (List Int)} {W : Int} (h : LinesOk L W) (k : Nat) : LinesOk (L.drop k) W := by
  refine ⟨by rw [List.length_drop]; have := h.1; omega, h.2.1, fun i hi => ?_⟩
  rw [List.length_drop] at hi
  rw [List.getD_eq_getElem?_getD, List.getElem?_drop, ← List.getD_eq_getElem?_getD]
  exact h.2.2 (k + i) (by omega)
set_option maxRecDepth 20000 in
set_option maxHeartbeats 4000000 in
theorem lineCost_walk (a : Option Addr) (len cap : Nat) (zs : List Int) (w : World) (h : RowIn .u8 w a len cap zs) :
    Calls Try.prog 6 #[.slice a len cap] w fun e w' => e = .returned (.bool true) ∧ Below w.heap.size w w' := by
  have hlen : len ≤ 9223372036854775807 := by
    obtain ⟨_, h2, h3⟩ := bytesAt_of_row h; unfold maxLen at h3; omega
  by_cases hbig : len ≤ 1048576
  · go_enter Try.func6, Try.ntmps6
    go_wp2_with fail
    refine (drawLineCost_any w a len cap zs h).mono ?_
    rintro e w1 ⟨S, a1, n1, c1, P, W, rfl, hO, hP, hW, hb1⟩
    clear h
    have HX1 := keptL hO.at
    have HB1 := keptL hb1
    have HPN : Hid (P.length = n1) := by
      obtain ⟨_, _, e, _⟩ := hO.at
      injection e with _ e2 _
      exact e2.symm
    have hn14 : n1 ≤ 14 := by have := HPN.out; omega
    have hcap : n1 ≤ c1 ∧ c1 ≤ 9223372036854775807 := by
      obtain ⟨_, _, e, e1, e2, _⟩ := hO.at
      injection e with _ e3 e4
      omega
    clear hO hb1 hP
    obtain ⟨b, hb⟩ := boolOf (LinesOk P W)
    have HI : Hid (∀ wx v, ListsAt wx v P → Calls Try.prog 22 #[v, .int .i64 W] wx fun e w' => e = .returned (.int .i64 (lcOf P W b)) ∧ wx = w') := fun wx v h => i_LineCost wx v P W b h hb
    have HS : Hid (∀ wx v, ListsAt wx v P → Calls Try.prog 23 #[v, .int .i64 W] wx fun e w' => e = .returned (.int .i64 (lcOf P W b)) ∧ wx = w') := fun wx v h => s_LineCost wx v P W b h hb
    cases b with
    | false =>
      have hC : lcOf P W false = -1 := rfl
      rw [hC] at HI HS
      clear hb hC
      go_wp2_with fail
      refine (HI.out w1 _ HX1.out).mono ?_
      rintro e w2 ⟨rfl, rfl⟩
      go_wp2_with fail
      refine (HS.out w1 _ HX1.out).mono ?_
      rintro e w2 ⟨rfl, rfl⟩
      go_wp2_with fail
      refine (HS.out w1 _ HX1.out).mono ?_
      rintro e w2 ⟨rfl, rfl⟩
      go_wp2
      go_ret
      exact ⟨rfl, HB1.out⟩
    | true =>
      have HOK : Hid (LinesOk P W) := hb.1 rfl
      obtain ⟨C, hC⟩ : ∃ C, lcOf P W true = C := ⟨_, rfl⟩
      rw [hC] at HI HS
      have HC : Hid (costL W P = C) := hC
      clear hb hC
      have hC0 : 0 ≤ C ∧ C ≤ 48000 := by
        have key : ∀ Q : List (List Int), (∀ x ∈ Q, (x.length : Int) ≤ W) → 0 ≤ costL W Q ∧ costL W Q ≤ 1600 * Q.length := by
          intro Q
          induction Q with
          | nil => intro _; exact ⟨Int.le_refl _, by simp [costL]⟩
          | cons x r ih =>
            intro hq
            cases r with
            | nil => exact ⟨Int.le_refl _, by simp [costL]⟩
            | cons y r =>
              have h1 := ih fun z hz => hq z (List.mem_cons_of_mem _ hz)
              have h2 := sqFree_le (hq x (by simp)) HOK.out.2.1.2
              show 0 ≤ sqFree W x + costL W (y :: r) ∧ sqFree W x + costL W (y :: r) ≤ _
              simp only [List.length_cons] at h1 ⊢
              omega
        have h1 := key P fun x hx => (HOK.out.2.2.all x hx).1
        rw [HC.out] at h1
        have := HOK.out.1
        omega
      obtain ⟨hC0, hC1⟩ := hC0
      have d0 : decide (C < 0) = false := decide_eq_false (by omega)
      go_wp2_with fail
      refine (HI.out w1 _ HX1.out).mono ?_
      rintro e w2 ⟨rfl, rfl⟩
      go_wp2_with fail
      refine (HS.out w1 _ HX1.out).mono ?_
      rintro e w2 ⟨rfl, rfl⟩
      clear HI HS
      by_cases h2 : n1 < 2
      · have HZ : Hid (C = 0) := by
          show C = 0
          have := costL_last W P (k := 0) (by have := HPN.out; omega)
          rw [List.drop_zero, HC.out] at this
          exact this
        have d2 : decide ((n1 : Int) < 2) = true := decide_eq_true (by omega)
        have q1 : (C == 0) = true := by rw [HZ.out]; rfl
        go_wp2
        go_ret
        exact ⟨rfl, HB1.out⟩
      · have d2 : decide ((n1 : Int) < 2) = false := decide_eq_false (by omega)
        obtain ⟨g, off, u, rfl, c0, hu⟩ := HX1.out.someNth (i := 0) (by omega)
        obtain ⟨a3, c3, rfl, y1, y2, _⟩ := hu
        rw [Nat.add_zero] at c0
        obtain ⟨m, hm⟩ : ∃ m, (P.getD 0 []).length = m := ⟨_, rfl⟩
        rw [hm] at y1 c0
        have hmW : (m : Int) ≤ W := by
          have := (HOK.out.2.2 0 (by rw [HPN.out]; omega)).1
          rw [hm] at this; exact this
        obtain ⟨s, hs⟩ : ∃ s, (W - (m : Int)) * (W - (m : Int)) = s := ⟨_, rfl⟩
        have HSQ := Lib.hid hs
        obtain ⟨d, hd, hd40, hm2, hs0, hs1⟩ := sq_nat HSQ hmW HOK.out.2.1.2
        have HDR : Hid (ListsAt w1 (.slice (some ⟨g, off + 1, none⟩) (n1 - 1) (c1 - 1)) (P.drop 1)) := HX1.out.dropL 1 (by omega)
        have HCC : Hid (C = lcOf (P.drop 1) W true + s) := by
          show _ = _
          have := costL_drop W P (k := 0) (by have := HPN.out; omega)
          rw [List.drop_zero, HC.out, Nat.zero_add] at this
          unfold sqFree at this
          rw [hm, hs] at this
          show C = costL W (P.drop 1) + s
          omega
        have HI2 : Hid (∀ wx v, ListsAt wx v (P.drop 1) → Calls Try.prog 22 #[v, .int .i64 W] wx fun e w' => e = .returned (.int .i64 (lcOf (P.drop 1) W true)) ∧ wx = w') := fun wx v h => i_LineCost wx v (P.drop 1) W true h (show _ ↔ _ from ⟨fun _ => HOK.out.drop 1, fun _ => rfl⟩)
        obtain ⟨D, hD⟩ : ∃ D, lcOf (P.drop 1) W true = D := ⟨_, rfl⟩
        rw [hD] at HI2 HCC
        have u1 : IntKind.i64.wrap (W - (m : Int)) = (d : Int) := by rw [hd]; exact IntWalk.i64_in _ (by omega)
        have u2 : IntKind.i64.wrap ((d : Int) * (d : Int)) = s := by rw [hm2]; exact IntWalk.i64_in _ (by omega)
        have u3 : IntKind.i64.wrap (D + s) = C := by rw [← HCC.out]; exact IntWalk.i64_in _ (by omega)
        have e1 : ¬ c1 = 1 := by omega
        clear hd hm2 hs hm HC HCC hD
        go_wp2_with fail
        refine (HI2.out w1 _ HDR.out).mono ?_
        rintro e w2 ⟨rfl, rfl⟩
        go_wp2
        go_ret
        exact ⟨by first | rfl | simp [u1, u2, u3], HB1.out⟩
  · have hbig' : 1048576 < len := by omega
    go_enter Try.func6, Try.ntmps6
    go_wp2
    go_ret
    exact ⟨rfl, Below.refl _ _⟩
end Go.Proofs.Ytnbppackijjohaa
