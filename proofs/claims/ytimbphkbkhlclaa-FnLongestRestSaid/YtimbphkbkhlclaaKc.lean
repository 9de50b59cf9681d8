
/- P48: the longest rest. -/
import Derived.Test.YtimbphkbkhlclaaKb
namespace Go.Proofs.Ytimbphkbkhlclaa
open Go.RowKit

theorem mxTo_ge {R : List (List Int)} : ∀ k i, i < k → (R.getD i []).length ≤ mxTo R k := by
  intro k
  induction k with
  | zero => intro i h; omega
  | succ k ih =>
    intro i hi
    show _ ≤ max (mxTo R k) _
    by_cases e : i = k
    · subst e; omega
    · have := ih i (by omega); omega
theorem mxTo_le {R : List (List Int)} {m : Nat} : ∀ k, (∀ i, i < k → (R.getD i []).length ≤ m) → mxTo R k ≤ m := by
  intro k
  induction k with
  | zero => intro _; exact Nat.zero_le _
  | succ k ih =>
    intro h
    show max (mxTo R k) _ ≤ m
    have h1 := ih fun i hi => h i (by omega)
    have h2 := h k (by omega)
    omega
theorem lr_facts {L : List (List Int)} (hv : ValidCd L) {F : Int} (k : LrOf L true true F) : ∃ x : Nat, F = x ∧ (x = 0 ↔ PFree L) ∧ x < max 1 (mxTo L L.length) := by
  obtain ⟨N, h1, rfl⟩ := k
  have hF := h1 ⟨rfl, rfl⟩
  have hok := restN_ok hv N hF.1
  have hlen := fin_len hF
  refine ⟨mxTo (restN L N) N, by unfold longR; rw [if_pos ⟨rfl, rfl⟩], ⟨fun h => ?_, fun h => ?_⟩, ?_⟩
  · have hN : N = 0 := by
      refine Classical.byContradiction fun hN => ?_
      have h2 := mxTo_ge (R := restN L N) N 0 (by omega)
      have h3 := (hok.2 _ (lmem_of_getD hlen (by omega : 0 < N) rfl)).ne
      omega
    subst hN
    have : restN L 0 = [] := List.length_eq_zero_iff.1 hlen
    exact (putAll_nil L.length).1 this
  · obtain rfl := hF.same (fin_zero h).1
    rfl
  · refine Nat.lt_of_le_of_lt (mxTo_le (m := max 1 (mxTo L L.length) - 1) N fun i hi => ?_) (by omega)
    obtain ⟨p, j, h4, h5, h6, h7⟩ := hok.2 _ (lmem_of_getD hlen hi rfl)
    have h8 := mxTo_ge (R := L) L.length p h4
    rw [h7, List.length_drop]
    omega
set_option maxHeartbeats 2000000 in
theorem longestRest_walk (a : Option Addr) (len cap : Nat) (zs : List Int) (w : World) (h : RowIn .u8 w a len cap zs) :
    Calls Try.prog 13 #[.slice a len cap] w fun e w' => e = .returned (.bool true) ∧ Below w.heap.size w w' := by
  have hlen : len ≤ 9223372036854775807 := by
    obtain ⟨_, h2, h3⟩ := bytesAt_of_row h; unfold maxLen at h3; omega
  by_cases hbig : len ≤ 1048576
  · go_enter Try.func13, Try.ntmps13
    go_wp2_with fail
    refine (drawLongestRest_any w a len cap zs h).mono ?_
    rintro e w1 ⟨S, a1, n1, c1, P, rfl, hO, hP, hL3, hb1⟩
    clear h
    have HX1 := keptC hO.at
    have HB1 := keptC hb1
    have HPN : Hid (P.length = n1) := by
      obtain ⟨_, _, e⟩ := listOf hO.at
      injection e with _ e2 _
      exact e2.symm
    have hn9 : n1 ≤ 9 := by have := HPN.out; omega
    have HL3 := keptC hL3
    clear hO hb1 hP hL3
    obtain ⟨b, hb⟩ := ValidCd.b P
    obtain ⟨u, hu⟩ := Uniq.b P
    have HB := keptC hb
    have HU := keptC hu
    clear hb hu
    go_wp2_with fail
    refine (i_LongestRest_f w1 _ P b u HX1.out HB HU).mono ?_
    rintro e w2 ⟨F, hF, rfl, hb2⟩
    have HX2 := keptC (HX1.out.below hb2)
    have HB2 := keptC (below_next HB1.out hb2)
    have HFF := keptC hF
    clear hb2 hF
    go_wp2_with fail
    refine (s_LongestRest_f w2 _ P b u HX2.out HB HU).mono ?_
    rintro e w3 ⟨G, hG, rfl, hb3⟩
    obtain rfl := HFF.out.same hG
    have HX3 := keptC (HX2.out.below hb3)
    have HB3 := keptC (below_next HB2.out hb3)
    clear hb3 hG
    go_wp2_with fail
    refine (i_ValidCode w3 _ P b HX3.out HB).mono ?_
    rintro e w4 ⟨rfl, hb4⟩
    have HX4 := keptC (HX3.out.below hb4)
    have HB4 := keptC (below_next HB3.out hb4)
    clear hb4
    cases b with
    | false =>
      go_wp2_with fail
      refine (s_LongestRest_f w4 _ P false u HX4.out HB HU).mono ?_
      rintro e w5 ⟨G, hG, rfl, hb5⟩
      obtain rfl := HFF.out.same hG
      have FIN := keptC (below_next HB4.out hb5)
      clear hb5 hG
      go_wp2
      go_ret
      exact ⟨rfl, FIN.out⟩
    | true =>
      have HVV : Hid (ValidCd P) := HB.out.1 rfl
      obtain ⟨pf, hpf⟩ : ∃ pf, decide (PFree P) = pf := ⟨_, rfl⟩
      have HPF := keptC hpf
      clear HB hpf
      go_wp2_with fail
      go_loopw [5, 6] (fun ms y wr => ∃ k : Nat, k ≤ n1 ∧ y = .int .i64 k ∧ ms = .int .i64 (max 1 (mxTo P k) : Nat) ∧ wr = w4) (fun _ y _ => n1 - (intOf y).toNat)
      case atStart => exact ⟨0, Nat.zero_le _, rfl, rfl, rfl⟩
      case round =>
        obtain ⟨k, hk, rfl, rfl, rfl⟩ := hrel
        obtain ⟨mx, hmx⟩ : ∃ mx, max 1 (mxTo P k) = mx := ⟨_, rfl⟩
        have HMX := keptC hmx
        rw [hmx]
        clear hmx
        by_cases hlt : k < n1
        · obtain ⟨g, off, u3, rfl, c1, hu3⟩ := HX4.out.someNth hlt
          obtain ⟨a3, c3, rfl, _, _, _⟩ := hu3
          obtain ⟨l3, hl3⟩ : ∃ l3, (P.getD k []).length = l3 := ⟨_, rfl⟩
          rw [hl3] at c1
          obtain ⟨mm, hmm⟩ : ∃ mm : Nat, max mx l3 = mm := ⟨_, rfl⟩
          have HM' : Hid (max 1 (mxTo P (k + 1)) = mm) := by
            show max 1 (max (mxTo _ k) _) = _
            rw [hl3, ← hmm, ← HMX.out]; omega
          have hxm : (if mx < l3 then (l3 : Int) else (mx : Int)) = (mm : Int) := by rw [← hmm]; split <;> omega
          clear hl3 hmm
          go_wp2
          go_roundw
          case rel => exact ⟨k + 1, by omega, by go_num, by rw [HM'.out], trivial⟩
          case measure => simp [intOf]; omega
        · obtain rfl : n1 = k := by omega
          have HXw := keptC HX4.out
          have HVVw := keptC HVV.out
          have hmx1 : 1 ≤ mx := by have := HMX.out; omega
          cases u with
          | false =>
            have HF1 : Hid (F = -1) := by
              obtain ⟨N, _, h2⟩ := HFF.out
              rw [h2]; exact if_neg (fun h => by simp at h)
            obtain rfl := HF1.out
            have hpf : pf = false := by
              rw [← HPF.out]
              refine decide_eq_false fun h => ?_
              have := HU.out.2 (uniq_of_pfree h)
              simp at this
            subst hpf
            have d1 : decide ((-1 : Int) < (mx : Int)) = true := decide_eq_true (by omega)
            clear HF1 HFF hmx1
            go_wp2_with fail
            refine (i_IsPrefixFree _ _ P false HXw.out HVVw HPF).mono ?_
            rintro e w6 ⟨rfl, hb6⟩
            have HX6 := keptC (HXw.out.below hb6)
            have HB6 := keptC (below_next HB4.out hb6)
            clear hb6
            go_wp2_with fail
            refine (i_IsUnique w6 _ P true false HX6.out (show _ ↔ _ from ⟨fun _ => HVVw.out, fun _ => rfl⟩) HU).mono ?_
            rintro e w7 ⟨rfl, hb7⟩
            have FIN := keptC (below_next HB6.out hb7)
            clear hb7
            go_wp2
            go_ret
            exact ⟨rfl, FIN.out⟩
          | true =>
            obtain ⟨x, rfl, hx0, hxl⟩ := lr_facts HVVw.out HFF.out
            rw [HPN.out, HMX.out] at hxl
            have HUU : Hid (Uniq P) := HU.out.1 rfl
            have hxm : x < mx := by omega
            have d2 : decide ((0 : Int) ≤ (x : Int)) = true := decide_eq_true (by omega)
            have d3 : decide ((x : Int) < 0) = false := decide_eq_false (by omega)
            have q0 : ((x : Int) == 0) = pf := by
              rw [← HPF.out]
              by_cases h : x = 0
              · rw [decide_eq_true (hx0.1 h)]; subst h; rfl
              · rw [decide_eq_false (fun k => h (hx0.2 k))]; simp; omega
            clear HU HFF hx0 hxl hmx1
            go_wp2_with fail
            refine (i_IsPrefixFree _ _ P pf HXw.out HVVw HPF).mono ?_
            rintro e w6 ⟨rfl, hb6⟩
            have HX6 := keptC (HXw.out.below hb6)
            have HB6 := keptC (below_next HB4.out hb6)
            clear hb6
            go_wp2_with fail
            refine (i_IsUnique w6 _ P true true HX6.out (show _ ↔ _ from ⟨fun _ => HVVw.out, fun _ => rfl⟩) (show _ ↔ _ from ⟨fun _ => HUU.out, fun _ => rfl⟩)).mono ?_
            rintro e w7 ⟨rfl, hb7⟩
            have FIN := keptC (below_next HB6.out hb7)
            clear hb7
            go_wp2
            go_ret
            exact ⟨rfl, FIN.out⟩
  · have hbig' : 1048576 < len := by omega
    go_enter Try.func13, Try.ntmps13
    go_wp2
    go_ret
    exact ⟨rfl, Below.refl _ _⟩
end Go.Proofs.Ytimbphkbkhlclaa
