
/- P41: code words are code words; ways of two parts. -/
import Derived.Test.YtimbphkbkhlclaaKe
import Derived.Test.YtimbphkbkhlclaaKd
import Derived.Deep.QuietTactic
import Derived.BigQuiet
namespace Go.Proofs.Ytimbphkbkhlclaa
open Go.RowKit

theorem fcOf_okI {L : List (List Int)} {ys : List Int} (h1 : ValidL ys) (h2 : ys.length ≤ 24) : fcOf L ys true = fc L ys := if_pos ⟨rfl, h1, h2⟩
theorem cnt_join {L : List (List Int)} (hv : ValidCd L) (ys : List Int) : ∀ (n : Nat) (xs : List Int), xs.length ≤ n → cnt L xs * cnt L ys ≤ cnt L (xs ++ ys) := by
  intro n
  induction n with
  | zero =>
    intro xs h
    obtain rfl : xs = [] := List.length_eq_zero_iff.1 (by omega)
    rw [cnt_nil, List.nil_append]; omega
  | succ n ih =>
    intro xs h
    by_cases h0 : xs = []
    · subst h0; rw [cnt_nil, List.nil_append]; omega
    have hl : 1 ≤ xs.length := by
      cases xs with
      | nil => exact absurd rfl h0
      | cons => simp
    have h1 : xs ++ ys ≠ [] := fun e => h0 (List.append_eq_nil_iff.1 e).1
    rw [cnt_cons hv h0, cnt_cons hv h1]
    have key : ∀ k, k ≤ L.length → cTo L xs (fun l => cnt L (xs.drop l)) k * cnt L ys ≤ cTo L (xs ++ ys) (fun l => cnt L ((xs ++ ys).drop l)) k := by
      intro k
      induction k with
      | zero => intro _; show 0 * _ ≤ _; omega
      | succ k ihk =>
        intro hk
        have hi := ihk (by omega)
        have hm := cTo_mono (L := L) (zs := xs ++ ys) (f := fun l => cnt L ((xs ++ ys).drop l)) (show k ≤ k + 1 by omega)
        by_cases hp : xs.take (L.getD k []).length = L.getD k []
        · have hle := begins_len hp
          have hq : (xs ++ ys).take (L.getD k []).length = L.getD k [] := by rw [List.take_append_of_le_length hle]; exact hp
          have e1 : cTo L xs (fun l => cnt L (xs.drop l)) (k + 1) = cTo L xs (fun l => cnt L (xs.drop l)) k + cnt L (xs.drop (L.getD k []).length) := if_pos hp
          have e2 : cTo L (xs ++ ys) (fun l => cnt L ((xs ++ ys).drop l)) (k + 1) = cTo L (xs ++ ys) (fun l => cnt L ((xs ++ ys).drop l)) k + cnt L ((xs ++ ys).drop (L.getD k []).length) := if_pos hq
          have hw := (hv.2.1 k (by omega)).1.1
          have h3 := ih (xs.drop (L.getD k []).length) (by rw [List.length_drop]; omega)
          rw [← List.drop_append_of_le_length hle] at h3
          rw [e1, e2, Nat.add_mul]
          omega
        · have e1 : cTo L xs (fun l => cnt L (xs.drop l)) (k + 1) = cTo L xs (fun l => cnt L (xs.drop l)) k := if_neg hp
          rw [e1]
          omega
    exact key L.length (Nat.le_refl _)
theorem cnt_word {L : List (List Int)} (hv : ValidCd L) {i : Nat} (hi : i < L.length) : 1 ≤ cnt L (L.getD i []) := by
  have := cnt_of_rd hv (Rd.word hi .nil)
  rw [List.append_nil] at this
  exact this
set_option maxHeartbeats 1000000 in
theorem factorCount_walk (a : Option Addr) (len cap : Nat) (zs0 : List Int) (w : World) (h : RowIn .u8 w a len cap zs0) :
    Calls Try.prog 6 #[.slice a len cap] w fun e w' => e = .returned (.bool true) ∧ Below w.heap.size w w' := by
  have hlen : len ≤ 9223372036854775807 := by
    obtain ⟨_, h2, h3⟩ := bytesAt_of_row h; unfold maxLen at h3; omega
  by_cases hbig : len ≤ 1048576
  · go_enter Try.func6, Try.ntmps6
    go_wp2_with fail
    refine (drawFactorCount_any w a len cap zs0 h).mono ?_
    rintro e w1 ⟨_, a1, n1, c1, P, a2, n2, c2, zs, rfl, hL, hI, hP, hL3, hz, hb1, _, hnil⟩
    clear h
    have HX1 := keptC hL
    have HY1 := keptC hI
    have HB1 := keptC hb1
    have HPN : Hid (P.length = n1) := by
      obtain ⟨_, _, e⟩ := listOf hL
      injection e with _ e2 _
      exact e2.symm
    have HZN : Hid (zs.length = n2) := by
      obtain ⟨_, _, e, _⟩ := hI
      injection e with _ e2 _
      exact e2.symm
    have hn1 : n1 ≤ 9 := by have := HPN.out; omega
    have hn2 : n2 ≤ 19 := by have := HZN.out; omega
    have HNIL := keptC hnil
    clear hL hI hb1 hP hL3 hz hnil
    obtain ⟨b, hb⟩ := ValidCd.b P
    have HB := keptC hb
    have HFA : Hid (∀ wx v u ys, ListsAt wx v P → IntsAt wx u ys → Calls Try.prog 23 #[v, u] wx fun e w' => e = .returned (.int .i64 (fcOf P ys b)) ∧ Below wx.heap.size wx w') := fun wx v u ys h1 h2 => i_FactorCount_any wx v u P ys b h1 h2 hb
    obtain ⟨F, hF⟩ : ∃ F, fcOf P zs b = F := ⟨_, rfl⟩
    have HS : Hid (∀ wx v u, ListsAt wx v P → IntsAt wx u zs → Calls Try.prog 21 #[v, u] wx fun e w' => e = .returned (.int .i64 F) ∧ Below wx.heap.size wx w') := fun wx v u h1 h2 => by rw [← hF]; exact s_FactorCount wx v u P zs b h1 h2 hb
    have HI : Hid (∀ wx v u, ListsAt wx v P → IntsAt wx u zs → Calls Try.prog 23 #[v, u] wx fun e w' => e = .returned (.int .i64 F) ∧ Below wx.heap.size wx w') := fun wx v u h1 h2 => by rw [← hF]; exact i_FactorCount_any wx v u P zs b h1 h2 hb
    have HF := keptC hF
    clear hb hF
    go_wp2_with fail
    refine (HI.out w1 _ _ HX1.out HY1.out).mono ?_
    rintro e w2 ⟨rfl, hb2⟩
    have HX2 := keptC (HX1.out.below hb2)
    have HY2 := keptC (HY1.out.below hb2)
    have HB2 := keptC (below_next HB1.out hb2)
    clear hb2
    go_wp2_with fail
    refine (HS.out w2 _ _ HX2.out HY2.out).mono ?_
    rintro e w3 ⟨rfl, hb3⟩
    have HX3 := keptC (HX2.out.below hb3)
    have HY3 := keptC (HY2.out.below hb3)
    have HB3 := keptC (below_next HB2.out hb3)
    clear hb3
    by_cases hF0 : F < 0
    · have d0 : decide (F < 0) = true := decide_eq_true hF0
      go_wp2_with fail
      refine (HS.out w3 _ _ HX3.out HY3.out).mono ?_
      rintro e w4 ⟨rfl, hb4⟩
      have FIN := keptC (below_next HB3.out hb4)
      clear hb4
      go_wp2
      go_ret
      exact ⟨rfl, FIN.out⟩
    · have d0 : decide (F < 0) = false := decide_eq_false hF0
      have hok : b = true ∧ ValidL zs ∧ zs.length ≤ 24 := by
        refine Classical.byContradiction fun h => ?_
        have := HF.out
        unfold fcOf at this
        rw [if_neg h] at this
        omega
      obtain ⟨rfl, hzv, h24⟩ := hok
      have HVV : Hid (ValidCd P) := HB.out.1 rfl
      have HFc : Hid (F = (cnt P zs : Nat)) := by
        show F = _
        rw [← HF.out]
        unfold fcOf
        rw [if_pos ⟨rfl, hzv, h24⟩, fc_cnt HVV.out h24]
      have HZV := keptC hzv
      have H24 : Hid (zs.length ≤ 24) := h24
      have hF24 : F ≤ 16777216 := by have := cnt_24 HVV.out h24; have := HFc.out; omega
      obtain ⟨g2, rfl⟩ := HNIL.out
      have hc2 : n2 ≤ c2 ∧ c2 ≤ 9223372036854775807 := by
        obtain ⟨_, _, e, x1, x2, _⟩ := HY3.out
        injection e with _ e2 e3
        omega
      obtain ⟨hc2, hc2'⟩ := hc2
      clear h24 hzv HI HS HB hF0
      go_wp2_with fail
      go_loopw [6] (fun y wr => ∃ i : Nat, i ≤ n1 ∧ y = .int .i64 i ∧ Below w3.heap.size w3 wr) (fun y _ => n1 - (intOf y).toNat)
      case atStart => exact ⟨0, Nat.zero_le _, rfl, Below.refl _ _⟩
      case round =>
        obtain ⟨i, hi, rfl, hB⟩ := hrel
        by_cases hlt : i < n1
        · obtain ⟨g, off, u3, rfl, c1, hu3⟩ := (HX3.out.below hB).someNth hlt
          obtain ⟨wd, hwd⟩ : ∃ wd, P.getD i [] = wd := ⟨_, rfl⟩
          have hw1 := HVV.out.2.1 i (by rw [HPN.out]; exact hlt)
          have hpos := cnt_word HVV.out (show i < P.length by rw [HPN.out]; exact hlt)
          rw [hwd] at hu3 hw1 hpos
          have HI3 := keptC hu3
          obtain ⟨a4, c4, rfl, _, _, _⟩ := hu3
          have hl24 : wd.length ≤ 24 := by have := hw1.1.2; omega
          obtain ⟨Y, hY⟩ : ∃ Y, fcOf P wd true = Y := ⟨_, rfl⟩
          have hY1 : 1 ≤ Y := by
            rw [← hY, fcOf_okI ⟨by omega, hw1.2⟩ hl24, fc_cnt HVV.out hl24]; omega
          have HFC : Hid (∀ wx v u, ListsAt wx v P → IntsAt wx u wd → Calls Try.prog 23 #[v, u] wx fun e w' => e = .returned (.int .i64 Y) ∧ Below wx.heap.size wx w') := fun wx v u h1 h2 => by rw [← hY]; exact HFA.out wx v u wd h1 h2
          have d1 : decide (Y < 1) = false := decide_eq_false (by omega)
          have HXr := keptC (HX3.out.below hB)
          obtain ⟨l, hl⟩ : ∃ l, wd.length = l := ⟨_, rfl⟩
          rw [hl] at c1 HI3
          have HB := keptC hB
          clear hwd hw1 hpos hl24 hY hY1 hB hl
          go_wp2_with fail
          refine (HFC.out wr _ _ HXr.out HI3.out).mono ?_
          rintro e w5 ⟨rfl, hb5⟩
          have HB5 := keptC (below_next HB.out hb5)
          clear hb5
          go_wp2
          go_roundw
          case rel => exact ⟨i + 1, by omega, by go_num, HB5.out⟩
          case measure => simp [intOf]; omega
        · have HB := keptC hB
          clear hB
          go_wp2_with fail
          go_loopw [7] (fun y wx => ∃ k : Nat, k ≤ n2 + 1 ∧ y = .int .i64 k ∧ Below w3.heap.size w3 wx) (fun y _ => n2 + 1 - (intOf y).toNat)
          case atStart => exact ⟨0, Nat.zero_le _, rfl, HB.out⟩
          case round =>
            clear HB
            obtain ⟨k, hk, rfl, hB⟩ := hrel
            by_cases hle : k ≤ n2
            · have d1 : decide ((k : Int) ≤ n2) = true := decide_eq_true (by omega)
              have htl : (zs.take k).length ≤ 24 := by rw [List.length_take]; have := H24.out; omega
              have hdl : (zs.drop k).length ≤ 24 := by rw [List.length_drop]; have := H24.out; omega
              have hvt : ValidL (zs.take k) := ⟨by omega, fun z hz => HZV.out.2 z (List.mem_of_mem_take hz)⟩
              have hvd : ValidL (zs.drop k) := ⟨by omega, fun z hz => HZV.out.2 z (List.mem_of_mem_drop hz)⟩
              obtain ⟨A, hA⟩ : ∃ A : Nat, cnt P (zs.take k) = A := ⟨_, rfl⟩
              obtain ⟨B, hB2⟩ : ∃ B : Nat, cnt P (zs.drop k) = B := ⟨_, rfl⟩
              have hAB : A * B ≤ cnt P zs := by
                have := cnt_join HVV.out (zs.drop k) k (zs.take k) (by rw [List.length_take]; omega)
                rw [List.take_append_drop, hA, hB2] at this
                exact this
              have HFA1 : Hid (∀ wx v u, ListsAt wx v P → IntsAt wx u (zs.take k) → Calls Try.prog 23 #[v, u] wx fun e w' => e = .returned (.int .i64 (A : Int)) ∧ Below wx.heap.size wx w') := fun wx v u h1 h2 => by
                have := HFA.out wx v u (zs.take k) h1 h2
                rw [fcOf_okI hvt htl, fc_cnt HVV.out htl, hA] at this
                exact this
              have HFB1 : Hid (∀ wx v u, ListsAt wx v P → IntsAt wx u (zs.drop k) → Calls Try.prog 23 #[v, u] wx fun e w' => e = .returned (.int .i64 (B : Int)) ∧ Below wx.heap.size wx w') := fun wx v u h1 h2 => by
                have := HFA.out wx v u (zs.drop k) h1 h2
                rw [fcOf_okI hvd hdl, fc_cnt HVV.out hdl, hB2] at this
                exact this
              obtain ⟨M, hM⟩ : ∃ M : Nat, A * B = M := ⟨_, rfl⟩
              have hMF : (M : Int) ≤ F := by have := HFc.out; omega
              have hMi : (A : Int) * (B : Int) = (M : Int) := by rw [← hM]; exact (Int.natCast_mul A B).symm
              have u1 : IntKind.i64.wrap ((A : Int) * (B : Int)) = (M : Int) := by rw [hMi]; exact IntWalk.i64_in _ (by omega)
              have d2 : decide (F < (M : Int)) = false := decide_eq_false (by omega)
              obtain ⟨ad, had, hdr⟩ : ∃ ad, (if c2 = k then some (⟨g2, 0, none⟩ : Addr) else some ⟨g2, k, none⟩) = some ad ∧ IntsAt w3 (.slice (some ad) (n2 - k) (c2 - k)) (zs.drop k) := by
                by_cases hc : c2 = k
                · refine ⟨_, if_pos hc, ?_⟩
                  have e : zs.drop k = [] := List.drop_eq_nil_of_le (by rw [HZN.out]; omega)
                  rw [e, show n2 - k = 0 from by omega]
                  exact ⟨_, c2 - k, rfl, Nat.zero_le _, by omega, .inl rfl⟩
                · refine ⟨_, if_neg hc, ?_⟩
                  have := HY3.out.dropC k hle
                  rw [Nat.zero_add] at this
                  exact this
              have HT : Hid (IntsAt w3 (.slice (some ⟨g2, 0, none⟩) k c2) (zs.take k)) := HY3.out.takeC k hle
              have HD := keptC hdr
              have HXw : Hid (∀ wx, Below w3.heap.size w3 wx → Calls Try.prog 23 #[.slice a1 n1 c1, .slice (some ⟨g2, 0, none⟩) k c2] wx fun e w' => e = .returned (.int .i64 (A : Int)) ∧ Below wx.heap.size wx w') := fun wx hb => HFA1.out wx _ _ (HX3.out.below hb) (HT.out.below hb)
              have HYw : Hid (∀ wx, Below w3.heap.size w3 wx → Calls Try.prog 23 #[.slice a1 n1 c1, .slice (some ad) (n2 - k) (c2 - k)] wx fun e w' => e = .returned (.int .i64 (B : Int)) ∧ Below wx.heap.size wx w') := fun wx hb => HFB1.out wx _ _ (HX3.out.below hb) (HD.out.below hb)
              have HB := keptC hB
              have HBd : Hid (Below w3.heap.size w3 wr.drew) := keptC hB.drew
              have b1 : (0 : Int) ≤ (k : Int) := by omega
              have b2 : (k : Int) ≤ (n2 : Int) := by omega
              have b3 : (k : Int) ≤ (c2 : Int) := by omega
              have b4 : (n2 : Int) ≤ (c2 : Int) := by omega
              have b5 : k ≤ c2 := by omega
              have n3 : ((k : Int)).toNat = k := by omega
              clear htl hdl hvt hvd hA hB2 hAB hM hMF hMi hdr hB HFA1 HFB1
              go_wp2_with fail
              go_region_held3 (fun wy => True) (exact trivial) (first | (go_at_call 23; (with_reducible refine (HXw.out _ HBd.out).mono ?_); rintro e w5 ⟨rfl, hb5⟩) | (go_at_call 23; (with_reducible refine (HYw.out _ HBd.out).mono ?_); rintro e w5 ⟨rfl, hb5⟩) | (go_at_call 23; (with_reducible refine (HXw.out w5 (below_next HBd.out hb5)).mono ?_); rintro e w6 ⟨rfl, hb6⟩) | (go_at_call 23; (with_reducible refine (HYw.out w5 (below_next HBd.out hb5)).mono ?_); rintro e w6 ⟨rfl, hb6⟩))
              all_goals
                have HB6 := keptC (below_next (below_next HBd.out hb5) hb6)
                clear hb5 hb6
                go_wp2
                go_roundw
                case rel => exact ⟨k + 1, by omega, by go_num, HB6.out⟩
                case measure => simp [intOf]; omega
            · have d1 : decide ((k : Int) ≤ n2) = false := decide_eq_false (by omega)
              have FIN := keptC (below_next HB3.out hB)
              clear hB
              go_wp2
              go_ret
              exact ⟨rfl, FIN.out⟩
  · have hbig' : 1048576 < len := by omega
    go_enter Try.func6, Try.ntmps6
    go_wp2
    go_ret
    exact ⟨rfl, Below.refl _ _⟩
end Go.Proofs.Ytimbphkbkhlclaa
