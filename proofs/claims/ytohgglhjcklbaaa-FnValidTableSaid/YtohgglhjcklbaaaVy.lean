
/- FnValidTable: its draw, its walk. -/
import Derived.Test.YtohgglhjcklbaaaVx
import Derived.Test.YtohgglhjcklbaaaRdB
namespace Go.Proofs.Ytohgglhjcklbaaa
open Go.RowKit

/-- a drawn table, as a law sees it -/
def TabMade (w : World) (e : Ending) (w' : World) : Prop :=
  ∃ S g n cap Q, e = .returned (.slice (some ⟨g, 0, none⟩) n cap) ∧ TabOwn w' S (.slice (some ⟨g, 0, none⟩) n cap) Q ∧ Hid (Q.length = n) ∧ TableFits (tabOf Q) ∧ n ≤ 9 ∧ S ≤ w'.heap.size ∧ Below w.heap.size w w'
set_option maxHeartbeats 400000 in
theorem drawValidTable_any (w : World) (a : Option Addr) (len cap : Nat) (zs : List Int) (h : RowIn .u8 w a len cap zs) :
    Calls Try.prog 23 #[.slice a len cap] w fun e w' => TabMade w e w' := by
  obtain ⟨h1, h2, h3⟩ := bytesAt_of_row h
  clear h
  go_enter Try.func23, Try.ntmps23
  go_wp2_with fail
  refine (newReader_any w _ a len cap h1 (Nat.le_refl _) h2 h3).mono ?_
  rintro e w1 ⟨L, rfl, hrd, hgr⟩
  go_wp2_with fail
  refine (anyTable_any w1 _ _ L 0 hrd (by omega)).mono ?_
  rintro e w2 ⟨v, Q, q, rfl, hT, hF, hlen, hrd2, hq, hgr2⟩
  obtain ⟨g, c, hv⟩ := hT.2.2
  subst hv
  have FIN := keptH (And.intro hT (And.intro hF (And.intro hgr2.size (below_of_grown (grown_new hgr hgr2 (Nat.le_refl _))))))
  clear hT hF
  go_wp2
  go_ret
  exact ⟨_, g, _, c, Q, rfl, FIN.out.1, rfl, FIN.out.2.1, hlen, FIN.out.2.2.1, FIN.out.2.2.2⟩

theorem wout_getD (T : List PRule) (i j : Nat) : (T.take i ++ T.drop (i + 1)).getD j noR = T.getD (if j < i then j else j + 1) noR := by
  rw [← List.eraseIdx_eq_take_drop_succ, List.getD_eq_getElem?_getD, List.getElem?_eraseIdx, List.getD_eq_getElem?_getD]
  split <;> rfl
theorem tabOf_wout (Q : List (PRule × Value)) (i : Nat) : tabOf (wout Q i) = (tabOf Q).take i ++ (tabOf Q).drop (i + 1) := by
  simp [tabOf, wout, List.map_take, List.map_drop]
theorem wout_len (T : List PRule) (i : Nat) (hi : i < T.length) : (T.take i ++ T.drop (i + 1)).length = T.length - 1 := by
  rw [← List.eraseIdx_eq_take_drop_succ, List.length_eraseIdx_of_lt hi]
theorem validTb_wout {Q : List (PRule × Value)} {i : Nat} (hi : i < Q.length) (h : ValidTb (tabOf Q)) : ValidTb (tabOf (wout Q i)) := by
  have hl : i < (tabOf Q).length := by rw [tabOf_len]; exact hi
  rw [tabOf_wout]
  generalize tabOf Q = T at h hl ⊢
  obtain ⟨h1, h2, h3⟩ := h
  have hlen := wout_len T i hl
  refine ⟨by omega, fun j hj => ?_, fun j k hj hk => ?_⟩
  · rw [wout_getD]
    exact h2 _ (by split <;> omega)
  · rw [wout_getD, wout_getD]
    exact h3 _ _ (by split <;> omega) (by split <;> split <;> omega)
theorem fits_wout {Q : List (PRule × Value)} {i : Nat} (h : TableFits (tabOf Q)) : TableFits (tabOf (wout Q i)) := by
  intro x hx
  obtain ⟨q, hq, rfl⟩ := List.mem_map.1 hx
  exact h _ (List.mem_map.2 ⟨q, wout_mem hq, rfl⟩)
theorem tableAt_nil (w : World) : TableAt w (.slice none 0 0) [] := ⟨none, 0, rfl, Nat.le_refl _, by omega, .inl rfl⟩
theorem fits_nil : TableFits [] := fun x hx => by simp at hx

set_option maxHeartbeats 2000000 in
theorem validTable_walk (a : Option Addr) (len cap : Nat) (zs : List Int) (w : World) (h : RowIn .u8 w a len cap zs) :
    Calls Try.prog 6 #[.slice a len cap] w fun e w' => e = .returned (.bool true) ∧ Below w.heap.size w w' := by
  have hlen : len ≤ 9223372036854775807 := by
    obtain ⟨_, h2, h3⟩ := bytesAt_of_row h; unfold maxLen at h3; omega
  by_cases hbig : len ≤ 1048576
  · go_enter Try.func6, Try.ntmps6
    go_wp2_with fail
    refine (drawValidTable_any w a len cap zs h).mono ?_
    rintro e w1 ⟨S, g, n, c1, Q, rfl, hT, HN, hF, hn9, hS, hb1⟩
    clear h
    obtain ⟨b, HB⟩ : ∃ b : Bool, Hid (b = true ↔ ValidTb (tabOf Q)) := by
      by_cases hv : ValidTb (tabOf Q)
      · exact ⟨true, show _ ↔ _ from ⟨fun _ => hv, fun _ => rfl⟩⟩
      · exact ⟨false, show _ ↔ _ from ⟨fun e => by simp at e, fun e => absurd e hv⟩⟩
    have HF := keptH hF
    clear hF
    go_wp2_with fail
    refine (i_ValidTable w1 _ (tabOf Q) b hT.at HF.out HB).mono ?_
    rintro e w2 ⟨rfl, hb2⟩
    have hT2 := hT.below hb2
    have hS2 : S ≤ w2.heap.size := Nat.le_trans hS hb2.size
    have hB2 := below_next hb1 hb2
    clear hT hb1 hb2 hS
    go_wp2_with fail
    refine (s_ValidTable w2 _ (tabOf Q) b hT2.at HF.out HB).mono ?_
    rintro e w3 ⟨rfl, hb3⟩
    have hT3 := hT2.below hb3
    have hS3 : S ≤ w3.heap.size := Nat.le_trans hS2 hb3.size
    have hB3 := below_next hB2 hb3
    clear hT2 hB2 hb3 hS2
    cases b with
    | false =>
      go_wp2_with fail
      refine (s_ValidTable w3 _ (tabOf Q) false hT3.at HF.out HB).mono ?_
      rintro e w4 ⟨rfl, hb4⟩
      have FIN := keptH (below_next hB3 hb4)
      clear hT3
      go_wp2
      go_ret
      exact ⟨rfl, FIN.out⟩
    | true =>
      have HV : Hid (ValidTb (tabOf Q)) := HB.out.1 rfl
      have HT := keptH hT3
      have HB3 := keptH hB3
      clear hT3 HB hB3
      go_wp2_with fail
      go_loopw [5] (fun i wr => ∃ k : Nat, k ≤ n ∧ i = .int .i64 k ∧ Below w3.heap.size w3 wr) (fun i _ => n - (intOf i).toNat)
      case atStart => exact ⟨0, Nat.zero_le _, rfl, Below.refl _ _⟩
      case round =>
        obtain ⟨k, hk, rfl, hbr⟩ := hrel
        have hsz := hbr.size
        by_cases hlt : k < n
        · have hTr := keptH (HT.out.below hbr)
          go_wp2_with fail
          refine (withoutRule_any wr S g n c1 k Q hTr.out HN hlt (by omega) (by omega)).mono ?_
          rintro e wa ⟨g', c', rfl, hTa, hba⟩
          go_wp2_with fail
          refine (i_ValidTable wa _ (tabOf (wout Q k)) true hTa.at (fits_wout HF.out) (show _ ↔ _ from ⟨fun _ => validTb_wout (by rw [HN.out]; exact hlt) HV.out, fun _ => rfl⟩)).mono ?_
          rintro e wb ⟨rfl, hbb⟩
          have NXT := keptH (hbr.trans (Below.mono (below_next hba hbb) hsz))
          clear hTa hba hbb
          go_wp2
          go_roundw
          case rel => exact ⟨k + 1, by omega, by go_num, NXT.out⟩
          case measure => simp [intOf]; omega
        · have HBr := keptH hbr
          go_wp2_with fail
          refine (i_ValidTable wr _ [] true (tableAt_nil wr) fits_nil (show _ ↔ _ from ⟨fun _ => validTb_nil, fun _ => rfl⟩)).mono ?_
          rintro e wb ⟨rfl, hbb⟩
          have FIN := keptH (below_next (below_next HB3.out HBr.out) hbb)
          go_wp2
          go_ret
          exact ⟨rfl, FIN.out⟩
  · have hbig' : 1048576 < len := by omega
    go_enter Try.func6, Try.ntmps6
    go_wp2
    go_ret
    exact ⟨rfl, Below.refl _ _⟩
end Go.Proofs.Ytohgglhjcklbaaa
