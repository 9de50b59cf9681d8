
/- The choices at a place: the first of them. -/
import Derived.Test.YtohgglhjcklbaaaGd
namespace Go.Proofs.Ytohgglhjcklbaaa
open Go.RowKit

/-- the first choice once the rules of more than m letters, and the first j rules of m letters, are there -/
def HdUp (T : List PRule) (s : ByteArray) (k m j : Nat) (P : List PPiece) : Prop :=
  (P = [] ∧ ∀ i, i < T.length → App (T.getD i noR) s (k : Int) → (T.getD i noR).t.size < m ∨ ((T.getD i noR).t.size = m ∧ j ≤ i)) ∨ ∃ R, P = pcG T s k :: R
theorem HdUp.start {T : List PRule} (hv : ValidTb T) (s : ByteArray) (k : Nat) : HdUp T s k 6 0 [] :=
  .inl ⟨rfl, fun i hi _ => by have := (hv.2.1 i hi).1.2.1; rw [wd_size] at this; omega⟩
theorem HdUp.add {T : List PRule} {s : ByteArray} {k m j : Nat} {P : List PPiece} (h : HdUp T s k m j P) (hj : j < T.length) (hA : App (T.getD j noR) s (k : Int)) (hm : (T.getD j noR).t.size = m) : HdUp T s k m (j + 1) (P ++ [⟨(j : Int), (k : Int), (k : Int) + (m : Int)⟩]) := by
  right
  rcases h with ⟨rfl, h⟩ | ⟨R, rfl⟩
  · refine ⟨[], ?_⟩
    have hb : bst T s k = (j : Int) := Bst.same (lgTo_bst T s k) (.inr ⟨j, rfl, hj, hA, fun i hi hi2 => by have := h i hi hi2; omega⟩)
    rw [List.nil_append, pcG, hb, pcB, if_neg (by omega), szR, Int.toNat_natCast, hm]
  · exact ⟨R ++ [⟨(j : Int), (k : Int), (k : Int) + (m : Int)⟩], rfl⟩
theorem HdUp.skip {T : List PRule} {s : ByteArray} {k m j : Nat} {P : List PPiece} (h : HdUp T s k m j P) (hn : ¬ ((T.getD j noR).t.size = m ∧ App (T.getD j noR) s (k : Int))) : HdUp T s k m (j + 1) P := by
  rcases h with ⟨rfl, h⟩ | h
  · refine .inl ⟨rfl, fun i hi hi2 => ?_⟩
    rcases h i hi hi2 with h1 | ⟨h1, h2⟩
    · exact .inl h1
    · by_cases hij : i = j
      · subst hij; exact absurd ⟨h1, hi2⟩ hn
      · exact .inr ⟨h1, by omega⟩
  · exact .inr h
theorem HdUp.down {T : List PRule} {s : ByteArray} {k m : Nat} {P : List PPiece} (h : HdUp T s k m T.length P) (hm : 0 < m) : HdUp T s k (m - 1) 0 P := by
  rcases h with ⟨rfl, h⟩ | h
  · refine .inl ⟨rfl, fun i hi hi2 => ?_⟩
    rcases h i hi hi2 with h1 | ⟨h1, h2⟩ <;> omega
  · exact .inr h
theorem HdUp.last {T : List PRule} (hv : ValidTb T) {s : ByteArray} {k : Nat} {P : List PPiece} (h : HdUp T s k 0 0 P) : ∃ R, P ++ [⟨-1, (k : Int), (k : Int) + 1⟩] = pcG T s k :: R := by
  rcases h with ⟨rfl, h⟩ | ⟨R, rfl⟩
  · refine ⟨[], ?_⟩
    have hb : bst T s k = -1 := Bst.same (lgTo_bst T s k) (.inl ⟨rfl, fun i hi hi2 => by
      have h1 := (hv.2.1 i hi).1.1
      rw [wd_size] at h1
      have := h i hi hi2
      omega⟩)
    rw [List.nil_append, pcG, hb, pcB, if_pos rfl]
  · exact ⟨_, rfl⟩

set_option maxHeartbeats 4000000 in
theorem choices_head (w : World) (g n c : Nat) (T : List PRule) (s : ByteArray) (k : Nat) (hx : TableAt w (.slice (some ⟨g, 0, none⟩) n c) T) (hn : T.length = n) (hv : Hid (ValidTb T)) (hk : k ≤ 100) :
    Calls Try.prog 92 #[.slice (some ⟨g, 0, none⟩) n c, .string s, .int .i64 k] w fun e w' => ∃ v P, e = .returned v ∧ OwnPc w' w.heap.size v P ∧ (∃ R, P = pcG T s k :: R) ∧ P.length ≤ 100 ∧ Below w.heap.size w w' := by
  have hn16 : n ≤ 16 := by have := hv.out.1; omega
  have HN := Lib.hid hn
  have HX := keptH hx
  have hO0 := OwnPc.made w w.heap.size (Nat.le_refl _)
  have hB0 : Below w.heap.size w (w.alloc (.cells #[] 59)) := (Below.refl _ _).alloc (Nat.le_refl _) _
  have HO0 := keptH hO0
  have HB0 := keptH hB0
  clear hx hn hO0 hB0
  go_enter Try.func92, Try.ntmps92
  go_wp2
  go_loopw [7, 8] (fun o m wr => ∃ (m' : Nat) (P : List PPiece), m' ≤ 6 ∧ m = .int .i64 m' ∧ OwnPc wr w.heap.size o P ∧ P.length + m' * 16 ≤ 96 ∧ Hid (HdUp T s k m' 0 P) ∧ Below w.heap.size w wr) (fun _ m _ => (intOf m).toNat)
  case atStart => exact ⟨6, [], by omega, rfl, HO0.out, by simp, HdUp.start hv.out s k, HB0.out⟩
  case round =>
    obtain ⟨m, P, hm, rfl, hO, hPl, hPc, hb⟩ := hrel
    have hsz := hb.size
    by_cases hm0 : 0 < m
    · have HP0 := keptH hPc
      have bm : (0 : Int) < (m : Int) := by omega
      have um : IntKind.i64.wrap ((m : Int) - 1) = (m : Int) - 1 := IntWalk.i64_in _ (by omega)
      go_wp2_with fail
      go_loopw [7, 9] (fun o i w2 => ∃ (j : Nat) (P' : List PPiece), j ≤ n ∧ i = .int .i64 j ∧ OwnPc w2 w.heap.size o P' ∧ P'.length ≤ P.length + j ∧ Hid (HdUp T s k m j P') ∧ Below w.heap.size w w2) (fun _ i _ => n - (intOf i).toNat)
      case atStart => exact ⟨0, P, by omega, rfl, hO, by omega, HP0.out, hb⟩
      case round =>
        clear hO hb hPc HP0
        obtain ⟨j, P', hj, rfl, hO, hPl', hPc, hb⟩ := hrel
        have hsz2 := hb.size
        by_cases hlt : j < n
        · have hru := (HX.out.below hb).ruleAt HN.out hlt
          have hvr := hv.out.2.1 j (by rw [HN.out]; exact hlt)
          obtain ⟨r, hr⟩ : ∃ r, T.getD j noR = r := ⟨_, rfl⟩
          rw [hr] at hru hvr
          have HRE := Lib.hid hr
          clear hr
          obtain ⟨t, ys, q⟩ := r
          obtain ⟨c0, ⟨u, c1, hu⟩, c2⟩ := hru
          have HU : Hid (IntsAt _ u ys) := hu
          obtain ⟨au, cu, rfl, _⟩ := hu
          simp only at c0 c1 c2
          have HVR := Lib.hid hvr
          clear hvr
          have HPc := keptH hPc
          have HB := keptH hb
          have HO := keptH hO
          clear hPc hb hO
          have b1 : (0 : Int) ≤ (j : Int) := by omega
          have b2 : (j : Int) < (n : Int) := by omega
          by_cases hts : t.size = m
          · have d1 : ((t.size : Int) == (m : Int)) = true := by simp; omega
            obtain ⟨b, hb⟩ : ∃ b, decide (App ⟨t, ys, q⟩ s (k : Int)) = b := ⟨_, rfl⟩
            have HBB := Lib.hid hb
            clear hb
            go_wp2_with fail
            refine (s_applies_v _ _ t ys q s k b HU.out HVR (by omega) HBB).mono ?_
            rintro e w2 ⟨rfl, hb2⟩
            have hO2 := HO.out.below hb2
            have hB2 := HB.out.trans (hb2.mono hsz2)
            have hs2 := hB2.size
            clear hb2 c0 c1 c2
            cases b with
            | true =>
              have u2 : IntKind.i64.wrap ((k : Int) + (m : Int)) = (k : Int) + (m : Int) := IntWalk.i64_in _ (by omega)
              have hA2 := pieceAt_alloc w2 ⟨(j : Int), (k : Int), (k : Int) + (m : Int)⟩
              have hO2a := hO2.below (Below.alloc (Below.refl _ _) (Nat.le_refl _) (.cells #[.int .i64 (j : Int), .int .i64 (k : Int), .int .i64 ((k : Int) + (m : Int))] 59))
              go_wp2_with (at_builtin; go_loud (refine wpList_append_piece rfl _ _ rfl w.heap.size w2.heap.size ⟨(j : Int), (k : Int), (k : Int) + (m : Int)⟩ rfl rfl hO2a hA2 (by omega) (by simp; omega) ?_))
              intro v3 w3 hO3 hg3
              have hB3 := grown_pc hB2 hs2 hO2 hg3
              have HB3 := keptH hB3
              have HO3 := keptH hO3
              have HP3 : Hid (HdUp T s k m (j + 1) (P' ++ [⟨(j : Int), (k : Int), (k : Int) + (m : Int)⟩])) := HPc.out.out.add (by rw [HN.out]; exact hlt) (by rw [HRE.out]; exact of_decide_eq_true HBB.out) (by rw [HRE.out]; exact hts)
              have hl3 : (P' ++ [(⟨(j : Int), (k : Int), (k : Int) + (m : Int)⟩ : PPiece)]).length ≤ P.length + (j + 1) := by simp; omega
              clear hO2 hB2 hA2 hO2a hO3 hB3 hg3
              go_wp2
              go_roundw
              case rel => exact ⟨j + 1, _, by omega, by go_num, HO3.out, hl3, HP3, HB3.out⟩
              case measure => simp [intOf]; omega
            | false =>
              have HB3 := keptH hB2
              have HO3 := keptH hO2
              have HP3 : Hid (HdUp T s k m (j + 1) P') := HPc.out.out.skip (fun h => by rw [HRE.out] at h; exact absurd h.2 (of_decide_eq_false HBB.out))
              clear hO2 hB2
              go_wp2
              go_roundw
              case rel => exact ⟨j + 1, P', by omega, by go_num, HO3.out, by omega, HP3, HB3.out⟩
              case measure => simp [intOf]; omega
          · have d1 : ((t.size : Int) == (m : Int)) = false := by simp; omega
            have HP3 : Hid (HdUp T s k m (j + 1) P') := HPc.out.out.skip (fun h => by rw [HRE.out] at h; exact hts h.1)
            go_wp2
            go_roundw
            case rel => exact ⟨j + 1, P', by omega, by go_num, HO.out, by omega, HP3, HB.out⟩
            case measure => simp [intOf]; omega
        · have HB3 := keptH hb
          have HO3 := keptH hO
          have HP3 : Hid (HdUp T s k (m - 1) 0 P') := HdUp.down (by rw [HN.out, show n = j from by omega]; exact hPc.out) hm0
          clear hb hO
          go_wp2
          go_roundw
          case rel => exact ⟨m - 1, P', by omega, by go_num, HO3.out, by omega, HP3, HB3.out⟩
          case measure => simp [intOf]; omega
    · obtain rfl : m = 0 := by omega
      have hl : P.length ≤ 96 := by omega
      have HB2 := keptH hb
      have HA2 := keptH (pieceAt_alloc wr ⟨-1, (k : Int), (k : Int) + 1⟩)
      have hO2a := hO.below (Below.alloc (Below.refl _ _) (Nat.le_refl _) (.cells #[.int .i64 (-1), .int .i64 (k : Int), .int .i64 ((k : Int) + 1)] 59))
      have HO2 := keptH hO
      have HP0 := keptH hPc
      clear hb hO hPc hPl hm hm0
      go_wp2_with (at_builtin; go_loud (refine wpList_append_piece rfl _ _ rfl w.heap.size wr.heap.size ⟨-1, (k : Int), (k : Int) + 1⟩ rfl rfl hO2a HA2.out (by omega) (by simp; omega) ?_))
      intro v3 w3 hO3 hg3
      have hB3 := grown_pc HB2.out hsz HO2.out hg3
      have HB3 := keptH hB3
      have HO3 := keptH hO3
      have HP3 := keptH (HdUp.last hv.out HP0.out.out)
      clear hO3 hB3 hg3 hO2a
      go_wp2
      go_ret
      exact ⟨_, _, rfl, HO3.out, HP3.out, by simp; omega, HB3.out⟩
end Go.Proofs.Ytohgglhjcklbaaa
