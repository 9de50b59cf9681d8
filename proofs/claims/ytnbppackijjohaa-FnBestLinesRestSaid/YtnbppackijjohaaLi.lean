
/- Lines as full as can be: both sides. -/
import Derived.Test.YtnbppackijjohaaLh
import Derived.Test.YtnbppackijjohaaLd
namespace Go.Proofs.Ytnbppackijjohaa
open Go.RowKit

theorem FillFrom.le {W : Int} {S R : List (List Int)} (h : FillFrom W S R) : R.length ≤ S.length := by
  induction h with
  | done => simp
  | step hf _ ih =>
    have h1 := hf.1
    have h2 := hf.2.1
    rw [List.length_drop] at ih
    simp only [List.length_cons]
    omega
def FillRes (L : List (List Int)) (W : Int) (b : Bool) (R : List (List Int)) : Prop := if b then FillFrom W L R else R = []
theorem FillRes.same {L : List (List Int)} {W : Int} {b : Bool} {R R' : List (List Int)} (h : FillRes L W b R) (k : FillRes L W b R') : R = R' := by
  unfold FillRes at h k
  cases b
  · simp at h k; rw [h, k]
  · simp at h k; exact h.same k
/-- the call made lists -/
def LsOut (R : List (List Int)) (w : World) (e : Ending) (w' : World) : Prop := ∃ a n c, e = .returned (.slice a n c) ∧ OwnLs w' w.heap.size 0 (.slice a n c) R ∧ Below w.heap.size w w'
def FillUp (W : Int) (L acc : List (List Int)) (k : Nat) : Prop := ∀ rest, FillFrom W (L.drop k) rest → FillFrom W L (acc ++ rest)
theorem below_nextL {B : Nat} {a b c : World} (h : Below B a b) (hs : B ≤ b.heap.size) (k : Below b.heap.size b c) : Below B a c := h.trans (k.mono hs)
theorem FillUp.zero (W : Int) (L : List (List Int)) : FillUp W L [] 0 := fun _ h => h
theorem FillUp.more {W : Int} {L acc : List (List Int)} {k c : Nat} (h : FillUp W L acc k) (hf : Full W (L.drop k) c) : FillUp W L (acc ++ [pack ((L.drop k).take c)]) (k + c) := fun rest hr => by
  rw [List.append_assoc]
  refine h _ (.step hf ?_)
  rw [List.drop_drop]
  exact hr
theorem FillUp.all {W : Int} {L acc : List (List Int)} {k : Nat} (h : FillUp W L acc k) (hk : L.length ≤ k) : FillFrom W L acc := by
  have := h [] (by rw [List.drop_eq_nil_of_le hk]; exact .done)
  rwa [List.append_nil] at this
theorem FillOk.len {L : List (List Int)} {W : Int} (h : FillOk L W) : Len40 L := UpLen h.2.2 h.2.1.2
theorem FillOk.min {L : List (List Int)} {W : Int} (h : FillOk L W) : MinL L := fun k hk => by have := (h.2.2 k hk).1; omega
set_option maxHeartbeats 2000000 in
theorem i_FillLines (w : World) (v : Value) (L : List (List Int)) (W : Int) (b : Bool) (hx : ListsAt w v L) (hb : Hid (b = true ↔ FillOk L W)) :
    Calls Try.prog 16 #[v, .int .i64 W] w fun e w' => ∃ R, FillRes L W b R ∧ LsOut R w e w' := by
  have HX := keptL hx
  obtain ⟨a, cp, rfl, x1, x2, _⟩ := hx
  obtain ⟨n, hn⟩ : ∃ n, L.length = n := ⟨_, rfl⟩
  rw [hn] at x1 HX ⊢
  have HN := Lib.hid hn
  clear hn
  have hO0 := OwnLs.nil w w.heap.size 0 (Nat.zero_le _)
  cases b with
  | false =>
    go_enter Try.func16, Try.ntmps16
    go_wp2_with fail
    refine (i_canFill_b w _ L W false HX.out hb).mono ?_
    rintro e w1 ⟨rfl, rfl⟩
    clear hb
    go_wp2
    go_ret
    exact ⟨[], rfl, _, _, _, rfl, hO0, Below.refl _ _⟩
  | true =>
    have HOK : Hid (FillOk L W) := hb.out.1 rfl
    have hn30 : n ≤ 30 := by have := HOK.out.1; rw [HN.out] at this; exact this
    go_enter Try.func16, Try.ntmps16
    go_wp2_with fail
    refine (i_canFill_b w _ L W true HX.out (show _ ↔ _ from ⟨fun _ => HOK.out, fun _ => rfl⟩)).mono ?_
    rintro e w1 ⟨rfl, rfl⟩
    clear hb
    go_wp2_with fail
    go_loopw [5, 6] (fun o i wr => ∃ (k : Nat) (acc : List (List Int)), k ≤ n ∧ i = .int .i64 k ∧ OwnLs wr w.heap.size 0 o acc ∧ Below w.heap.size w wr ∧ acc.length ≤ k ∧ Hid (FillUp W L acc k)) (fun _ i _ => n - (intOf i).toNat)
    case atStart => exact ⟨0, [], Nat.zero_le _, rfl, hO0, Below.refl _ _, by simp, FillUp.zero _ _⟩
    case round =>
      clear hO0
      obtain ⟨k, acc, hk, rfl, hO, hB, hacc, HU⟩ := hrel
      obtain ⟨ao, no, co, hoo⟩ := hO.isSlice
      subst hoo
      have HO := keptL hO
      have HB := keptL hB
      have hsz := hB.size
      clear hO hB
      by_cases hlt : k < n
      · have HXr : Hid (ListsAt wr (.slice a n cp) L) := HX.out.below HB.out
        obtain ⟨g, off, u, rfl, _, _⟩ := HX.out.someNth hlt
        go_wp2_with fail
        refine (i_fullEnd wr _ L k W HXr.out (by rw [HN.out]; exact hlt) (by rw [HN.out]; exact hn30) HOK.out.len).mono ?_
        rintro e w2 ⟨c, rfl, rfl, hF⟩
        have hc1 := hF.1
        have hc2 : k + c ≤ n := by have := hF.2.1; rw [List.length_drop, HN.out] at this; omega
        have HUP : Hid (FillUp W L (acc ++ [pack ((L.drop k).take c)]) (k + c)) := HU.out.more hF
        have HS : Hid (ListsAt wr (.slice (some ⟨g, off + k, none⟩) c (cp - k)) ((L.drop k).take c)) := (HXr.out.dropL k (by omega)).take c (by omega)
        have hl : ((L.drop k).take c).length = c := by rw [List.length_take, List.length_drop, HN.out]; omega
        have b1 : (0 : Int) ≤ (k : Int) := by omega
        clear hF
        go_wp2_with fail
        refine (i_lineOf wr _ _ HS.out (by omega) ((HOK.out.len.drop _).take _) ((HOK.out.min.drop _).take _)).mono ?_
        rintro e w3 ⟨a6, n6, c6, rfl, hI, hb3⟩
        have HO3 := keptL (HO.out.below hb3)
        have HB3 := keptL (below_nextL HB.out hsz hb3)
        have HI3 := keptL hI
        have hsz3 := HB3.out.size
        clear hI hb3
        have hal : Below w3.heap.size w3 (w3.alloc (.cells #[.slice a6 n6 c6] 28)) := (Below.refl _ _).alloc (Nat.le_refl _) _
        have HO8 := keptL (HO3.out.below hal)
        have HE8 : Hid (ElOk (w3.alloc (.cells #[.slice a6 n6 c6] 28)) 0 (.slice a6 n6 c6) (pack ((L.drop k).take c))) := ElOk.of_own (HI3.out.below hal)
        have HC8 : Hid ((w3.alloc (.cells #[.slice a6 n6 c6] 28)).cell? ⟨w3.heap.size, 0, none⟩ = some (.slice a6 n6 c6)) := by
          show _ = _
          rw [cell_of_row _ w3.heap.size 0 _ _ _ (heap_alloc_new w3 _)]; rfl
        have HS8 : Hid (acc.length ≤ 100000 ∧ w.heap.size ≤ (w3.alloc (.cells #[.slice a6 n6 c6] 28)).heap.size) := ⟨by omega, Nat.le_trans hsz3 hal.size⟩
        clear hal
        go_wp2_with (at_builtin; go_loud (refine wpList_append_ls rfl _ _ rfl w.heap.size 0 w3.heap.size (pack ((L.drop k).take c)) rfl rfl HO8.out HC8.out HE8.out rfl HS8.out.1 HS8.out.2 ?_))
        intro v9 w9 hown9 hgrow9
        have HO9 := keptL hown9
        have HB9 := keptL (grown_ls HB3.out hsz3 HO3.out hgrow9)
        clear hown9 hgrow9
        go_wp2
        go_roundw
        case rel => exact ⟨k + c, acc ++ [pack ((L.drop k).take c)], hc2, by go_num, HO9.out, HB9.out, by simp; omega, HUP.out⟩
        case measure => simp [intOf]; omega
      · obtain rfl : k = n := by omega
        have HF : Hid (FillFrom W L acc) := HU.out.all (by rw [HN.out]; omega)
        clear HU
        go_wp2
        go_ret
        exact ⟨acc, HF.out, _, _, _, rfl, HO.out, HB.out⟩
set_option maxHeartbeats 2000000 in
theorem s_FillLines (w : World) (v : Value) (L : List (List Int)) (W : Int) (b : Bool) (hx : ListsAt w v L) (hb : Hid (b = true ↔ FillOk L W)) :
    Calls Try.prog 18 #[v, .int .i64 W] w fun e w' => ∃ R, FillRes L W b R ∧ LsOut R w e w' := by
  have HX := keptL hx
  obtain ⟨a, cp, rfl, x1, x2, _⟩ := hx
  obtain ⟨n, hn⟩ : ∃ n, L.length = n := ⟨_, rfl⟩
  rw [hn] at x1 HX ⊢
  have HN := Lib.hid hn
  clear hn
  cases b with
  | false =>
    go_enter Try.func18, Try.ntmps18
    go_wp2_with fail
    refine (s_validWords_b w _ L W false HX.out hb).mono ?_
    rintro e w1 ⟨rfl, rfl⟩
    clear hb
    go_wp2
    go_ret
    exact ⟨[], rfl, _, _, _, rfl, OwnLs.nil w w.heap.size 0 (Nat.zero_le _), Below.refl _ _⟩
  | true =>
    have HOK : Hid (FillOk L W) := hb.out.1 rfl
    have hn30 : n ≤ 30 := by have := HOK.out.1; rw [HN.out] at this; exact this
    have hO0 := OwnLs.made w w.heap.size 0 (Nat.zero_le _) (Nat.le_refl _)
    have hB0 : Below w.heap.size w (w.alloc (.cells #[] 28)) := (Below.refl _ _).alloc (Nat.le_refl _) _
    go_enter Try.func18, Try.ntmps18
    go_wp2_with fail
    refine (s_validWords_b w _ L W true HX.out (show _ ↔ _ from ⟨fun _ => HOK.out, fun _ => rfl⟩)).mono ?_
    rintro e w1 ⟨rfl, rfl⟩
    clear hb
    go_wp2_with fail
    go_loopw [5, 6] (fun o i wr => ∃ (k : Nat) (acc : List (List Int)), k ≤ n ∧ i = .int .i64 k ∧ OwnLs wr w.heap.size 0 o acc ∧ Below w.heap.size w wr ∧ acc.length ≤ k ∧ Hid (FillUp W L acc k)) (fun _ i _ => n - (intOf i).toNat)
    case atStart => exact ⟨0, [], Nat.zero_le _, rfl, hO0, hB0, by simp, FillUp.zero _ _⟩
    case round =>
      clear hO0 hB0
      obtain ⟨k, acc, hk, rfl, hO, hB, hacc, HU⟩ := hrel
      obtain ⟨ao, no, co, hoo⟩ := hO.isSlice
      subst hoo
      have HO := keptL hO
      have HB := keptL hB
      have hsz := hB.size
      clear hO hB
      by_cases hlt : k < n
      · obtain ⟨g, off, u, rfl, _, _⟩ := HX.out.someNth hlt
        have b1 : (0 : Int) ≤ (k : Int) := by omega
        obtain ⟨wo, rfl⟩ : ∃ wo, wo = wr := ⟨wr, rfl⟩
        go_wp2
        go_loopw [7] (fun t wi => ∃ c : Nat, 1 ≤ c ∧ k + c ≤ n ∧ t = .int .i64 ((k + c : Nat) : Int) ∧ Hid (Fit W (L.drop k) c) ∧ Hid (Below wo.heap.size wo wi)) (fun t _ => n - (intOf t).toNat)
        case atStart => exact ⟨1, Nat.le_refl _, by omega, by go_num, Fit.one _ _, Below.refl _ _⟩
        case round =>
          obtain ⟨c, hc1, hcn, rfl, HF, HBi⟩ := hrel
          obtain ⟨wi, rfl⟩ : ∃ wi, wi = wr := ⟨wr, rfl⟩
          by_cases hcl : k + c < n
          · have HBv := keptL (below_nextL HB.out hsz HBi.out)
            have HXi : Hid (ListsAt wi (.slice (some ⟨g, off, none⟩) n cp) L) := HX.out.below HBv.out
            have HS : Hid (ListsAt wi (.slice (some ⟨g, off + k, none⟩) (k + c + 1 - k) (cp - k)) ((L.drop k).take (c + 1))) := by
              rw [show k + c + 1 - k = c + 1 from by omega]
              exact (HXi.out.dropL k (by omega)).take (c + 1) (by omega)
            have hl : ((L.drop k).take (c + 1)).length = c + 1 := by rw [List.length_take, List.length_drop, HN.out]; omega
            have d1 : decide (((k + c : Nat) : Int) < (n : Int)) = true := decide_eq_true (by omega)
            clear HXi HBv
            go_wp2_with fail
            refine (s_pack wi _ _ HS.out (by omega) ((HOK.out.len.drop _).take _) ((HOK.out.min.drop _).take _)).mono ?_
            rintro e w3 ⟨a6, n6, c6, rfl, hI, hb3⟩
            have HBn := keptL (below_nextL HBi.out HBi.out.size hb3)
            have hn6 : (pack ((L.drop k).take (c + 1))).length = n6 := by
              obtain ⟨_, _, e, _⟩ := hI.at
              injection e with _ e2 _
              exact e2.symm
            have HP : Hid (((pack ((L.drop k).take (c + 1))).length : Int) = (n6 : Int)) := by show _ = _; rw [hn6]
            clear hI hb3 hn6
            by_cases hpW : (n6 : Int) ≤ W
            · have dp : decide ((n6 : Int) ≤ W) = true := decide_eq_true hpW
              have HF' := keptL (HF.out.succ HP hpW)
              clear HF HP HS
              go_wp2
              go_roundw
              case rel => exact ⟨c + 1, by omega, by omega, by go_num, HF'.out, HBn.out⟩
              case measure => simp [intOf]; omega
            · have dp : decide ((n6 : Int) ≤ W) = false := decide_eq_false hpW
              have HR : Hid (Full W (L.drop k) c) := ⟨hc1, by rw [List.length_drop, HN.out]; omega, HF.out, .inr (by rw [HP.out]; omega)⟩
              clear HF HP HS hl
              have HUP : Hid (FillUp W L (acc ++ [pack ((L.drop k).take c)]) (k + c)) := HU.out.more HR.out
              have HBx := keptL HBn.out
              have HOx := keptL (HO.out.below HBx.out)
              have HBw := keptL (below_nextL HB.out hsz HBx.out)
              have HSx : Hid (ListsAt w3 (.slice (some ⟨g, off + k, none⟩) c (cp - k)) ((L.drop k).take c)) := ((HX.out.below HBw.out).dropL k (by omega)).take c (by omega)
              have hlx : ((L.drop k).take c).length = c := by rw [List.length_take, List.length_drop, HN.out]; omega
              have hszx := HBw.out.size
              clear HR
              go_wp2_with fail
              refine (s_pack w3 _ _ HSx.out (by omega) ((HOK.out.len.drop _).take _) ((HOK.out.min.drop _).take _)).mono ?_
              rintro e w7 ⟨a7, n7, c7, rfl, hI, hb7⟩
              have HO3 := keptL (HOx.out.below hb7)
              have HB3 := keptL (below_nextL HBw.out hszx hb7)
              have HI3 := keptL hI
              have hsz3 := HB3.out.size
              clear hI hb7
              have hal : Below w7.heap.size w7 (w7.alloc (.cells #[.slice a7 n7 c7] 28)) := (Below.refl _ _).alloc (Nat.le_refl _) _
              have HO8 := keptL (HO3.out.below hal)
              have HE8 : Hid (ElOk (w7.alloc (.cells #[.slice a7 n7 c7] 28)) 0 (.slice a7 n7 c7) (pack ((L.drop k).take c))) := ElOk.of_own (HI3.out.below hal)
              have HC8 : Hid ((w7.alloc (.cells #[.slice a7 n7 c7] 28)).cell? ⟨w7.heap.size, 0, none⟩ = some (.slice a7 n7 c7)) := by
                show _ = _
                rw [cell_of_row _ w7.heap.size 0 _ _ _ (heap_alloc_new w7 _)]; rfl
              have HS8 : Hid (acc.length ≤ 100000 ∧ w.heap.size ≤ (w7.alloc (.cells #[.slice a7 n7 c7] 28)).heap.size) := ⟨by omega, Nat.le_trans hsz3 hal.size⟩
              clear hal
              go_wp2_with (at_builtin; go_loud (refine wpList_append_ls rfl _ _ rfl w.heap.size 0 w7.heap.size (pack ((L.drop k).take c)) rfl rfl HO8.out HC8.out HE8.out rfl HS8.out.1 HS8.out.2 ?_))
              intro v9 w9 hown9 hgrow9
              have HO9 := keptL hown9
              have HB9 := keptL (grown_ls HB3.out hsz3 HO3.out hgrow9)
              clear hown9 hgrow9
              go_wp2
              go_roundw
              case rel => exact ⟨k + c, acc ++ [pack ((L.drop k).take c)], by omega, by go_num, HO9.out, HB9.out, by simp; omega, HUP.out⟩
              case measure => simp [intOf]; omega
          · have HR : Hid (Full W (L.drop k) c) := ⟨hc1, by rw [List.length_drop, HN.out]; omega, HF.out, .inl (by rw [List.length_drop, HN.out]; omega)⟩
            have d1 : decide (((k + c : Nat) : Int) < (n : Int)) = false := decide_eq_false (by omega)
            clear HF
            have HUP : Hid (FillUp W L (acc ++ [pack ((L.drop k).take c)]) (k + c)) := HU.out.more HR.out
            have HBx := keptL HBi.out
            have HOx := keptL (HO.out.below HBx.out)
            have HBw := keptL (below_nextL HB.out hsz HBx.out)
            have HSx : Hid (ListsAt wi (.slice (some ⟨g, off + k, none⟩) c (cp - k)) ((L.drop k).take c)) := ((HX.out.below HBw.out).dropL k (by omega)).take c (by omega)
            have hlx : ((L.drop k).take c).length = c := by rw [List.length_take, List.length_drop, HN.out]; omega
            have hszx := HBw.out.size
            clear HR
            go_wp2_with fail
            refine (s_pack wi _ _ HSx.out (by omega) ((HOK.out.len.drop _).take _) ((HOK.out.min.drop _).take _)).mono ?_
            rintro e w7 ⟨a7, n7, c7, rfl, hI, hb7⟩
            have HO3 := keptL (HOx.out.below hb7)
            have HB3 := keptL (below_nextL HBw.out hszx hb7)
            have HI3 := keptL hI
            have hsz3 := HB3.out.size
            clear hI hb7
            have hal : Below w7.heap.size w7 (w7.alloc (.cells #[.slice a7 n7 c7] 28)) := (Below.refl _ _).alloc (Nat.le_refl _) _
            have HO8 := keptL (HO3.out.below hal)
            have HE8 : Hid (ElOk (w7.alloc (.cells #[.slice a7 n7 c7] 28)) 0 (.slice a7 n7 c7) (pack ((L.drop k).take c))) := ElOk.of_own (HI3.out.below hal)
            have HC8 : Hid ((w7.alloc (.cells #[.slice a7 n7 c7] 28)).cell? ⟨w7.heap.size, 0, none⟩ = some (.slice a7 n7 c7)) := by
              show _ = _
              rw [cell_of_row _ w7.heap.size 0 _ _ _ (heap_alloc_new w7 _)]; rfl
            have HS8 : Hid (acc.length ≤ 100000 ∧ w.heap.size ≤ (w7.alloc (.cells #[.slice a7 n7 c7] 28)).heap.size) := ⟨by omega, Nat.le_trans hsz3 hal.size⟩
            clear hal
            go_wp2_with (at_builtin; go_loud (refine wpList_append_ls rfl _ _ rfl w.heap.size 0 w7.heap.size (pack ((L.drop k).take c)) rfl rfl HO8.out HC8.out HE8.out rfl HS8.out.1 HS8.out.2 ?_))
            intro v9 w9 hown9 hgrow9
            have HO9 := keptL hown9
            have HB9 := keptL (grown_ls HB3.out hsz3 HO3.out hgrow9)
            clear hown9 hgrow9
            go_wp2
            go_roundw
            case rel => exact ⟨k + c, acc ++ [pack ((L.drop k).take c)], by omega, by go_num, HO9.out, HB9.out, by simp; omega, HUP.out⟩
            case measure => simp [intOf]; omega
      · obtain rfl : k = n := by omega
        have HF : Hid (FillFrom W L acc) := HU.out.all (by rw [HN.out]; omega)
        clear HU
        go_wp2
        go_ret
        exact ⟨acc, HF.out, _, _, _, rfl, HO.out, HB.out⟩
end Go.Proofs.Ytnbppackijjohaa
