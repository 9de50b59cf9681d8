
/- Lines as full as can be own all their memory. -/
import Derived.Test.YtnbppackijjohaaLi
import Derived.Test.YtnbppackijjohaaMf
namespace Go.Proofs.Ytnbppackijjohaa
open Go.RowKit

def LlOut (R : List (List Int)) (w : World) (e : Ending) (w' : World) : Prop := ∃ a n c, e = .returned (.slice a n c) ∧ OwnLL w' w.heap.size w'.heap.size (.slice a n c) R ∧ Below w.heap.size w w'
theorem pack_pos {M : List (List Int)} (h : 0 < M.length) (h1 : MinL M) : 0 < (pack M).length := by
  cases M with
  | nil => simp at h
  | cons x r =>
    have := h1 0 (by simp)
    simp at this
    simp [pack]; omega
set_option maxHeartbeats 2000000 in
theorem ll_FillLines (w : World) (v : Value) (L : List (List Int)) (W : Int) (b : Bool) (hx : ListsAt w v L) (hb : Hid (b = true ↔ FillOk L W)) :
    Calls Try.prog 16 #[v, .int .i64 W] w fun e w' => ∃ R, FillRes L W b R ∧ LlOut R w e w' := by
  have HX := keptL hx
  obtain ⟨a, cp, rfl, x1, x2, _⟩ := hx
  obtain ⟨n, hn⟩ : ∃ n, L.length = n := ⟨_, rfl⟩
  rw [hn] at x1 HX ⊢
  have HN := Lib.hid hn
  clear hn
  have hO0 := OwnLL.nil w w.heap.size
  cases b with
  | false =>
    go_enter Try.func16, Try.ntmps16
    go_wp2_with fail
    refine (i_canFill_b w _ L W false HX.out hb).mono ?_
    rintro e w1 ⟨rfl, rfl⟩
    clear hb
    go_wp2
    go_ret
    exact ⟨[], rfl, _, _, _, rfl, hO0, Below.refl _ _⟩
  | true =>
    have HOK : Hid (FillOk L W) := hb.out.1 rfl
    have hn30 : n ≤ 30 := by have := HOK.out.1; rw [HN.out] at this; exact this
    go_enter Try.func16, Try.ntmps16
    go_wp2_with fail
    refine (i_canFill_b w _ L W true HX.out (show _ ↔ _ from ⟨fun _ => HOK.out, fun _ => rfl⟩)).mono ?_
    rintro e w1 ⟨rfl, rfl⟩
    clear hb
    go_wp2_with fail
    go_loopw [5, 6] (fun o i wr => ∃ (k : Nat) (acc : List (List Int)), k ≤ n ∧ i = .int .i64 k ∧ OwnLL wr w.heap.size wr.heap.size o acc ∧ Below w.heap.size w wr ∧ acc.length ≤ k ∧ Hid (FillUp W L acc k)) (fun _ i _ => n - (intOf i).toNat)
    case atStart => exact ⟨0, [], Nat.zero_le _, rfl, hO0, Below.refl _ _, by simp, FillUp.zero _ _⟩
    case round =>
      clear hO0
      obtain ⟨k, acc, hk, rfl, hO, hB, hacc, HU⟩ := hrel
      obtain ⟨ao, no, co, hoo⟩ := hO.ls.isSlice
      subst hoo
      have HO := keptL hO
      have HB := keptL hB
      have hsz := hB.size
      clear hO hB
      by_cases hlt : k < n
      · have HXr : Hid (ListsAt wr (.slice a n cp) L) := HX.out.below HB.out
        obtain ⟨g, off, u, rfl, _, _⟩ := HX.out.someNth hlt
        go_wp2_with fail
        refine (i_fullEnd wr _ L k W HXr.out (by rw [HN.out]; exact hlt) (by rw [HN.out]; exact hn30) HOK.out.len).mono ?_
        rintro e w2 ⟨c, rfl, rfl, hF⟩
        have hc1 := hF.1
        have hc2 : k + c ≤ n := by have := hF.2.1; rw [List.length_drop, HN.out] at this; omega
        have HUP : Hid (FillUp W L (acc ++ [pack ((L.drop k).take c)]) (k + c)) := HU.out.more hF
        have HS : Hid (ListsAt wr (.slice (some ⟨g, off + k, none⟩) c (cp - k)) ((L.drop k).take c)) := (HXr.out.dropL k (by omega)).take c (by omega)
        have hl : ((L.drop k).take c).length = c := by rw [List.length_take, List.length_drop, HN.out]; omega
        have b1 : (0 : Int) ≤ (k : Int) := by omega
        clear hF
        go_wp2_with fail
        refine (i_lineOf wr _ _ HS.out (by omega) ((HOK.out.len.drop _).take _) ((HOK.out.min.drop _).take _)).mono ?_
        rintro e w3 ⟨a6, n6, c6, rfl, hI, hb3⟩
        have HO3 := keptL (HO.out.below hb3 (Nat.le_refl _))
        have HB3 := keptL (below_nextL HB.out hsz hb3)
        obtain ⟨b6, c6', hv6, _⟩ := hI.shape (pack_pos (M := (L.drop k).take c) (by omega) ((HOK.out.min.drop _).take _))
        injection hv6 with hv1 hv2 hv3
        subst hv1 hv2
        have HI3 := keptL hI
        have hsz3 := HB3.out.size
        have hs3 := hb3.size
        obtain ⟨n6, hn6⟩ : ∃ n6, (pack ((L.drop k).take c)).length = n6 := ⟨_, rfl⟩
        have HN6 := Lib.hid hn6
        rw [hn6] at HI3 ⊢
        clear hI hb3 hn6 hv3
        have hal : Below w3.heap.size w3 (w3.alloc (.cells #[.slice (some ⟨b6, 0, none⟩) n6 c6] 28)) := (Below.refl _ _).alloc (Nat.le_refl _) _
        have HO8 := keptL (HO3.out.below hal hs3)
        have HE8 := keptL (HI3.out.below hal)
        have HC8 : Hid ((w3.alloc (.cells #[.slice (some ⟨b6, 0, none⟩) n6 c6] 28)).cell? ⟨w3.heap.size, 0, none⟩ = some (.slice (some ⟨b6, 0, none⟩) n6 c6)) := by
          show _ = _
          rw [cell_of_row _ w3.heap.size 0 _ _ _ (heap_alloc_new w3 _)]; rfl
        have hl8 : acc.length ≤ 100000 := by omega
        clear hal
        go_wp2_with (at_builtin; go_loud (refine wpList_append_ll rfl _ _ rfl w.heap.size wr.heap.size w3.heap.size b6 n6 c6 (pack ((L.drop k).take c)) rfl rfl HO8.out HC8.out HE8.out HN6.out hl8 hsz ?_))
        intro v9 w9 hown9 hgrow9
        have HO9 := keptL hown9
        have HB9 := keptL (grown_ls HB3.out hsz3 HO3.out.ls hgrow9)
        clear hown9 hgrow9
        go_wp2
        go_roundw
        case rel => exact ⟨k + c, acc ++ [pack ((L.drop k).take c)], hc2, by go_num, HO9.out, HB9.out, by simp; omega, HUP.out⟩
        case measure => simp [intOf]; omega
      · obtain rfl : k = n := by omega
        have HF : Hid (FillFrom W L acc) := HU.out.all (by rw [HN.out]; omega)
        clear HU
        go_wp2
        go_ret
        exact ⟨acc, HF.out, _, _, _, rfl, HO.out, HB.out⟩
end Go.Proofs.Ytnbppackijjohaa
