
/- Copies of pictures. -/
import Derived.Test.YthpbpdnlnmldeaaIe
namespace Go.Proofs.Ythpbpdnlnmldeaa
open Go.RowKit

theorem IntsAt.newsM {w : World} {g off n cp : Nat} {zs : List Int} (h : IntsAt w (.slice (some ⟨g, off, none⟩) n cp) zs) : ∀ j u, (ints zs)[j]? = some u → w.cell? ((⟨g, off, none⟩ : Addr).add j) = some u := by
  intro j u hj
  obtain ⟨a, c, h1, _, _, h4⟩ := h
  injection h1 with e1 _ _
  rcases h4 with rfl | ⟨g', off', h5, h6⟩
  · simp [ints] at hj
  · rw [← e1] at h5
    injection h5 with e
    injection e with e2 e3 _
    subst e2 e3
    have hjl : j < zs.length := by
      have := (List.getElem?_eq_some_iff.1 hj).1
      rw [ints_length] at this; exact this
    rw [Addr.add_lit, h6 j hjl]
    simp only [ints, List.getElem?_map, List.getElem?_eq_getElem hjl, Option.map_some] at hj
    rw [← hj, List.getD_eq_getElem?_getD, List.getElem?_eq_getElem hjl, Option.getD_some]
theorem OwnInts.addAllM {w : World} {base N : Nat} {v : Value} {xs ys : List Int} (h : w.ownsRow base 3 1 v N (ints xs ++ ints ys)) (hN : N = xs.length + ys.length) : OwnInts w base v (xs ++ ys) := by
  subst hN
  unfold OwnInts
  rw [show ints (xs ++ ys) = ints xs ++ ints ys from by simp [ints], List.length_append]
  exact h
theorem ints_oneM : ∀ (zs : List Int), ∀ u ∈ ints zs, u.oneCell' = true := by
  intro zs u hu
  simp [ints] at hu
  obtain ⟨z, _, rfl⟩ := hu
  rfl
set_option maxHeartbeats 1000000 in
theorem i_copyRow (w : World) (g off n cap : Nat) (zs : List Int) (hx : IntsAt w (.slice (some ⟨g, off, none⟩) n cap) zs) (hs : zs.length ≤ 1048576) (h0 : 0 < n) :
    Calls Try.prog 68 #[.slice (some ⟨g, off, none⟩) n cap] w fun e w' => ∃ b c, e = .returned (.slice (some ⟨b, 0, none⟩) n c) ∧ OwnInts w' w.heap.size (.slice (some ⟨b, 0, none⟩) n c) zs ∧ Below w.heap.size w w' := by
  obtain ⟨i0, hi, hz0, hz1, hz2⟩ := info_parts infoInt
  have hO1 : OwnInts w w.heap.size (.slice none 0 0) [] := OwnInts.nil _ _
  have hn : zs.length = n := by
    obtain ⟨_, _, e, _⟩ := hx
    injection e with _ e _
    exact e.symm
  have hnews := Lib.hid hx.newsM
  have hlz : Hid ((ints zs).length = n * 1) := by show _ = _; rw [ints_length, hn, Nat.mul_one]
  have HN := Lib.hid hn
  rw [hn] at hs
  clear hx hn
  go_enter Try.func68, Try.ntmps68
  go_wp2_with (at_builtin; refine wpList_append_own _ rfl _ _ 30 rfl w.heap.size 3 i0 (.int .i64 0) 1 8 Try.underlying30 hi hz0 hz1 hz2 rfl (by decide) _ _ _ rfl hO1 ⟨g, off, none⟩ n cap (ints zs) rfl hlz.out hnews.out (ints_oneM zs) (by unfold maxLen; simp; omega) (by simp; omega) (Nat.le_refl _) ?_)
  intro v' w3 hown' hgrow hnil
  have hO3 : OwnInts w3 w.heap.size v' ([] ++ zs) := OwnInts.addAllM hown' (by rw [HN.out]; simp)
  have hB3 : Below w.heap.size w w3 := (Below.refl _ _).grown hgrow (Nat.le_refl _) (fun q hq => by simp [Value.ownBlock] at hq)
  rw [List.nil_append] at hO3
  obtain ⟨b, c, hv, _⟩ := hO3.shape (by rw [HN.out]; exact h0)
  rw [HN.out] at hv
  subst hv
  clear hown' hgrow hnil
  go_wp2
  go_ret
  exact ⟨_, _, rfl, hO3, hB3⟩
set_option maxHeartbeats 1000000 in
theorem i_copies (w : World) (a : Option Addr) (n c m : Nat) (f : Nat → Nat → Int) (hp : PicAt w a n c m f) (hn : 1 ≤ n ∧ n ≤ 1000) (hm : 1 ≤ m ∧ m ≤ 1000) :
    Calls Try.prog 63 #[.slice a n c] w fun e w' => PlOut (gridOf n m f) w e w' := by
  have HP := keptI hp
  obtain ⟨g, off, _, _, _, rfl, _⟩ := hp.row (y := 0) (by omega)
  clear hp
  have hO0 : OwnLL w w.heap.size w.heap.size (.slice none 0 0) (gridOf 0 m f) := OwnLL.nil w _
  have q0 : (0 : Int) < (n : Int) := by omega
  go_enter Try.func63, Try.ntmps63
  go_wp2
  go_loopw [3, 8] (fun o y wx => ∃ i : Nat, i ≤ n ∧ y = .int .i64 i ∧ OwnLL wx w.heap.size wx.heap.size o (gridOf i m f) ∧ Below w.heap.size w wx) (fun _ y _ => n - (intOf y).toNat)
  case atStart => exact ⟨0, Nat.zero_le _, rfl, hO0, Below.refl _ _⟩
  case round =>
    clear hO0
    obtain ⟨i, hi, rfl, hO, hB⟩ := hrel
    rename World => wo
    obtain ⟨ao, no, co, hoo⟩ := hO.ls.isSlice
    subst hoo
    have HO := keptI hO
    have HB := keptI hB
    have hs := hB.size
    by_cases hlt : i < n
    · obtain ⟨_, _, b, o, d, e1, c0, hd5, hd6, hcx⟩ := HP.out.row hlt
      injection e1 with e1
      injection e1 with e1 e2
      subst e1 e2
      have hu : IntsAt w (.slice (some ⟨b, o, none⟩) m d) (rowOf m (f i)) := ⟨_, _, by rw [rowOf_len], by rw [rowOf_len]; exact hd5, hd6, .inr ⟨b, o, rfl, fun x hx => by
        rw [rowOf_len] at hx
        rw [rowOf_get _ hx]; exact hcx x hx⟩⟩
      have HU := keptI (hu.below hB)
      have c0 := (hB.cell (World.block_lt_of_cell? w _ c0)).trans c0
      have HST : Hid (gridOf (i + 1) m f = gridOf i m f ++ [rowOf m (f i)]) := gridOf_succ _ _ _
      have HRL : Hid ((rowOf m (f i)).length = m) := rowOf_len _ _
      have b1 : (0 : Int) ≤ (i : Int) := by omega
      have b2 : (i : Int) < (n : Int) := by omega
      clear hO hB hu hcx hd5 hd6
      go_wp2_with fail
      refine (i_copyRow wo b o m d (rowOf m (f i)) HU.out (by rw [HRL.out]; omega) (by omega)).mono ?_
      rintro e w6 ⟨b6, c6, rfl, hO6, hb6⟩
      have hB6 := below_next HB.out hb6
      have hs6 := hb6.size
      have HO6 := keptI (HO.out.below hb6 (Nat.le_refl _))
      have hal : Below w6.heap.size w6 (w6.alloc (.cells #[.slice (some ⟨b6, 0, none⟩) m c6] 30)) := (Below.refl _ _).alloc (Nat.le_refl _) _
      have HO8 := keptI (HO6.out.below hal hs6)
      have HE8 := keptI (hO6.below hal)
      have HC8 : Hid ((w6.alloc (.cells #[.slice (some ⟨b6, 0, none⟩) m c6] 30)).cell? ⟨w6.heap.size, 0, none⟩ = some (.slice (some ⟨b6, 0, none⟩) m c6)) := by
        show _ = _
        rw [cell_of_row _ w6.heap.size 0 _ _ _ (heap_alloc_new w6 _)]; rfl
      have hl8 : (gridOf i m f).length ≤ 100000 := by rw [gridOf_len]; omega
      have HB6 := keptI hB6
      have HS6 := keptI hB6.size
      clear hal hO6 hb6 hB6 c0
      go_wp2_with (at_builtin; refine wpList_append_ll rfl _ _ rfl w.heap.size wo.heap.size w6.heap.size b6 m c6 (rowOf m (f i)) rfl rfl HO8.out HC8.out HE8.out HRL.out hl8 hs ?_)
      intro v9 w9 hown9 hgrow9
      have HO9 : Hid (OwnLL w9 w.heap.size w9.heap.size v9 (gridOf (i + 1) m f)) := by
        show OwnLL _ _ _ _ _
        rw [HST.out]; exact hown9
      have HB9 := keptI (grown_llI HB6.out HS6.out HO6.out hgrow9)
      clear hown9 hgrow9
      set_option maxRecDepth 20000 in
      go_wp2
      go_roundw
      case rel => exact ⟨i + 1, by omega, by go_num, HO9.out, HB9.out⟩
      case measure => simp [intOf]; omega
    · obtain rfl : i = n := by omega
      clear hO hB
      go_wp2
      go_ret
      exact ⟨_, _, _, rfl, HO.out, HB.out⟩
end Go.Proofs.Ythpbpdnlnmldeaa
