
/- The text of one cell in the model, and the text of a list of cells. -/
import Derived.Test.YtbngkgfjhegkmaaTxt
import Derived.Test.YtbngkgfjhegkmaaVal
namespace Go.Proofs.Ytbngkgfjhegkmaa
open Go.RowKit

theorem digit_at (y : Nat) (h0 : 1 ≤ y) (h1 : y ≤ 6) : (⟨#[48, 49, 50, 51, 52, 53, 54]⟩ : ByteArray).extract y (y + 1) = bs [digB y] := by
  rcases (show y = 1 ∨ y = 2 ∨ y = 3 ∨ y = 4 ∨ y = 5 ∨ y = 6 from by omega) with rfl | rfl | rfl | rfl | rfl | rfl <;> rfl

set_option maxHeartbeats 1000000 in
theorem s_showDots (c : Nat) (w : World) (hc : c < 64) :
    Calls Try.prog 22 #[.int .i64 c] w fun e w' => TextOut (cellT c) w e w' := by
  by_cases h0 : c = 0
  · subst h0
    go_enter Try.func22, Try.ntmps22
    go_wp2
    go_ret
    exact ⟨rfl, Below.refl _ _⟩
  · have e0 : ((c : Int) == 0) = false := by simp; omega
    have hD := dots_bd c hc
    have hT : cellT c = (dotsL c).map digB := by rw [cellT, if_neg h0]
    have hle : (dotsL c).length ≤ 6 := dotsUp_le c 6
    go_enter Try.func22, Try.ntmps22
    go_wp2_with fail
    refine (s_dotsOf c _ hc).mono ?_
    rintro e w1 ⟨v1, rfl, ho1, hb1, a1, n, c1, rfl⟩
    have hx := ho1.at
    obtain ⟨D, hDD⟩ : ∃ D, dotsL c = D := ⟨_, rfl⟩
    rw [hDD] at hx hD hT hle
    have HT := Lib.hid hT
    clear hT hDD ho1
    obtain ⟨_, _, hs, _, _, h3⟩ := id hx
    injection hs with hs1 hs2 hs3
    have hn : Hid (D.length = n) := hs2.symm
    have hn6 : n ≤ 6 := by omega
    subst hs1
    clear hs2 hs3 hle
    go_wp2_with fail
    go_loopw [3, 5] (fun v i wr => ∃ k : Nat, k ≤ n ∧ i = .int .i64 k ∧ v = .string (bs ((D.take k).map digB)) ∧ ∃ q, wr = w1.drewN q) (fun _ i _ => n - (intOf i).toNat)
    case atStart => exact ⟨0, Nat.zero_le _, rfl, rfl, 0, rfl⟩
    case round =>
      obtain ⟨k, hk, rfl, rfl, q, rfl⟩ := hrel
      by_cases hlt : k < n
      · rcases h3 with rfl | ⟨g, off, rfl, h4⟩
        · exact absurd hn.out (by simp; omega)
        have hkl : k < D.length := by have := hn.out; omega
        have cx := h4 k hkl
        obtain ⟨y, hy⟩ : ∃ y, D.getD k 0 = y := ⟨_, rfl⟩
        have hym := hD y (by rw [← hy, List.getD_eq_getElem?_getD, List.getElem?_eq_getElem hkl, Option.getD_some]; exact List.getElem_mem _)
        obtain ⟨hy1, hy6⟩ := hym
        obtain ⟨m, rfl⟩ : ∃ m : Nat, y = m := ⟨y.toNat, by omega⟩
        have hS : Hid ((D.take (k + 1)).map digB = (D.take k).map digB ++ [digB m]) := by show _ = _; rw [take_succ' hn.out hlt, hy, List.map_append]; rfl
        rw [hy] at cx
        have hll : ((D.take k).map digB).length ≤ 6 := by simp; omega
        obtain ⟨l, hl⟩ : ∃ l, (D.take k).map digB = l := ⟨_, rfl⟩
        rw [hl] at hS hll ⊢
        have hE := digit_at m (by omega) (by omega)
        have hz : (bs l).size ≤ 6 := by rw [bs_size]; exact hll
        have hz1 : (bs [digB m]).size = 1 := bs_size _
        have hadd : ¬ ((bs l).size + (bs [digB m]).size > 9223372036854775807) := by rw [hz1]; omega
        have hnot : ((9223372036854775807 : Nat) < (bs l).size + (bs [digB m]).size) = False := eq_false hadd
        have m0 : (0 : Int) ≤ (m : Int) := by omega
        have m1 : (m : Int) + 1 ≤ 7 := by omega
        have m2 : (m : Int) ≤ (m : Int) + 1 := by omega
        have k0 : (0 : Int) ≤ (k : Int) := by omega
        have k1 : (k : Int) < (n : Int) := by omega
        have u1 : IntKind.i64.wrap ((m : Int) + 1) = (m : Int) + 1 := IntWalk.i64_in _ (by omega)
        have u2 : ((m : Int) + 1).toNat = m + 1 := by omega
        have u3 : ((m : Int)).toNat = m := by omega
        clear hy h4 hl hkl hz hz1 hadd hD
        go_wp2
        go_quiet (fail)
        clear u1 u2 u3
        go_wp2
        go_roundw
        case rel => exact ⟨k + 1, by omega, by go_num, by rw [hS.out, ← bs_append], _, rfl⟩
        case measure => simp [intOf]; omega
      · obtain rfl : k = n := by omega
        have hl : (D.take k).map digB = cellT c := by rw [List.take_of_length_le (by rw [hn.out]; omega), HT.out]
        rw [hl]
        clear hl
        go_wp2
        go_ret
        exact ⟨rfl, below_drewN hb1 _⟩

/-- the text of the first k cells -/
def fmtUp (zs : List Int) : Nat → List UInt8
  | 0 => []
  | k + 1 => fmtUp zs k ++ (if k = 0 then [] else [45]) ++ cellT (zs.getD k 0).toNat
def fmtL (zs : List Int) : List UInt8 := if ValidL zs then fmtUp zs zs.length else []
theorem cellT_len : ∀ c : Nat, c < 64 → 1 ≤ (cellT c).length ∧ (cellT c).length ≤ 6 := by decide +kernel
theorem fmtUp_len (zs : List Int) (h : ∀ z ∈ zs, 0 ≤ z ∧ z < 64) : ∀ k, k ≤ zs.length → (fmtUp zs k).length ≤ 7 * k := by
  intro k
  induction k with
  | zero => intro _; simp [fmtUp]
  | succ k ih =>
    intro hk
    have h1 := ih (by omega)
    have hm : zs.getD k 0 ∈ zs := by
      rw [List.getD_eq_getElem?_getD, List.getElem?_eq_getElem (by omega), Option.getD_some]; exact List.getElem_mem _
    have h2 := h _ hm
    have h3 := cellT_len (zs.getD k 0).toNat (by omega)
    rw [fmtUp, List.length_append, List.length_append]
    split
    · rw [List.length_nil]; omega
    · rw [List.length_singleton]; omega

theorem i_ValidCells_f (w : World) (u : Value) (zs : List Int) (b : Bool) (hx : IntsAt w u zs) (hb : Hid (decide (ValidL zs) = b)) :
    Calls Try.prog 10 #[u] w fun e w' => e = .returned (.bool b) ∧ w = w' := by
  have := i_ValidCells w u zs hx
  rw [hb.out] at this
  exact this
theorem s_validCells_f (w : World) (u : Value) (zs : List Int) (b : Bool) (hx : IntsAt w u zs) (hb : Hid (decide (ValidL zs) = b)) :
    Calls Try.prog 21 #[u] w fun e w' => e = .returned (.bool b) ∧ w = w' := by
  have := s_validCells w u zs hx
  rw [hb.out] at this
  exact this

set_option maxHeartbeats 2000000 in
theorem i_FormatCells (w : World) (u : Value) (zs : List Int) (hx : IntsAt w u zs) :
    Calls Try.prog 8 #[u] w fun e w' => TextOut (fmtL zs) w e w' := by
  obtain ⟨i0, hi, hz0, hz1, hz2⟩ := info_parts infoByte
  obtain ⟨a, c, hu, x1, x2, x3⟩ := id hx
  by_cases hv : ValidL zs
  · have HB := Lib.hid (decide_eq_true hv)
    have hF : Hid (fmtL zs = fmtUp zs zs.length) := if_pos hv
    have hlen := fmtUp_len zs hv.2
    have hn200 := hv.1
    obtain ⟨_, hcells⟩ := hv
    obtain ⟨n, hn⟩ : ∃ n, zs.length = n := ⟨_, rfl⟩
    rw [hn] at x1 x3 hF hlen hn200 hu
    have HN := Lib.hid hn
    subst hu
    clear hn
    go_enter Try.func8, Try.ntmps8
    go_wp2_with fail
    refine (i_ValidCells_f _ _ zs true hx HB).mono ?_
    rintro e w' ⟨rfl, rfl⟩
    clear hx HB
    go_wp2_with fail
    go_loopw [3, 11] (fun v i wr => ∃ k : Nat, k ≤ n ∧ i = .int .i64 k ∧ OwnBytes wr w.heap.size v (fmtUp zs k) ∧ Below w.heap.size w wr) (fun _ i _ => n - (intOf i).toNat)
    case atStart => exact ⟨0, Nat.zero_le _, rfl, OwnBytes.nil _ _, Below.refl _ _⟩
    case round =>
      obtain ⟨k, hk, rfl, hown, hb⟩ := hrel
      have hsw := hb.size
      by_cases hlt : k < n
      · rcases x3 with rfl | ⟨g, off, rfl, h4⟩
        · exact absurd HN.out (by simp; omega)
        have cx := (hb.cell (World.block_lt_of_cell? w _ (h4 k hlt))).trans (h4 k hlt)
        obtain ⟨y, hy⟩ : ∃ y, zs.getD k 0 = y := ⟨_, rfl⟩
        have hym := hcells y (by rw [← hy, List.getD_eq_getElem?_getD, List.getElem?_eq_getElem (by have := HN.out; omega), Option.getD_some]; exact List.getElem_mem _)
        obtain ⟨hy0, hy64⟩ := hym
        obtain ⟨m, rfl⟩ : ∃ m : Nat, y = m := ⟨y.toNat, by omega⟩
        have hm : m < 64 := by omega
        have hS : Hid (fmtUp zs (k + 1) = fmtUp zs k ++ (if k = 0 then [] else [45]) ++ cellT m) := by show fmtUp zs (k + 1) = _; rw [fmtUp, hy]; rfl
        rw [hy] at cx
        have hll := hlen k hk
        obtain ⟨hc1, hc6⟩ := cellT_len m hm
        obtain ⟨l, hl⟩ : ∃ l, fmtUp zs k = l := ⟨_, rfl⟩
        rw [hl] at hown hS hll
        clear hy h4 hl hlen hcells
        by_cases hk0 : k = 0
        · have hS2 : Hid (fmtUp zs (k + 1) = l ++ cellT m) := by show fmtUp zs (k + 1) = _; rw [hS.out, if_pos hk0]; simp
          have hk1 : (k : Int) < 1 := by omega
          clear hk0 hS
          go_wp2_with fail
          refine (i_cellText m _ hm).mono ?_
          rintro e w2 ⟨rfl, hb2⟩
          have hown2 := hown.below hb2
          have hB2 := hb.trans (hb2.mono hsw)
          have hsz2 := hb2.size
          have hts : (bs (cellT m)).size ≤ 6 := by rw [bs_size]; exact hc6
          have HST := Lib.hid (strCells_bs (cellT m))
          have HBL := Lib.hid (bs_size (cellT m))
          obtain ⟨t, ht⟩ : ∃ t, bs (cellT m) = t := ⟨_, rfl⟩
          rw [ht] at hts HST HBL ⊢
          clear hown hb hb2 ht
          go_wp2_with (at_builtin; go_loud (refine Lib.wpList_append_own_string w2 rfl _ _ 22 9 rfl w.heap.size 5 i0 Try.underlying22 Try.underlying9 hi hz0 hz1 hz2 _ _ _ rfl hown2 t rfl (by unfold maxLen; omega) (by omega) (by omega) ?_))
          intro v' w3 hown' hgrow _
          rw [HST.out, HBL.out] at hown'
          have R1 : OwnBytes w3 w.heap.size v' (fmtUp zs (k + 1)) := by rw [hS2.out]; exact OwnBytes.more2 hown' (by simp)
          have R2 := below_append_b hB2 (Nat.le_refl _) (by omega) hown2 hgrow
          clear hown' hgrow hown2 hB2
          go_wp2
          go_roundw
          case rel => exact ⟨k + 1, by omega, by go_num, R1, R2⟩
          case measure => simp [intOf]; omega
        · have hkp : (0 : Int) < (k : Int) := by omega
          have hS2 : Hid (fmtUp zs (k + 1) = l ++ [45] ++ cellT m) := by show fmtUp zs (k + 1) = _; rw [hS.out, if_neg hk0]
          clear hS hk0
          have HB45 : Hid ((45 : Int) = (((45 : UInt8)).toNat : Int)) := rfl
          go_wp2_with (at_builtin; go_loud (refine wpList_append_own _ rfl _ _ 22 rfl w.heap.size 5 i0 (.int .u8 0) 1 1 Try.underlying22 hi hz0 hz1 hz2 rfl (by decide) _ _ _ rfl (hown.alloc _) ⟨wr.heap.size, 0, none⟩ 1 1 (byt [45]) rfl rfl (new_byte HB45) one_byte_cell (by unfold maxLen; omega) (by omega) (by simp; omega) ?_))
          intro v1 w1 hown1 hgrow1 _
          have hO1 : OwnBytes w1 w.heap.size v1 (l ++ [45]) := OwnBytes.more hown1 rfl
          have hB1 := below_append_b (hb.alloc hsw _) (Nat.le_refl _) (by simp; omega) (hown.alloc _) hgrow1
          have hsz1 := hB1.size
          have hll1 : (l ++ [45]).length ≤ 7 * k + 1 := by simp; omega
          obtain ⟨_, _, _, rfl⟩ := hO1.isSlice
          clear hown1 hgrow1 hown hb cx
          go_wp2_with fail
          refine (i_cellText m _ hm).mono ?_
          rintro e w2 ⟨rfl, hb2⟩
          have hown2 := hO1.below hb2
          have hB2 := hB1.trans (hb2.mono hsz1)
          have hsz2 := hb2.size
          have hts : (bs (cellT m)).size ≤ 6 := by rw [bs_size]; exact hc6
          have HST := Lib.hid (strCells_bs (cellT m))
          have HBL := Lib.hid (bs_size (cellT m))
          obtain ⟨t, ht⟩ : ∃ t, bs (cellT m) = t := ⟨_, rfl⟩
          rw [ht] at hts HST HBL ⊢
          clear hO1 hB1 hb2 ht
          go_wp2_with (at_builtin; go_loud (refine Lib.wpList_append_own_string w2 rfl _ _ 22 9 rfl w.heap.size 5 i0 Try.underlying22 Try.underlying9 hi hz0 hz1 hz2 _ _ _ rfl hown2 t rfl (by unfold maxLen; omega) (by omega) (by omega) ?_))
          intro v' w3 hown' hgrow _
          rw [HST.out, HBL.out] at hown'
          have R1 : OwnBytes w3 w.heap.size v' (fmtUp zs (k + 1)) := by rw [hS2.out]; exact OwnBytes.more2 hown' (by simp)
          have R2 := below_append_b hB2 (Nat.le_refl _) (by omega) hown2 hgrow
          clear hown' hgrow hown2 hB2
          go_wp2
          go_roundw
          case rel => exact ⟨k + 1, by omega, by go_num, R1, R2⟩
          case measure => simp [intOf]; omega
      · obtain rfl : k = n := by omega
        rw [← hF.out] at hown
        have hcv := conv_own hown
        obtain ⟨_, _, _, rfl⟩ := hown.isSlice
        clear hown
        go_wp2
        go_ret
        exact ⟨rfl, hb⟩
  · have HB := Lib.hid (decide_eq_false hv)
    have hF : Hid (fmtL zs = []) := if_neg hv
    subst hu
    go_enter Try.func8, Try.ntmps8
    go_wp2_with fail
    refine (i_ValidCells_f _ _ zs false hx HB).mono ?_
    rintro e w' ⟨rfl, rfl⟩
    go_wp2
    go_ret
    exact ⟨by rw [hF.out]; rfl, Below.refl _ _⟩

set_option maxHeartbeats 2000000 in
theorem s_FormatCells (w : World) (u : Value) (zs : List Int) (hx : IntsAt w u zs) :
    Calls Try.prog 9 #[u] w fun e w' => TextOut (fmtL zs) w e w' := by
  obtain ⟨a, c, hu, x1, x2, x3⟩ := id hx
  by_cases hv : ValidL zs
  · have HB := Lib.hid (decide_eq_true hv)
    have hF : Hid (fmtL zs = fmtUp zs zs.length) := if_pos hv
    have hlen := fmtUp_len zs hv.2
    have hn200 := hv.1
    obtain ⟨_, hcells⟩ := hv
    obtain ⟨n, hn⟩ : ∃ n, zs.length = n := ⟨_, rfl⟩
    rw [hn] at x1 x3 hF hlen hn200 hu
    have HN := Lib.hid hn
    subst hu
    clear hn
    go_enter Try.func9, Try.ntmps9
    go_wp2_with fail
    refine (s_validCells_f _ _ zs true hx HB).mono ?_
    rintro e w' ⟨rfl, rfl⟩
    clear hx HB
    go_wp2_with fail
    go_loopw [3, 4] (fun v i wr => ∃ k : Nat, k ≤ n ∧ i = .int .i64 k ∧ v = .string (bs (fmtUp zs k)) ∧ Below w.heap.size w wr) (fun _ i _ => n - (intOf i).toNat)
    case atStart => exact ⟨0, Nat.zero_le _, rfl, rfl, Below.refl _ _⟩
    case round =>
      obtain ⟨k, hk, rfl, rfl, hb⟩ := hrel
      by_cases hlt : k < n
      · rcases x3 with rfl | ⟨g, off, rfl, h4⟩
        · exact absurd HN.out (by simp; omega)
        have cx := (hb.cell (World.block_lt_of_cell? w _ (h4 k hlt))).trans (h4 k hlt)
        obtain ⟨y, hy⟩ : ∃ y, zs.getD k 0 = y := ⟨_, rfl⟩
        have hym := hcells y (by rw [← hy, List.getD_eq_getElem?_getD, List.getElem?_eq_getElem (by have := HN.out; omega), Option.getD_some]; exact List.getElem_mem _)
        obtain ⟨hy0, hy64⟩ := hym
        obtain ⟨m, rfl⟩ : ∃ m : Nat, y = m := ⟨y.toNat, by omega⟩
        have hm : m < 64 := by omega
        have hS : Hid (fmtUp zs (k + 1) = fmtUp zs k ++ (if k = 0 then [] else [45]) ++ cellT m) := by show fmtUp zs (k + 1) = _; rw [fmtUp, hy]; rfl
        rw [hy] at cx
        have hll := hlen k hk
        obtain ⟨hc1, hc6⟩ := cellT_len m hm
        obtain ⟨l, hl⟩ : ∃ l, fmtUp zs k = l := ⟨_, rfl⟩
        rw [hl] at hS hll ⊢
        have hz : (bs l).size ≤ 1400 := by rw [bs_size]; omega
        have hz2 : (bs (cellT m)).size ≤ 6 := by rw [bs_size]; exact hc6
        have hz3 : (bs l ++ bs [45]).size ≤ 1401 := by rw [bs_append, bs_size]; simp; omega
        clear hy h4 hl hlen hcells
        by_cases hk0 : k = 0
        · have hS2 : Hid (fmtUp zs (k + 1) = l ++ cellT m) := by show fmtUp zs (k + 1) = _; rw [hS.out, if_pos hk0]; simp
          have hk1 : (k : Int) < 1 := by omega
          clear hk0 hS
          go_wp2_with fail
          refine (s_showDots m _ hm).mono ?_
          rintro e w2 ⟨rfl, hb2⟩
          go_wp2
          go_roundw
          case rel => exact ⟨k + 1, by omega, by go_num, by rw [hS2.out, ← bs_append], hb.trans (hb2.mono hb.size)⟩
          case measure => simp [intOf]; omega
        · have hkp : (0 : Int) < (k : Int) := by omega
          have hS2 : Hid (fmtUp zs (k + 1) = l ++ [45] ++ cellT m) := by show fmtUp zs (k + 1) = _; rw [hS.out, if_neg hk0]
          have hq : (⟨#[45]⟩ : ByteArray) = bs [45] := rfl
          have hz4 : (bs [45]).size ≤ 1 := Nat.le_of_eq (bs_size _)
          clear hS hk0
          go_wp2_with fail
          refine (s_showDots m _ hm).mono ?_
          rintro e w2 ⟨rfl, hb2⟩
          go_wp2
          go_roundw
          case rel => exact ⟨k + 1, by omega, by go_num, by rw [hS2.out, ← bs_append, ← bs_append], hb.trans (hb2.mono hb.size)⟩
          case measure => simp [intOf]; omega
      · obtain rfl : k = n := by omega
        rw [← hF.out]
        go_wp2
        go_ret
        exact ⟨rfl, hb⟩
  · have HB := Lib.hid (decide_eq_false hv)
    have hF : Hid (fmtL zs = []) := if_neg hv
    subst hu
    go_enter Try.func9, Try.ntmps9
    go_wp2_with fail
    refine (s_validCells_f _ _ zs false hx HB).mono ?_
    rintro e w' ⟨rfl, rfl⟩
    go_wp2
    go_ret
    exact ⟨by rw [hF.out]; rfl, Below.refl _ _⟩
end Go.Proofs.Ytbngkgfjhegkmaa
