
/- FnMarkCell: its walk. -/
import Derived.Test.YtjffppabpdimkabPlM
import Derived.Test.YtjffppabpdimkabPrI
import Derived.Test.YtjffppabpdimkabDrT
namespace Go.Proofs.Ytjffppabpdimkab
open Go.RowKit

def markWords : List ByteArray := [⟨#[46]⟩, ⟨#[44]⟩, ⟨#[59]⟩, ⟨#[58]⟩, ⟨#[33]⟩, ⟨#[63]⟩, ⟨#[39]⟩, ⟨#[45]⟩, ⟨#[]⟩, ⟨#[97]⟩, ⟨#[46, 46]⟩, ⟨#[32]⟩, ⟨#[95]⟩]
theorem drawMarkCell_any (w : World) (a : Option Addr) (len cap : Nat) (zs : List Int) (h : RowIn .u8 w a len cap zs) :
    Calls Try.prog 15 #[.slice a len cap] w fun e w' => StrDrawn 2 w e w' := by
  obtain ⟨h1, h2, h3⟩ := bytesAt_of_row h
  clear h zs
  go_enter Try.func15, Try.ntmps15
  go_wp2_with fail
  refine (newReader_any w _ a len cap h1 (Nat.le_refl _) h2 h3).mono ?_
  rintro e w1 ⟨L, rfl, hrd, hgr⟩
  have hlt := hrd.lt
  go_wp2_with fail
  refine (of_any _ w.heap.size w.heap.size L 0 w1.heap.size 13 13 markWords (hrd.alloc _) (heap_alloc_new w1 _) (by omega) (Lib.hid rfl) (by omega) (by omega) (by omega)).mono ?_
  rintro e w2 ⟨s, rfl, hs, hrd2, hgr2⟩
  have hs2 : s.size ≤ 2 := small_strs (by decide) hs
  clear hs
  go_wp2
  go_ret
  exact ⟨s, rfl, hs2, below_of_grown (grown_new hgr (grown_trans (World.grownBy_alloc w1 _ _) hgr2) (Nat.le_refl _))⟩
theorem mark_facts : ∀ k : Nat, k < 8 → idx letL (markC.getD k 0) = -1 ∧ (2 ≤ markC.getD k 0 ∧ markC.getD k 0 ≤ 50 ∧ markC.getD k 0 ≠ 32 ∧ markC.getD k 0 ≠ 48) ∧ letB (markL.getD k 0).toNat = false ∧ digBt (markL.getD k 0).toNat = false ∧ charZ (markL.getD k 0).toNat = markC.getD k 0 ∧ okB (markL.getD k 0).toNat = true := by decide +kernel
theorem plain_one {b : UInt8} (h1 : letB b.toNat = false) (h2 : digBt b.toNat = false) : plainC [b] = [charZ b.toNat] := by
  unfold plainC
  rw [rest_oth (l := [b]) (k := 0) (by simp) (by simpa using h1), rest_end (by simp)]
  simp [othC, h2]
theorem own_one' (w : World) (z : Int) : IntsAt (w.alloc (.cells #[.int .i64 z] 3)) (.slice (some ⟨w.heap.size, 0, none⟩) 1 1) [z] := (own_one w z).at
theorem i_letterOf_w (c r : Int) (w : World) (hr : Hid (idx letL c = r)) :
    Calls Try.prog 18 #[.int .i64 c] w fun e w' => e = .returned (.int .i64 r) ∧ w = w' := by
  have := i_letterOf c w
  rw [hr.out] at this
  exact this

set_option maxHeartbeats 2000000 in
theorem markCell_walk (a : Option Addr) (len cap : Nat) (zs : List Int) (w : World) (h : RowIn .u8 w a len cap zs) :
    Calls Try.prog 3 #[.slice a len cap] w fun e w' => e = .returned (.bool true) ∧ Below w.heap.size w w' := by
  have hlen : len ≤ 9223372036854775807 := by
    obtain ⟨_, h2, h3⟩ := bytesAt_of_row h; unfold maxLen at h3; omega
  by_cases hbig : len ≤ 1048576
  · go_enter Try.func3, Try.ntmps3
    go_wp2_with fail
    refine (drawMarkCell_any w a len cap zs h).mono ?_
    rintro e w1 ⟨s, rfl, hs, hb1⟩
    clear h
    by_cases h1 : s.size = 1
    · obtain ⟨b, rfl⟩ := one_byte h1
      clear h1 hs
      rcases mark_cases b.toNat (by have := b.toNat_lt; omega) with ⟨k, hk, hr, hc⟩ | ⟨hr, hc⟩
      · have HS : Hid ((⟨#[b]⟩ : ByteArray) = markS k) := markS_eq b k hc
        have hcn : (markL.getD k 0).toNat = b.toNat := by rw [hc]; omega
        obtain ⟨v, hv⟩ : ∃ v, markC.getD k 0 = v := ⟨_, rfl⟩
        obtain ⟨f1, ⟨f2, f3, f4, f5⟩, f6, f7, f8, f9⟩ := mark_facts k hk
        rw [hcn] at f6 f7 f8 f9
        rw [hv] at f1 f2 f3 f4 f5 f8
        have HV := Lib.hid hv
        have HR := Lib.hid hr
        have F1 := Lib.hid f1
        have hvt : ValidT ([b] : List UInt8) := ⟨by simp, fun x hx => by simp at hx; subst hx; exact f9⟩
        have HP : Hid (∀ w, Calls Try.prog 20 #[.string ⟨#[b]⟩] w fun e w' => CellsMade [v] w e w') := by
          intro w
          have := i_PlainCells ⟨#[b]⟩ [b] w (Txt.of _) rfl hvt
          rw [plain_one f6 f7, f8] at this
          exact this
        have e0 : (v != 0) = true := by simp; omega
        have e1 : (v != 60) = true := by simp; omega
        have e2 : (v != 32) = true := by simp; omega
        have e3 : (v != 48) = true := by simp; omega
        clear hv hr hc hcn f1 f6 f7 f8 f9 hvt f4 f5
        go_wp2_with fail
        refine (i_MarkCell_yes k _ v _ hk HS HV).mono ?_
        rintro e w' ⟨rfl, rfl⟩
        go_wp2_with fail
        refine (s_MarkCell_yes b k v _ hk HR HV).mono ?_
        rintro e w2 ⟨rfl, hb2⟩
        have hB2 := below_next hb1 hb2
        go_wp2_with fail
        refine (i_letterOf_w v (-1) _ F1).mono ?_
        rintro e w' ⟨rfl, rfl⟩
        go_wp2_with fail
        refine (HP.out _).mono ?_
        rintro e w3 ⟨v3, rfl, ho3, hb3, a3, n3, c3, rfl⟩
        have hB3 := below_next hB2 hb3
        have hx3 := ho3.at.below ((Below.refl _ w3).alloc (Nat.le_refl _) (.cells #[.int .i64 v] 3))
        have hy3 := own_one' w3 v
        clear ho3
        go_wp2_with fail
        refine (equalInts_same4 _ _ _ [v] hx3 hy3).mono ?_
        rintro e w4 ⟨rfl, hb4⟩
        go_wp2
        go_ret
        exact ⟨rfl, (hB3.alloc hB3.size _).trans (hb4.mono (by have := hB3.size; simp; omega))⟩
      · have HN : Hid (NoMark ⟨#[b]⟩) := noMark_one hc
        have HR := Lib.hid hr
        clear hr hc
        go_wp2_with fail
        refine (i_MarkCell_no _ _ HN.out).mono ?_
        rintro e w' ⟨rfl, rfl⟩
        go_wp2_with fail
        refine (s_MarkCell_no b _ HR).mono ?_
        rintro e w' ⟨rfl, rfl⟩
        go_wp2_with fail
        refine (s_MarkCell_no b _ HR).mono ?_
        rintro e w' ⟨rfl, rfl⟩
        go_wp2
        go_ret
        exact ⟨rfl, hb1⟩
    · have HN : Hid (NoMark s) := noMark_long h1
      go_wp2_with fail
      refine (i_MarkCell_no _ _ HN.out).mono ?_
      rintro e w' ⟨rfl, rfl⟩
      go_wp2_with fail
      refine (s_MarkCell_long s _ h1).mono ?_
      rintro e w' ⟨rfl, rfl⟩
      go_wp2_with fail
      refine (s_MarkCell_long s _ h1).mono ?_
      rintro e w' ⟨rfl, rfl⟩
      go_wp2
      go_ret
      exact ⟨rfl, hb1⟩
  · have hbig' : 1048576 < len := by omega
    go_enter Try.func3, Try.ntmps3
    go_wp2
    go_ret
    exact ⟨rfl, Below.refl _ _⟩
end Go.Proofs.Ytjffppabpdimkab
