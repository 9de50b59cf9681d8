
/- The cell of a character that is no letter. -/
import Derived.Test.YthlamidlcbnchaaMarkB
import Derived.Test.YthlamidlcbnchaaLetB
import Derived.Test.YthlamidlcbnchaaChr
import Derived.Laws.IdiomStrings
namespace Go.Proofs.Ythlamidlcbnchaa
open Go.RowKit

theorem one_u8 {w : World} {b : UInt8} {t : TypeId} : ∀ j (hj : j < [b].length), (w.alloc (.cells #[.int .u8 (b.toNat : Int)] t)).cell? ((⟨w.heap.size, 0, none⟩ : Addr).add j) = some (.int .u8 ([b][j].toNat : Int)) := by
  intro j hj
  obtain rfl : j = 0 := by simpa using hj
  simp [Addr.add]
/-- the cell of a space, a digit or a mark; -1 for all others -/
def charZ (c : Nat) : Int := if c = 32 then 0 else if 48 ≤ c ∧ c ≤ 57 then digL.getD (c - 48) 0 else if idx markL (c : Int) = -1 then -1 else markC.getD (idx markL (c : Int)).toNat 0
theorem i_digitCell_n (n v : Int) (w : World) (h0 : 0 ≤ n) (h1 : n < 10) (hv : Hid (digL.getD n.toNat 0 = v)) :
    Calls Try.prog 57 #[.int .i64 n] w fun e w' => e = .returned (.int .i64 v) ∧ w = w' := by
  have := i_digitCell n w h0 h1
  rw [hv.out] at this
  exact this

set_option maxHeartbeats 1000000 in
theorem i_charCell (b : UInt8) (v : Int) (w : World) (hv : Hid (charZ b.toNat = v)) :
    Calls Try.prog 40 #[.int .u8 b.toNat] w fun e w' => e = .returned (.int .i64 v) ∧ Below w.heap.size w w' := by
  have hb := b.toNat_lt
  by_cases h32 : b.toNat = 32
  · have HV : Hid (v = 0) := by show _ = _; rw [← hv.out, charZ, if_pos h32]
    have e1 : ((b.toNat : Int) == 32) = true := by rw [h32]; rfl
    clear h32
    go_enter Try.func40, Try.ntmps40
    go_wp2
    go_ret
    exact ⟨by rw [HV.out]; rfl, Below.refl _ _⟩
  · have e1 : ((b.toNat : Int) == 32) = false := by simp; omega
    by_cases hd : 48 ≤ b.toNat ∧ b.toNat ≤ 57
    · have HV : Hid (digL.getD ((b.toNat : Int) - 48).toNat 0 = v) := by
        show _ = _
        rw [← hv.out, charZ, if_neg h32, if_pos hd]
        rw [show ((b.toNat : Int) - 48).toNat = b.toNat - 48 from by omega]
      have HD : Hid (decide (48 ≤ b.toNat ∧ b.toNat ≤ 57) = true) := decide_eq_true hd
      obtain ⟨d1, d2⟩ := hd
      clear h32
      go_enter Try.func40, Try.ntmps40
      go_wp2_with (first | (go_at_call 56; refine (i_isDigit_b _ true _ HD).mono ?_; rintro e w' ⟨rfl, rfl⟩) | (go_at_call 57; refine (i_digitCell_n _ v _ (by omega) (by omega) HV).mono ?_; rintro e w' ⟨rfl, rfl⟩))
      go_ret
      exact ⟨rfl, Below.refl _ _⟩
    · have HD : Hid (decide (48 ≤ b.toNat ∧ b.toNat ≤ 57) = false) := decide_eq_false hd
      have hcv := run_convert_bytes_back (P := Try.prog) (w.alloc (.cells #[.int .u8 (b.toNat : Int)] 5)) 22 9 5 ⟨w.heap.size, 0, none⟩ 1 [b] Try.underlying22 Try.underlying5 Try.underlying9 one_u8
      rw [show [b].length = 1 from rfl] at hcv
      rcases mark_cases b.toNat (by omega) with ⟨k, hk, hr, hc⟩ | ⟨hr, hc⟩
      · have HS : Hid ((⟨#[b]⟩ : ByteArray) = markS k) := markS_eq b k hc
        have HV : Hid (markC.getD k 0 = v) := by
          show _ = _
          rw [← hv.out, charZ, if_neg h32, if_neg hd, hr, if_neg (show ¬ (k : Int) = -1 from by omega)]
          rw [show ((k : Int)).toNat = k from by omega]
        clear h32 hd hr hc
        go_enter Try.func40, Try.ntmps40
        go_wp2_with (first | (go_at_call 56; refine (i_isDigit_b _ false _ HD).mono ?_; rintro e w' ⟨rfl, rfl⟩) | (go_at_call 58; refine (i_MarkCell_yes k _ v _ hk HS HV).mono ?_; rintro e w' ⟨rfl, rfl⟩))
        go_ret
        exact ⟨rfl, (Below.refl _ _).alloc (Nat.le_refl _) _⟩
      · have HN : Hid (NoMark ⟨#[b]⟩) := noMark_one hc
        have HV : Hid (v = -1) := by show _ = _; rw [← hv.out, charZ, if_neg h32, if_neg hd, if_pos hr]
        clear h32 hd hr hc
        go_enter Try.func40, Try.ntmps40
        go_wp2_with (first | (go_at_call 56; refine (i_isDigit_b _ false _ HD).mono ?_; rintro e w' ⟨rfl, rfl⟩) | (go_at_call 58; refine (i_MarkCell_no _ _ HN.out).mono ?_; rintro e w' ⟨rfl, rfl⟩))
        go_ret
        exact ⟨by rw [HV.out]; rfl, (Below.refl _ _).alloc (Nat.le_refl _) _⟩
end Go.Proofs.Ythlamidlcbnchaa
