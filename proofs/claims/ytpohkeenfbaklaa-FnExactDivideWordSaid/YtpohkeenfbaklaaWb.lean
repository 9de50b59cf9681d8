
/- The marks of the exact laws in rows of texts. -/
import Derived.Test.YtpohkeenfbaklaaWa
namespace Go.Proofs.Ytpohkeenfbaklaa
open Go.RowKit

set_option maxHeartbeats 1000000 in
theorem markText_is (w : World) (K : Nat) (h0 : 1 ≤ K) (h1 : K ≤ 100000) :
    Calls Try.prog 54 #[.int .i64 K] w fun e w' => e = .returned (.string (mT K)) ∧ Below w.heap.size w w' := by
  have d0 : decide ((K : Int) ≤ 0) = false := decide_eq_false (by omega)
  obtain ⟨R, hR⟩ : ∃ R, mtg (K + 1) K ⟨#[]⟩ = R := ⟨_, rfl⟩
  have HR := keptS hR
  have HMT : Hid (mT K = (⟨#[109]⟩ : ByteArray) ++ R) := by show _ = _; unfold mT; rw [hR]
  clear hR
  go_enter Try.func54, Try.ntmps54
  go_wp2
  go_loopw [0, 3] (fun q t wr => ∃ (m f : Nat) (s : ByteArray), q = .int .i64 m ∧ t = .string s ∧ m < f ∧ m ≤ 100000 ∧ s.size + m ≤ 100000 ∧ Hid (mtg f m s = R) ∧ Below w.heap.size w wr) (fun q _ _ => (intOf q).toNat)
  case atStart => exact ⟨K, K + 1, ⟨#[]⟩, rfl, rfl, by omega, h1, by simp [ByteArray.size]; omega, HR, Below.refl _ _⟩
  case round =>
    obtain ⟨m, f, s, rfl, rfl, hmf, hm1, hms, HM, hb1⟩ := hrel
    obtain ⟨f, rfl⟩ : ∃ f', f = f' + 1 := ⟨f - 1, by omega⟩
    by_cases hm : 0 < m
    · have d1 : decide ((0 : Int) < (m : Int)) = true := decide_eq_true (by omega)
      obtain ⟨d, hd⟩ : ∃ d, m % 10 = d := ⟨_, rfl⟩
      obtain ⟨q, hq⟩ : ∃ q, m / 10 = q := ⟨_, rfl⟩
      have hd10 : d < 10 := by omega
      have hqm : q + 1 ≤ m := by omega
      have hqf : q < f := by omega
      have t1 : ((m : Int)).tmod 10 = (d : Int) := by rw [Int.tmod_eq_emod_of_nonneg (by omega), ← hd]; simp
      have t2 : ((m : Int)).tdiv 10 = (q : Int) := by rw [Int.tdiv_eq_ediv_of_nonneg (by omega), ← hq]; simp
      have t3 : ((m : Int)) % 10 = (d : Int) := by omega
      have t4 : ((m : Int)) / 10 = (q : Int) := by omega
      have hb : (UInt8.ofNat (48 + d)).toNat = 48 + d := by simp; omega
      have HM2 : Hid (mtg f q ((⟨#[UInt8.ofNat (48 + d)]⟩ : ByteArray) ++ s) = R) := by
        show _ = _
        have h := HM.out
        have e : mtg (f + 1) m s = mtg f (m / 10) ((⟨#[UInt8.ofNat (48 + m % 10)]⟩ : ByteArray) ++ s) := if_neg (by omega)
        rw [e, hd, hq] at h
        exact h
      obtain ⟨b, hbb⟩ : ∃ b : UInt8, UInt8.ofNat (48 + d) = b := ⟨_, rfl⟩
      rw [hbb] at hb HM2
      have u3 : IntKind.u8.wrap (48 + (d : Int)) = (b.toNat : Int) := by rw [hb]; simp [IntKind.wrap, IntKind.bits, IntKind.signed]; omega
      have u1 : IntKind.i64.wrap (d : Int) = d := IntWalk.i64_in _ (by omega)
      have u2 : IntKind.i64.wrap (48 + (d : Int)) = 48 + (d : Int) := IntWalk.i64_in _ (by omega)
      have u4 : IntKind.i64.wrap (q : Int) = q := IntWalk.i64_in _ (by omega)
      have hcv := run_convert_bytes_back (P := Try.prog) (wr.alloc (.cells #[.int .u8 (b.toNat : Int)] 5)) 22 9 5 ⟨wr.heap.size, 0, none⟩ 1 [b] Try.underlying22 Try.underlying5 Try.underlying9 (by
        intro j hj
        obtain rfl : j = 0 := by simpa using hj
        simp [Addr.add])
      rw [show [b].length = 1 from rfl] at hcv
      have hz : (⟨#[b]⟩ : ByteArray).size = 1 := rfl
      have r1 := fun wx => run_string_add_sum (P := Try.prog) wx (⟨#[b]⟩ : ByteArray) s (by omega)
      have hz2 : ((⟨#[b]⟩ : ByteArray) ++ s).size = 1 + s.size := by rw [ByteArray.size_append]; rfl
      have hfin : ((⟨#[b]⟩ : ByteArray) ++ s).size + q ≤ 100000 := by omega
      have HF := Lib.hid hfin
      have hszr := hb1.size
      have HB1 := keptS hb1
      clear hd hq hb hbb hz hz2 hfin hb1 HM hmf
      go_wp2
      go_roundw
      case rel => exact ⟨q, f, _, rfl, rfl, hqf, by omega, HF.out, HM2, HB1.out.alloc hszr _⟩
      case measure => simp [intOf]; omega
    · have d1 : decide ((0 : Int) < (m : Int)) = false := decide_eq_false (by omega)
      obtain rfl : m = 0 := by omega
      have hsR : s = R := by
        have h := HM.out
        have e : mtg (f + 1) 0 s = s := if_pos rfl
        rw [e] at h; exact h
      subst hsR
      have hz : (⟨#[109]⟩ : ByteArray).size = 1 := rfl
      have r1 := fun wx => run_string_add_sum (P := Try.prog) wx (⟨#[109]⟩ : ByteArray) s (by omega)
      clear hz HM
      go_wp2
      go_ret
      exact ⟨by rw [HMT.out]; rfl, hb1⟩
/-- the row with its first k marks -/
def mkS (P : List ByteArray) : Nat → List ByteArray
  | 0 => P
  | k + 1 => (mkS P k).set k (mT (k + 1))
theorem mkS_len (P : List ByteArray) (k : Nat) : (mkS P k).length = P.length := by
  induction k with
  | zero => rfl
  | succ k ih => show ((mkS P k).set _ _).length = _; rw [List.length_set, ih]
theorem mkS_at (P : List ByteArray) : ∀ k, k ≤ P.length → ∀ i, i < k → (mkS P k).getD i ⟨#[]⟩ = mT (i + 1) := by
  intro k
  induction k with
  | zero => intro _ i h; omega
  | succ k ih =>
    intro hk i hi
    show ((mkS P k).set k (mT (k + 1))).getD i ⟨#[]⟩ = _
    rw [List.getD_eq_getElem?_getD, List.getElem?_set]
    by_cases hik : k = i
    · subst hik
      rw [if_pos rfl, if_pos (by rw [mkS_len]; omega), Option.getD_some]
    · rw [if_neg hik, ← List.getD_eq_getElem?_getD]
      exact ih (by omega) i (by omega)
set_option maxHeartbeats 2000000 in
theorem markStringS_own (w : World) (base : Nat) (a : Option Addr) (n c : Nat) (P : List ByteArray) (hO : OwnSt w base (.slice a n c) P) (hn : n ≤ 1000) (hb : base ≤ w.heap.size) :
    Calls Try.prog 38 #[.slice a n c, .int .i64 1] w fun e w' => e = .returned (.int .i64 (1 + (n : Int))) ∧ OwnSt w' base (.slice a n c) (mkS P n) ∧ Below base w w' := by
  have HO := keptS hO
  clear hO
  go_enter Try.func38, Try.ntmps38
  go_wp2
  go_loopw [1, 5] (fun q i wr => ∃ (k m : Nat), k ≤ n ∧ i = .int .i64 k ∧ q = .int .i64 m ∧ m = 1 + k ∧ OwnSt wr base (.slice a n c) (mkS P k) ∧ Below base w wr) (fun _ i _ => n - (intOf i).toNat)
  case atStart => exact ⟨0, 1, Nat.zero_le _, rfl, rfl, rfl, HO.out, Below.refl _ _⟩
  case round =>
    obtain ⟨k, m, hk, rfl, rfl, hm, hO, hB⟩ := hrel
    by_cases hlt : k < n
    · have HO1 := keptS hO
      have HB1 := keptS hB
      have hs := Nat.le_trans hb hB.size
      have HMM := Lib.hid hm
      have bm : m ≤ 2000 := by omega
      have bm1 : 1 ≤ m := by omega
      clear hO hB hm
      go_wp2_with fail
      refine (markText_is wr m bm1 (by omega)).mono ?_
      rintro e w2 ⟨rfl, hb2⟩
      have hO2 := HO1.out.below hb2
      have hB2 := HB1.out.trans (hb2.mono hs)
      obtain ⟨g, rfl, hg1, hg2, c0⟩ := hO2.nth hlt
      have f0 := hO2.free k
      have hO3 := hO2.set k (mT m)
      have hmk : mkS P (k + 1) = (mkS P k).set k (mT m) := by
        show (mkS P k).set k (mT (k + 1)) = _
        rw [HMM.out, Nat.add_comm]
      rw [← hmk] at hO3
      have hB3 := hB2.setCell (p := ⟨g, k, none⟩) hg1 (.string (mT m))
      have NXT := keptS (And.intro hO3 hB3)
      have b1 : (0 : Int) ≤ (k : Int) := by omega
      have b2 : (k : Int) < (n : Int) := by omega
      clear hO3 hB3 hmk hO2 hB2 hb2
      go_wp2
      go_roundw
      case rel => exact ⟨k + 1, m + 1, by omega, by go_num, by go_num, by have := HMM.out; omega, NXT.out.1, NXT.out.2⟩
      case measure => simp [intOf]; omega
    · obtain rfl : n = k := by omega
      have HMM : Hid ((m : Int) = 1 + (n : Int)) := by show _ = _; omega
      have FIN := keptS (And.intro hO hB)
      clear hO hB hm
      go_wp2
      go_ret
      exact ⟨by rw [← HMM.out]; rfl, FIN.out.1, FIN.out.2⟩
set_option maxHeartbeats 2000000 in
theorem heldStringS_own (w : World) (base : Nat) (a : Option Addr) (n c : Nat) (P : List ByteArray) (hO : OwnSt w base (.slice a n c) (mkS P n)) (hn : n ≤ 1000) :
    Calls Try.prog 39 #[.slice a n c, .int .i64 1] w fun e w' => e = .returned (.int .i64 (1 + (n : Int))) ∧ Below w.heap.size w w' := by
  have hl := hO.len
  rw [mkS_len] at hl
  have HL := Lib.hid hl
  have HO := keptS hO
  clear hO hl
  go_enter Try.func39, Try.ntmps39
  go_wp2
  go_loopw [1, 5] (fun q i wr => ∃ (k m : Nat), k ≤ n ∧ i = .int .i64 k ∧ q = .int .i64 m ∧ m = 1 + k ∧ Below w.heap.size w wr) (fun _ i _ => n - (intOf i).toNat)
  case atStart => exact ⟨0, 1, Nat.zero_le _, rfl, rfl, rfl, Below.refl _ _⟩
  case round =>
    obtain ⟨k, m, hk, rfl, rfl, hm, hB⟩ := hrel
    by_cases hlt : k < n
    · obtain ⟨g, rfl, _, _, c0⟩ := (HO.out.below hB).nth hlt
      rw [mkS_at P n (by rw [HL.out]; omega) k hlt, show k + 1 = m from by omega] at c0
      have HMM := Lib.hid hm
      have HB := keptS hB
      have hszr := hB.size
      obtain ⟨t, ht⟩ : ∃ t, mT m = t := ⟨_, rfl⟩
      rw [ht] at c0
      have HMT : Hid (∀ wx, Calls Try.prog 54 #[.int .i64 m] wx fun e w' => e = .returned (.string t) ∧ Below wx.heap.size wx w') := fun wx => by rw [← ht]; exact markText_is wx m (by omega) (by omega)
      have HK : Hid (∀ wy, Below wr.heap.size wr wy → wy.cell? ⟨g, k, none⟩ = some (.string t)) := fun wy h => (h.cell (World.block_lt_of_cell? wr _ c0)).trans c0
      have bm : m ≤ 2000 := by omega
      have b1 : (0 : Int) ≤ (k : Int) := by omega
      have b2 : (k : Int) < (n : Int) := by omega
      clear hm hB ht
      go_wp2_with fail
      go_region_held3 (fun wy => wy.cell? ⟨g, k, none⟩ = some (.string t)) (first | assumption | exact HK.out _ (Below.refl _ _).drew | exact HK.out _ ((Below.refl _ _).drew.trans hb5)) (first | (go_at_call 54; refine (HMT.out wr.drew).mono ?_; rintro e w5 ⟨rfl, hb5⟩))
      all_goals
        have HB5 := keptS (HB.out.trans (((Below.refl _ _).drew.trans hb5).mono hszr))
        clear hb5
        go_wp2
        go_roundw
        case rel => exact ⟨k + 1, m + 1, by omega, by go_num, by go_num, by have := HMM.out; omega, HB5.out⟩
        case measure => simp [intOf]; omega
    · obtain rfl : n = k := by omega
      have HMM : Hid ((m : Int) = 1 + (n : Int)) := by show _ = _; omega
      have HB := keptS hB
      clear hB hm
      go_wp2
      go_ret
      exact ⟨by rw [← HMM.out]; rfl, HB.out⟩
end Go.Proofs.Ytpohkeenfbaklaa
