
/- DotsApart of both sides. -/
import Derived.Test.YthpbpdnlnmldeaaIu
namespace Go.Proofs.Ythpbpdnlnmldeaa
open Go.RowKit

def ApartF (f : Nat → Nat → Int) (n m F : Nat) : Prop := ∀ y x, y < n → x < m → f y x = 1 → ¬ NearP f n m y x F
def ApartOk (L : List (List Int)) (far : Int) : Prop := ThinOk L far ∧ ApartF (px L) L.length (wdt L) far.toNat
/-- the dots before a place have none near -/
def ApRow (f : Nat → Nat → Int) (n m F k : Nat) : Prop := ∀ y x, y < k → x < m → f y x = 1 → ¬ NearP f n m y x F
def ApCol (f : Nat → Nat → Int) (n m F k q : Nat) : Prop := ∀ x, x < q → f k x = 1 → ¬ NearP f n m k x F
theorem ApCol.succ {f : Nat → Nat → Int} {n m F k q : Nat} (h : ApCol f n m F k q) (e : f k q = 1 → ¬ NearP f n m k q F) : ApCol f n m F k (q + 1) := fun x hx => by
  by_cases hq : x = q
  · subst hq; exact e
  · exact h x (by omega)
theorem ApRow.succ {f : Nat → Nat → Int} {n m F k : Nat} (h : ApRow f n m F k) (e : ApCol f n m F k m) : ApRow f n m F (k + 1) := fun y x hy hx => by
  by_cases hq : y = k
  · subst hq; exact e x hx
  · exact h y x (by omega) hx
set_option maxHeartbeats 2000000 in
theorem i_DotsApart (w : World) (v : Value) (L : List (List Int)) (far : Int) (hx : ListsAt w v L) :
    Calls Try.prog 18 #[v, .int .i64 far] w fun e w' => AskI (ApartOk L far) w e w' := by
  have HX := keptI hx
  obtain ⟨a, n, cp, rfl, hn, x1, x2, _⟩ := hx.partsI
  clear hx hn
  go_enter Try.func18, Try.ntmps18
  go_wp2_with fail
  refine (i_canThin w _ L far HX.out).mono ?_
  rintro e w0 ⟨b, rfl, rfl, hbb⟩
  cases b with
  | false =>
    have HT : Hid (¬ ApartOk L far) := fun h => by simpa using hbb.2 h.1
    clear hbb
    go_wp2
    go_ret
    exact askI_no HT.out
  | true =>
    have HTO : Hid (ThinOk L far) := keptI (hbb.1 rfl)
    have HOK : Hid (BlockOk L 24 24 1) := HTO.out.1
    obtain ⟨hf1, hf2⟩ := HTO.out.2
    obtain ⟨F, rfl⟩ : ∃ F : Nat, far = (F : Int) := ⟨far.toNat, by omega⟩
    obtain ⟨hn, hp⟩ := HOK.out.pic HX.out
    obtain ⟨hd1, hd2, hd3, hd4⟩ := HOK.out.bd
    rw [← hn] at hd1 hd2
    obtain ⟨m, hm⟩ : ∃ m, wdt L = m := ⟨_, rfl⟩
    rw [hm] at hd3 hd4 hp
    obtain ⟨f, hf⟩ : ∃ f : Nat → Nat → Int, f = px L := ⟨_, rfl⟩
    rw [← hf] at hp
    have HA : Hid (ApartOk L F ↔ ApartF f n m F) := by
      show _ ↔ _
      unfold ApartOk
      rw [← hn, hm, ← hf, Int.toNat_natCast]
      exact ⟨fun h => h.2, fun h => ⟨HTO.out, h⟩⟩
    have HBin : Hid (Bin f n m) := fun y x _ _ => by rw [hf]; exact HOK.out.bin y x
    have HP := keptI hp
    have HDN : Hid (∀ y x : Nat, y < n → x < m → Calls Try.prog 43 #[.slice a n cp, .int .i64 (y : Int), .int .i64 (x : Int), .int .i64 (F : Int)] w fun e w' => e = .returned (.int .i64 (win f n m y x F)) ∧ w = w') := fun y x hy hx => i_dotsNear w a n cp m f y x F HP.out HBin.out (by omega) (by omega) hy hx (by omega)
    clear hbb hf hn hm hp
    go_wp2
    go_loop [15] (fun i => ∃ k : Nat, k ≤ n ∧ i = .int .i64 k ∧ Hid (ApRow f n m F k)) (fun i => n - (intOf i).toNat)
    case atStart => exact ⟨0, Nat.zero_le _, rfl, fun y x h => absurd h (by omega)⟩
    case round =>
      obtain ⟨k, hk, rfl, HAR⟩ := hrel
      by_cases hlt : k < n
      · obtain ⟨g, off, b, o, d, rfl, c0, hd5, hd6, hcx⟩ := HP.out.row hlt
        have HCX := keptI hcx
        clear hcx
        go_wp2
        go_loop [22] (fun j => ∃ q : Nat, q ≤ m ∧ j = .int .i64 q ∧ Hid (ApCol f n m F k q)) (fun j => m - (intOf j).toNat)
        case atStart => exact ⟨0, Nat.zero_le _, rfl, fun x h => absurd h (by omega)⟩
        case round =>
          obtain ⟨q, hq, rfl, HAC⟩ := hrel
          by_cases hqm : q < m
          · have cx := HCX.out q hqm
            have hdn := HDN.out k q hlt hqm
            have hwn := win_near (far := F) HBin.out hlt hqm (by omega)
            obtain ⟨z, hz⟩ : ∃ z, f k q = z := ⟨_, rfl⟩
            obtain ⟨s, hs⟩ : ∃ s, win f n m k q F = s := ⟨_, rfl⟩
            rw [hz] at cx hwn
            rw [hs] at hdn hwn
            have HDQ := keptI hdn
            have HWN := keptI hwn
            have HZ := Lib.hid hz
            clear hz hs hdn hwn
            by_cases h1 : z = 1
            · by_cases h2 : z < s
              · have HT : Hid (¬ ApartOk L F) := fun h => (HA.out.1 h) k q hlt hqm (by rw [HZ.out]; exact h1) (HWN.out.1 h2)
                have d1 : (z == 1) = true := by simp [h1]
                have d2 : decide (1 < s) = true := decide_eq_true (by omega)
                clear h1 h2
                go_wp2_with fail
                refine HDQ.out.mono ?_
                rintro e w' ⟨rfl, rfl⟩
                go_wp2
                go_ret
                exact askI_no HT.out
              · have HC2 : Hid (ApCol f n m F k (q + 1)) := HAC.out.succ fun _ h => h2 (HWN.out.2 h)
                have d1 : (z == 1) = true := by simp [h1]
                have d2 : decide (1 < s) = false := decide_eq_false (by omega)
                clear h1 h2
                go_wp2_with fail
                refine HDQ.out.mono ?_
                rintro e w' ⟨rfl, rfl⟩
                go_wp2
                go_round
                case rel => exact ⟨q + 1, by omega, by go_num, HC2⟩
                case measure => simp [intOf]; omega
            · have HC2 : Hid (ApCol f n m F k (q + 1)) := HAC.out.succ fun h => absurd (HZ.out.symm.trans h) h1
              have d1 : (z == 1) = false := by simp [h1]
              clear h1
              go_wp2
              go_round
              case rel => exact ⟨q + 1, by omega, by go_num, HC2⟩
              case measure => simp [intOf]; omega
          · obtain rfl : q = m := by omega
            have HR2 := keptI (HAR.out.succ HAC.out)
            go_wp2
            go_round
            case rel => exact ⟨k + 1, by omega, by go_num, HR2⟩
            case measure => simp [intOf]; omega
      · obtain rfl : k = n := by omega
        have HT : Hid (ApartOk L F) := HA.out.2 HAR.out
        go_wp2
        go_ret
        exact askI_yes HT.out
set_option maxHeartbeats 2000000 in
theorem s_DotsApart (w : World) (v : Value) (L : List (List Int)) (far : Int) (hx : ListsAt w v L) :
    Calls Try.prog 19 #[v, .int .i64 far] w fun e w' => AskB (ApartOk L far) w e w' := by
  have HX := keptI hx
  obtain ⟨a, n, cp, rfl, hn, x1, x2, _⟩ := hx.partsI
  clear hx hn
  go_enter Try.func19, Try.ntmps19
  go_wp2_with fail
  refine (s_validPicture w _ L HX.out).mono ?_
  rintro e w0 ⟨b, rfl, hb0, hbb⟩
  cases b with
  | false =>
    have HT : Hid (¬ ApartOk L far) := fun h => by simpa using hbb.2 h.1.1
    clear hbb
    go_wp2
    go_ret
    exact askB_no HT.out hb0
  | true =>
    have HOK : Hid (BlockOk L 24 24 1) := keptI (hbb.1 rfl)
    have HB0 := keptI hb0
    have HX0 := keptI (HX.out.below hb0)
    by_cases hK : 1 ≤ far ∧ far ≤ 24
    · have HTO : Hid (ThinOk L far) := ⟨HOK.out, hK⟩
      obtain ⟨hf1, hf2⟩ := hK
      obtain ⟨F, rfl⟩ : ∃ F : Nat, far = (F : Int) := ⟨far.toNat, by omega⟩
      obtain ⟨hn, hp⟩ := HOK.out.pic HX0.out
      obtain ⟨hd1, hd2, hd3, hd4⟩ := HOK.out.bd
      rw [← hn] at hd1 hd2
      obtain ⟨m, hm⟩ : ∃ m, wdt L = m := ⟨_, rfl⟩
      rw [hm] at hd3 hd4 hp
      obtain ⟨f, hf⟩ : ∃ f : Nat → Nat → Int, f = px L := ⟨_, rfl⟩
      rw [← hf] at hp
      have HA : Hid (ApartOk L F ↔ ApartF f n m F) := by
        show _ ↔ _
        unfold ApartOk
        rw [← hn, hm, ← hf, Int.toNat_natCast]
        exact ⟨fun h => h.2, fun h => ⟨HTO.out, h⟩⟩
      have HP := keptI hp
      have HDN : Hid (∀ y x : Nat, y < n → x < m → Calls Try.prog 44 #[.slice a n cp, .int .i64 (y : Int), .int .i64 (x : Int), .int .i64 (F : Int)] w0 fun e w' => AskI (NearP f n m y x F) w0 e w') := fun y x hy hx => s_near w0 a n cp m f y x F HP.out (by omega) (by omega) hy hx (by omega)
      clear hbb hf hn hm hp hb0
      go_wp2_with fail
      refine (inRange_yes (F : Int) 1 24 _ hf1 hf2).mono ?_
      rintro e w' ⟨rfl, rfl⟩
      go_wp2
      go_loop [5] (fun i => ∃ k : Nat, k ≤ n ∧ i = .int .i64 k ∧ Hid (ApRow f n m F k)) (fun i => n - (intOf i).toNat)
      case atStart => exact ⟨0, Nat.zero_le _, rfl, fun y x h => absurd h (by omega)⟩
      case round =>
        obtain ⟨k, hk, rfl, HAR⟩ := hrel
        by_cases hlt : k < n
        · obtain ⟨g, off, b, o, d, rfl, c0, hd5, hd6, hcx⟩ := HP.out.row hlt
          have HCX := keptI hcx
          have q1 : (0 : Int) ≤ (k : Int) := by omega
          have q2 : (k : Int) < (n : Int) := by omega
          clear hcx
          go_wp2
          go_loop [6] (fun j => ∃ q : Nat, q ≤ m ∧ j = .int .i64 q ∧ Hid (ApCol f n m F k q)) (fun j => m - (intOf j).toNat)
          case atStart => exact ⟨0, Nat.zero_le _, rfl, fun x h => absurd h (by omega)⟩
          case round =>
            obtain ⟨q, hq, rfl, HAC⟩ := hrel
            by_cases hqm : q < m
            · have cx := HCX.out q hqm
              have hdn := HDN.out k q hlt hqm
              obtain ⟨z, hz⟩ : ∃ z, f k q = z := ⟨_, rfl⟩
              rw [hz] at cx
              have HDQ := keptI hdn
              have HZ := Lib.hid hz
              clear hz hdn
              by_cases h1 : z = 1
              · have d1 : (z == 1) = true := by simp [h1]
                have HZ1 : Hid (f k q = 1) := HZ.out.trans h1
                clear h1
                go_wp2_with fail
                refine HDQ.out.mono ?_
                rintro e w' ⟨b, rfl, rfl, hbb⟩
                cases b with
                | true =>
                  have HT : Hid (¬ ApartOk L F) := fun h => (HA.out.1 h) k q hlt hqm HZ1.out (hbb.1 rfl)
                  clear hbb
                  go_wp2
                  go_ret
                  exact askB_no HT.out HB0.out
                | false =>
                  have HC2 : Hid (ApCol f n m F k (q + 1)) := HAC.out.succ fun _ h => by simpa using hbb.2 h
                  clear hbb
                  go_wp2
                  go_round
                  case rel => exact ⟨q + 1, by omega, by go_num, HC2⟩
                  case measure => simp [intOf]; omega
              · have HC2 : Hid (ApCol f n m F k (q + 1)) := HAC.out.succ fun h => absurd (HZ.out.symm.trans h) h1
                have d1 : (z == 1) = false := by simp [h1]
                clear h1
                go_wp2
                go_round
                case rel => exact ⟨q + 1, by omega, by go_num, HC2⟩
                case measure => simp [intOf]; omega
            · obtain rfl : q = m := by omega
              have HR2 := keptI (HAR.out.succ HAC.out)
              go_wp2
              go_round
              case rel => exact ⟨k + 1, by omega, by go_num, HR2⟩
              case measure => simp [intOf]; omega
        · obtain rfl : k = n := by omega
          have HT : Hid (ApartOk L F) := HA.out.2 HAR.out
          go_wp2
          go_ret
          exact askB_yes HT.out HB0.out
    · have HT : Hid (¬ ApartOk L far) := fun h => hK h.1.2
      have hK' : far < 1 ∨ 24 < far := by omega
      clear hbb hK
      go_wp2_with fail
      refine (inRange_no far 1 24 _ hK').mono ?_
      rintro e w' ⟨rfl, rfl⟩
      go_wp2
      go_ret
      exact askB_no HT.out hb0
end Go.Proofs.Ythpbpdnlnmldeaa
