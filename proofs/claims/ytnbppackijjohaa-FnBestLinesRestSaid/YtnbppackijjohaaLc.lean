
/- Words that can be put on lines, lines of a width: both sides. -/
import Derived.Test.YtnbppackijjohaaLb
import Derived.Test.YtnbppackijjohaaRange
namespace Go.Proofs.Ytnbppackijjohaa
open Go.RowKit

theorem i_isWidth_b (w : World) (W : Int) (b : Bool) (hb : Hid (b = true ↔ (1 ≤ W ∧ W ≤ 40))) :
    Calls Try.prog 59 #[.int .i64 W] w fun e w' => e = .returned (.bool b) ∧ w = w' := by
  by_cases h1 : 1 ≤ W
  · by_cases h2 : W ≤ 40
    · have d1 : decide (1 ≤ W) = true := decide_eq_true h1
      have d2 : decide (W ≤ 40) = true := decide_eq_true h2
      have HF : Hid (b = true) := hb.out.2 ⟨h1, h2⟩
      clear h1 h2
      go_enter Try.func59, Try.ntmps59
      go_wp2
      go_ret
      exact ⟨by rw [HF.out]; rfl, rfl⟩
    · have d1 : decide (1 ≤ W) = true := decide_eq_true h1
      have d2 : decide (W ≤ 40) = false := decide_eq_false h2
      have HF : Hid (b = false) := inB hb.out fun h => h2 h.2
      clear h1 h2
      go_enter Try.func59, Try.ntmps59
      go_wp2
      go_ret
      exact ⟨by rw [HF.out]; rfl, rfl⟩
  · have d1 : decide (1 ≤ W) = false := decide_eq_false h1
    have HF : Hid (b = false) := inB hb.out fun h => h1 h.1
    clear h1
    go_enter Try.func59, Try.ntmps59
    go_wp2
    go_ret
    exact ⟨by rw [HF.out]; rfl, rfl⟩
theorem inRange_b (w : World) (n lo hi : Int) (b : Bool) (hb : Hid (b = true ↔ (lo ≤ n ∧ n ≤ hi))) :
    Calls Try.prog 63 #[.int .i64 n, .int .i64 lo, .int .i64 hi] w fun e w' => e = .returned (.bool b) ∧ w = w' := by
  cases b with
  | true => have h := hb.out.1 rfl; exact inRange_yes n lo hi w h.1 h.2
  | false => exact inRange_no n lo hi w (by
      have h : ¬ (lo ≤ n ∧ n ≤ hi) := fun k => by have := hb.out.2 k; simp at this
      omega)
set_option maxHeartbeats 2000000 in
theorem i_canFill_b (w : World) (v : Value) (L : List (List Int)) (W : Int) (b : Bool) (hx : ListsAt w v L) (hb : Hid (b = true ↔ FillOk L W)) :
    Calls Try.prog 40 #[v, .int .i64 W] w fun e w' => e = .returned (.bool b) ∧ w = w' := by
  have HX := keptL hx
  obtain ⟨a, cp, rfl, x1, x2, _⟩ := hx
  obtain ⟨n, hn⟩ : ∃ n, L.length = n := ⟨_, rfl⟩
  rw [hn] at x1 HX ⊢
  have HN := Lib.hid hn
  clear hn
  by_cases hbig : n ≤ 30
  · by_cases hW : 1 ≤ W ∧ W ≤ 40
    · have HW : Hid (true = true ↔ (1 ≤ W ∧ W ≤ 40)) := ⟨fun _ => hW, fun _ => rfl⟩
      go_enter Try.func40, Try.ntmps40
      go_wp2_with (go_at_call 59; refine (i_isWidth_b _ W true HW).mono ?_; rintro e w2 ⟨rfl, rfl⟩)
      go_loop [17] (fun i => ∃ k : Nat, k ≤ n ∧ i = .int .i64 k ∧ UpL (ItemW W) L k) (fun i => n - (intOf i).toNat)
      case atStart => exact ⟨0, Nat.zero_le _, rfl, UpL.zero _ _⟩
      case round =>
        obtain ⟨k, hk, rfl, hs⟩ := hrel
        by_cases hlt : k < n
        · obtain ⟨g, off, u, rfl, c1, hu⟩ := HX.out.someNth hlt
          obtain ⟨zs, hzs⟩ : ∃ zs, L.getD k [] = zs := ⟨_, rfl⟩
          rw [hzs] at hu
          have HZ := Lib.hid hzs
          have HU := keptL hu
          obtain ⟨a3, c3, rfl, y1, y2, _⟩ := hu
          obtain ⟨m, hm⟩ : ∃ m, zs.length = m := ⟨_, rfl⟩
          rw [hm] at y1 c1 HU
          have HM := Lib.hid hm
          have b1 : (0 : Int) ≤ (k : Int) := by omega
          have b2 : (k : Int) < (n : Int) := by omega
          clear hzs hm
          by_cases e : ItemW W zs
          · have hs' := keptL (hs.succ (by rw [HZ.out]; exact e))
            have HE := keptL e
            clear e hs
            have HI : Hid (true = true ↔ ItemW W zs) := ⟨fun _ => HE.out, fun _ => rfl⟩
            go_wp2_with (go_at_call 60; refine (i_isItem_b _ _ zs W true HU.out HI).mono ?_; rintro e w2 ⟨rfl, rfl⟩)
            go_round
            case rel => exact ⟨k + 1, by omega, by go_num, hs'.out⟩
            case measure => simp [intOf]; omega
          · have HF : Hid (b = false) := inB hb.out fun h => e (by have := h.2.2 k (by rw [HN.out]; exact hlt); rw [HZ.out] at this; exact this)
            clear hs
            have HI : Hid (false = true ↔ ItemW W zs) := ⟨fun h => by simp at h, fun h => absurd h e⟩
            clear e
            go_wp2_with (go_at_call 60; refine (i_isItem_b _ _ zs W false HU.out HI).mono ?_; rintro e w2 ⟨rfl, rfl⟩)
            go_ret
            exact ⟨by rw [HF.out]; rfl, rfl⟩
        · obtain rfl : k = n := by omega
          have HF : Hid (b = true) := hb.out.2 ⟨by rw [HN.out]; exact hbig, hW, by rw [HN.out]; exact hs⟩
          clear hs
          go_wp2
          go_ret
          exact ⟨by rw [HF.out]; rfl, rfl⟩
    · have HW : Hid (false = true ↔ (1 ≤ W ∧ W ≤ 40)) := ⟨fun h => by simp at h, fun h => absurd h hW⟩
      have HF : Hid (b = false) := inB hb.out fun h => hW h.2.1
      go_enter Try.func40, Try.ntmps40
      go_wp2_with (go_at_call 59; refine (i_isWidth_b _ W false HW).mono ?_; rintro e w2 ⟨rfl, rfl⟩)
      go_ret
      exact ⟨by rw [HF.out]; rfl, rfl⟩
  · have HF : Hid (b = false) := inB hb.out fun h => hbig (by have := h.1; rw [HN.out] at this; exact this)
    have hbig' : 30 < n := by omega
    go_enter Try.func40, Try.ntmps40
    go_wp2
    go_ret
    exact ⟨by rw [HF.out]; rfl, rfl⟩
set_option maxHeartbeats 2000000 in
theorem i_areLines_m (w : World) (v : Value) (L : List (List Int)) (M : Nat) (W : Int) (b : Bool) (hx : ListsAt w v L) (hM : M ≤ 1000000) (hb : Hid (b = true ↔ (L.length ≤ M ∧ (1 ≤ W ∧ W ≤ 40) ∧ UpL (LineW W) L L.length))) :
    Calls Try.prog 46 #[v, .int .i64 M, .int .i64 W] w fun e w' => e = .returned (.bool b) ∧ w = w' := by
  have HX := keptL hx
  obtain ⟨a, cp, rfl, x1, x2, _⟩ := hx
  obtain ⟨n, hn⟩ : ∃ n, L.length = n := ⟨_, rfl⟩
  rw [hn] at x1 HX ⊢
  have HN := Lib.hid hn
  clear hn
  by_cases hbig : n ≤ M
  · have dbig : decide ((M : Int) < (n : Int)) = false := decide_eq_false (by omega)
    have dbig2 : decide (M < n) = false := decide_eq_false (by omega)
    by_cases hW : 1 ≤ W ∧ W ≤ 40
    · have HW : Hid (true = true ↔ (1 ≤ W ∧ W ≤ 40)) := ⟨fun _ => hW, fun _ => rfl⟩
      go_enter Try.func46, Try.ntmps46
      go_wp2_with (go_at_call 59; refine (i_isWidth_b _ W true HW).mono ?_; rintro e w2 ⟨rfl, rfl⟩)
      go_loop [20] (fun i => ∃ k : Nat, k ≤ n ∧ i = .int .i64 k ∧ UpL (LineW W) L k) (fun i => n - (intOf i).toNat)
      case atStart => exact ⟨0, Nat.zero_le _, rfl, UpL.zero _ _⟩
      case round =>
        obtain ⟨k, hk, rfl, hs⟩ := hrel
        by_cases hlt : k < n
        · obtain ⟨g, off, u, rfl, c1, hu⟩ := HX.out.someNth hlt
          obtain ⟨zs, hzs⟩ : ∃ zs, L.getD k [] = zs := ⟨_, rfl⟩
          rw [hzs] at hu
          have HZ := Lib.hid hzs
          have HU := keptL hu
          obtain ⟨a3, c3, rfl, y1, y2, _⟩ := hu
          obtain ⟨m, hm⟩ : ∃ m, zs.length = m := ⟨_, rfl⟩
          rw [hm] at y1 c1 HU
          have HM := Lib.hid hm
          have b1 : (0 : Int) ≤ (k : Int) := by omega
          have b2 : (k : Int) < (n : Int) := by omega
          clear hzs hm
          by_cases e : LineW W zs
          · have hs' := keptL (hs.succ (by rw [HZ.out]; exact e))
            have HE := keptL e
            clear e hs
            have H3 : Hid (decide (ValidL zs) = true) := decide_eq_true HE.out.2
            have d3 : decide (W < (m : Int)) = false := decide_eq_false (by have := HE.out.1; rw [HM.out] at this; omega)
            go_wp2_with (go_at_call 65; refine (i_ValidCells_b _ _ zs true HU.out H3).mono ?_; rintro e w2 ⟨rfl, rfl⟩)
            go_round
            case rel => exact ⟨k + 1, by omega, by go_num, hs'.out⟩
            case measure => simp [intOf]; omega
          · have HF : Hid (b = false) := inB hb.out fun h => e (by have := h.2.2 k (by rw [HN.out]; exact hlt); rw [HZ.out] at this; exact this)
            clear hs
            by_cases e1 : (m : Int) ≤ W
            · have d3 : decide (W < (m : Int)) = false := decide_eq_false (by omega)
              have H3 : Hid (decide (ValidL zs) = false) := decide_eq_false fun h => e ⟨by rw [HM.out]; exact e1, h⟩
              clear e
              go_wp2_with (go_at_call 65; refine (i_ValidCells_b _ _ zs false HU.out H3).mono ?_; rintro e w2 ⟨rfl, rfl⟩)
              go_ret
              exact ⟨by rw [HF.out]; rfl, rfl⟩
            · have d3 : decide (W < (m : Int)) = true := decide_eq_true (by omega)
              clear e
              go_wp2
              go_ret
              exact ⟨by rw [HF.out]; rfl, rfl⟩
        · obtain rfl : k = n := by omega
          have HF : Hid (b = true) := hb.out.2 ⟨by rw [HN.out]; exact hbig, hW, by rw [HN.out]; exact hs⟩
          clear hs
          go_wp2
          go_ret
          exact ⟨by rw [HF.out]; rfl, rfl⟩
    · have HW : Hid (false = true ↔ (1 ≤ W ∧ W ≤ 40)) := ⟨fun h => by simp at h, fun h => absurd h hW⟩
      have HF : Hid (b = false) := inB hb.out fun h => hW h.2.1
      go_enter Try.func46, Try.ntmps46
      go_wp2_with (go_at_call 59; refine (i_isWidth_b _ W false HW).mono ?_; rintro e w2 ⟨rfl, rfl⟩)
      go_ret
      exact ⟨by rw [HF.out]; rfl, rfl⟩
  · have HF : Hid (b = false) := inB hb.out fun h => hbig (by have := h.1; rw [HN.out] at this; exact this)
    have hbig' : (M : Int) < (n : Int) := by omega
    go_enter Try.func46, Try.ntmps46
    go_wp2
    go_ret
    exact ⟨by rw [HF.out]; rfl, rfl⟩
theorem i_areLines_b (w : World) (v : Value) (L : List (List Int)) (W : Int) (b : Bool) (hx : ListsAt w v L) (hb : Hid (b = true ↔ LinesOk L W)) :
    Calls Try.prog 46 #[v, .int .i64 30, .int .i64 W] w fun e w' => e = .returned (.bool b) ∧ w = w' :=
  i_areLines_m w v L 30 W b hx (by omega) hb
set_option maxHeartbeats 2000000 in
theorem s_validLines_b (w : World) (v : Value) (L : List (List Int)) (W : Int) (b : Bool) (hx : ListsAt w v L) (hb : Hid (b = true ↔ LinesOk L W)) :
    Calls Try.prog 51 #[v, .int .i64 W] w fun e w' => e = .returned (.bool b) ∧ w = w' := by
  have HX := keptL hx
  obtain ⟨a, cp, rfl, x1, x2, _⟩ := hx
  obtain ⟨n, hn⟩ : ∃ n, L.length = n := ⟨_, rfl⟩
  rw [hn] at x1 HX ⊢
  have HN := Lib.hid hn
  clear hn
  go_enter Try.func51, Try.ntmps51
  go_wp2
  go_loop [5] (fun i => ∃ k : Nat, k ≤ n ∧ i = .int .i64 k ∧ UpL (LineW W) L k) (fun i => n - (intOf i).toNat)
  case atStart => exact ⟨0, Nat.zero_le _, rfl, UpL.zero _ _⟩
  case round =>
    obtain ⟨k, hk, rfl, hs⟩ := hrel
    by_cases hlt : k < n
    · obtain ⟨g, off, u, rfl, c1, hu⟩ := HX.out.someNth hlt
      obtain ⟨zs, hzs⟩ : ∃ zs, L.getD k [] = zs := ⟨_, rfl⟩
      rw [hzs] at hu
      have HZ := Lib.hid hzs
      have HU := keptL hu
      obtain ⟨a3, c3, rfl, y1, y2, _⟩ := hu
      obtain ⟨m, hm⟩ : ∃ m, zs.length = m := ⟨_, rfl⟩
      rw [hm] at y1 c1 HU
      have HM := Lib.hid hm
      have b1 : (0 : Int) ≤ (k : Int) := by omega
      have b2 : (k : Int) < (n : Int) := by omega
      clear hzs hm
      by_cases e : LineW W zs
      · have hs' := keptL (hs.succ (by rw [HZ.out]; exact e))
        have HE := keptL e
        clear e hs
        have H3 : Hid (decide (ValidL zs) = true) := decide_eq_true HE.out.2
        have d3 : decide (W < (m : Int)) = false := decide_eq_false (by have := HE.out.1; rw [HM.out] at this; omega)
        go_wp2_with (go_at_call 62; refine (s_validCells_b _ _ zs true HU.out H3).mono ?_; rintro e w2 ⟨rfl, rfl⟩)
        go_round
        case rel => exact ⟨k + 1, by omega, by go_num, hs'.out⟩
        case measure => simp [intOf]; omega
      · have HF : Hid (b = false) := inB hb.out fun h => e (by have := h.2.2 k (by rw [HN.out]; exact hlt); rw [HZ.out] at this; exact this)
        clear hs
        by_cases e1 : ValidL zs
        · have d3 : decide (W < (m : Int)) = true := decide_eq_true (by
            have : ¬ (m : Int) ≤ W := fun h => e ⟨by rw [HM.out]; exact h, e1⟩
            omega)
          have H3 : Hid (decide (ValidL zs) = true) := decide_eq_true e1
          clear e e1
          go_wp2_with (go_at_call 62; refine (s_validCells_b _ _ zs true HU.out H3).mono ?_; rintro e w2 ⟨rfl, rfl⟩)
          go_ret
          exact ⟨by rw [HF.out]; rfl, rfl⟩
        · have H3 : Hid (decide (ValidL zs) = false) := decide_eq_false e1
          clear e e1
          go_wp2_with (go_at_call 62; refine (s_validCells_b _ _ zs false HU.out H3).mono ?_; rintro e w2 ⟨rfl, rfl⟩)
          go_ret
          exact ⟨by rw [HF.out]; rfl, rfl⟩
    · obtain rfl : k = n := by omega
      obtain ⟨q, hq⟩ := boolOf (1 ≤ W ∧ W ≤ 40)
      have HQ := keptL hq
      by_cases hbig : k ≤ 30
      · have d1 : decide ((k : Int) ≤ 30) = true := decide_eq_true (by omega)
        have HF : Hid (b = q) := by
          show b = q
          cases q
          · exact inB hb.out fun h => by have := hq.2 h.2.1; simp at this
          · exact hb.out.2 ⟨by rw [HN.out]; exact hbig, hq.1 rfl, by rw [HN.out]; exact hs⟩
        clear hs hq
        cases q with
        | true =>
          go_wp2_with (go_at_call 63; refine (inRange_b _ W 1 40 true HQ).mono ?_; rintro e w2 ⟨rfl, rfl⟩)
          go_ret
          exact ⟨by rw [HF.out]; rfl, rfl⟩
        | false =>
          go_wp2_with (go_at_call 63; refine (inRange_b _ W 1 40 false HQ).mono ?_; rintro e w2 ⟨rfl, rfl⟩)
          go_ret
          exact ⟨by rw [HF.out]; rfl, rfl⟩
      · have d1 : decide ((k : Int) ≤ 30) = false := decide_eq_false (by omega)
        have HF : Hid (b = false) := inB hb.out fun h => hbig (by have := h.1; rw [HN.out] at this; exact this)
        clear hs hq
        cases q with
        | true =>
          go_wp2_with (go_at_call 63; refine (inRange_b _ W 1 40 true HQ).mono ?_; rintro e w2 ⟨rfl, rfl⟩)
          go_ret
          exact ⟨by rw [HF.out]; rfl, rfl⟩
        | false =>
          go_wp2_with (go_at_call 63; refine (inRange_b _ W 1 40 false HQ).mono ?_; rintro e w2 ⟨rfl, rfl⟩)
          go_ret
          exact ⟨by rw [HF.out]; rfl, rfl⟩
set_option maxHeartbeats 2000000 in
theorem s_validWords_b (w : World) (v : Value) (L : List (List Int)) (W : Int) (b : Bool) (hx : ListsAt w v L) (hb : Hid (b = true ↔ FillOk L W)) :
    Calls Try.prog 44 #[v, .int .i64 W] w fun e w' => e = .returned (.bool b) ∧ w = w' := by
  have HX := keptL hx
  obtain ⟨a, cp, rfl, x1, x2, _⟩ := hx
  obtain ⟨n, hn⟩ : ∃ n, L.length = n := ⟨_, rfl⟩
  rw [hn] at x1 HX ⊢
  have HN := Lib.hid hn
  clear hn
  go_enter Try.func44, Try.ntmps44
  go_wp2
  go_loop [5] (fun i => ∃ k : Nat, k ≤ n ∧ i = .int .i64 k ∧ UpL (ItemW W) L k) (fun i => n - (intOf i).toNat)
  case atStart => exact ⟨0, Nat.zero_le _, rfl, UpL.zero _ _⟩
  case round =>
    obtain ⟨k, hk, rfl, hs⟩ := hrel
    by_cases hlt : k < n
    · obtain ⟨g, off, u, rfl, c1, hu⟩ := HX.out.someNth hlt
      obtain ⟨zs, hzs⟩ : ∃ zs, L.getD k [] = zs := ⟨_, rfl⟩
      rw [hzs] at hu
      have HZ := Lib.hid hzs
      have HU := keptL hu
      obtain ⟨a3, c3, rfl, y1, y2, _⟩ := hu
      obtain ⟨m, hm⟩ : ∃ m, zs.length = m := ⟨_, rfl⟩
      rw [hm] at y1 c1 HU
      have HM := Lib.hid hm
      have b1 : (0 : Int) ≤ (k : Int) := by omega
      have b2 : (k : Int) < (n : Int) := by omega
      clear hzs hm
      by_cases e : ItemW W zs
      · have hs' := keptL (hs.succ (by rw [HZ.out]; exact e))
        have HE := keptL e
        clear e hs
        have H3 : Hid (decide (ValidL zs) = true) := decide_eq_true HE.out.2.2.1
        have HR : Hid (1 ≤ m ∧ (m : Int) ≤ W) := ⟨by have h1 := HE.out.1; rw [HM.out] at h1; exact h1, by have h2 := HE.out.2.1; rw [HM.out] at h2; exact h2⟩
        have HP : Hid ((0 : Int) ∉ zs) := HE.out.2.2.2
        go_wp2_with (first | (go_at_call 62; refine (s_validCells_b _ _ zs true HU.out H3).mono ?_; rintro e w2 ⟨rfl, rfl⟩) | (go_at_call 63; refine (inRange_yes (m : Int) 1 W _ (by have := HR.out.1; omega) HR.out.2).mono ?_; rintro e w2 ⟨rfl, rfl⟩) | (go_at_call 64; refine (s_placeIn_no _ _ zs 0 HU.out HP).mono ?_; rintro e w2 ⟨r, rfl, rfl, hr⟩; have d9 : decide (0 ≤ r) = false := decide_eq_false (by omega)))
        go_round
        case rel => exact ⟨k + 1, by omega, by go_num, hs'.out⟩
        case measure => simp [intOf]; omega
      · have HF : Hid (b = false) := inB hb.out fun h => e (by have := h.2.2 k (by rw [HN.out]; exact hlt); rw [HZ.out] at this; exact this)
        clear hs
        by_cases e1 : ValidL zs
        · have H3 : Hid (decide (ValidL zs) = true) := decide_eq_true e1
          by_cases e2 : 1 ≤ m ∧ (m : Int) ≤ W
          · have HR : Hid (1 ≤ m ∧ (m : Int) ≤ W) := e2
            have HP : Hid ((0 : Int) ∈ zs) := Classical.byContradiction fun h => e ⟨by rw [HM.out]; exact e2.1, by rw [HM.out]; exact e2.2, e1, h⟩
            clear e e1 e2
            go_wp2_with (first | (go_at_call 62; refine (s_validCells_b _ _ zs true HU.out H3).mono ?_; rintro e w2 ⟨rfl, rfl⟩) | (go_at_call 63; refine (inRange_yes (m : Int) 1 W _ (by have := HR.out.1; omega) HR.out.2).mono ?_; rintro e w2 ⟨rfl, rfl⟩) | (go_at_call 64; refine (s_placeIn_yes _ _ zs 0 HU.out HP).mono ?_; rintro e w2 ⟨r, rfl, rfl, hr⟩; have d9 : decide (0 ≤ r) = true := decide_eq_true hr))
            go_ret
            exact ⟨by rw [HF.out]; rfl, rfl⟩
          · have HR : Hid (¬ (1 ≤ m ∧ (m : Int) ≤ W)) := e2
            clear e e1 e2
            go_wp2_with (first | (go_at_call 62; refine (s_validCells_b _ _ zs true HU.out H3).mono ?_; rintro e w2 ⟨rfl, rfl⟩) | (go_at_call 63; refine (inRange_no (m : Int) 1 W _ (by have := HR.out; omega)).mono ?_; rintro e w2 ⟨rfl, rfl⟩))
            go_ret
            exact ⟨by rw [HF.out]; rfl, rfl⟩
        · have H3 : Hid (decide (ValidL zs) = false) := decide_eq_false e1
          clear e e1
          go_wp2_with (go_at_call 62; refine (s_validCells_b _ _ zs false HU.out H3).mono ?_; rintro e w2 ⟨rfl, rfl⟩)
          go_ret
          exact ⟨by rw [HF.out]; rfl, rfl⟩
    · obtain rfl : k = n := by omega
      obtain ⟨q, hq⟩ := boolOf (1 ≤ W ∧ W ≤ 40)
      have HQ := keptL hq
      by_cases hbig : k ≤ 30
      · have d1 : decide ((k : Int) ≤ 30) = true := decide_eq_true (by omega)
        have HF : Hid (b = q) := by
          show b = q
          cases q
          · exact inB hb.out fun h => by have := hq.2 h.2.1; simp at this
          · exact hb.out.2 ⟨by rw [HN.out]; exact hbig, hq.1 rfl, by rw [HN.out]; exact hs⟩
        clear hs hq
        cases q with
        | true =>
          go_wp2_with (go_at_call 63; refine (inRange_b _ W 1 40 true HQ).mono ?_; rintro e w2 ⟨rfl, rfl⟩)
          go_ret
          exact ⟨by rw [HF.out]; rfl, rfl⟩
        | false =>
          go_wp2_with (go_at_call 63; refine (inRange_b _ W 1 40 false HQ).mono ?_; rintro e w2 ⟨rfl, rfl⟩)
          go_ret
          exact ⟨by rw [HF.out]; rfl, rfl⟩
      · have d1 : decide ((k : Int) ≤ 30) = false := decide_eq_false (by omega)
        have HF : Hid (b = false) := inB hb.out fun h => hbig (by have := h.1; rw [HN.out] at this; exact this)
        clear hs hq
        cases q with
        | true =>
          go_wp2_with (go_at_call 63; refine (inRange_b _ W 1 40 true HQ).mono ?_; rintro e w2 ⟨rfl, rfl⟩)
          go_ret
          exact ⟨by rw [HF.out]; rfl, rfl⟩
        | false =>
          go_wp2_with (go_at_call 63; refine (inRange_b _ W 1 40 false HQ).mono ?_; rintro e w2 ⟨rfl, rfl⟩)
          go_ret
          exact ⟨by rw [HF.out]; rfl, rfl⟩
end Go.Proofs.Ytnbppackijjohaa
