
/- ValidPicture of both sides. -/
import Derived.Test.YthpbpdnlnmldeaaIa
import Derived.Test.YthpbpdnlnmldeaaRange
import Derived.Deep.QuietTactic
import Derived.BigQuiet
namespace Go.Proofs.Ythpbpdnlnmldeaa
open Go.RowKit

theorem below_drewNI {b : Nat} {w w' : World} (h : Below b w w') (n : Nat) : Below b w (w'.drewN n) := ⟨h.os, h.tape, h.output, h.size, h.block⟩
/-- a function that only reads answers whether P -/
def AskI (P : Prop) (w : World) (e : Ending) (w' : World) : Prop := ∃ b : Bool, e = .returned (.bool b) ∧ w = w' ∧ (b = true ↔ P)
theorem askI_no {P : Prop} {w : World} (h : ¬ P) : AskI P w (.returned (.bool false)) w := ⟨false, rfl, rfl, fun e => by simp at e, fun k => absurd k h⟩
theorem askI_yes {P : Prop} {w : World} (h : P) : AskI P w (.returned (.bool true)) w := ⟨true, rfl, rfl, fun _ => h, fun _ => rfl⟩
/-- a function that writes nothing old answers whether P -/
def AskB (P : Prop) (w : World) (e : Ending) (w' : World) : Prop := ∃ b : Bool, e = .returned (.bool b) ∧ Below w.heap.size w w' ∧ (b = true ↔ P)
theorem askB_no {P : Prop} {w w' : World} (h : ¬ P) (hb : Below w.heap.size w w') : AskB P w (.returned (.bool false)) w' := ⟨false, rfl, hb, fun e => by simp at e, fun k => absurd k h⟩
theorem askB_yes {P : Prop} {w w' : World} (h : P) (hb : Below w.heap.size w w') : AskB P w (.returned (.bool true)) w' := ⟨true, rfl, hb, fun _ => h, fun _ => rfl⟩
theorem ListsAt.partsI {w : World} {v : Value} {L : List (List Int)} (h : ListsAt w v L) : ∃ a n cp, v = .slice a n cp ∧ L.length = n ∧ n ≤ cp ∧ cp ≤ 9223372036854775807 ∧ (n = 0 ∨ ∃ g off, a = some ⟨g, off, none⟩ ∧ ∀ i, i < n → ∃ u, w.cell? ⟨g, off + i, none⟩ = some u ∧ IntsAt w u (L.getD i [])) := by
  obtain ⟨a, cp, h1, h2, h3, h4⟩ := h
  exact ⟨a, _, cp, h1, rfl, h2, h3, h4.imp (fun e => by rw [e]; rfl) id⟩
theorem IntsAt.partsI {w : World} {v : Value} {zs : List Int} (h : IntsAt w v zs) : ∃ a n cp, v = .slice a n cp ∧ zs.length = n ∧ n ≤ cp ∧ cp ≤ 9223372036854775807 ∧ (n = 0 ∨ ∃ g off, a = some ⟨g, off, none⟩ ∧ ∀ i, i < n → w.cell? ⟨g, off + i, none⟩ = some (.int .i64 (zs.getD i 0))) := by
  obtain ⟨a, cp, h1, h2, h3, h4⟩ := h
  exact ⟨a, _, cp, h1, rfl, h2, h3, h4.imp (fun e => by rw [e]; rfl) id⟩

theorem i_within_yes (n lo hi : Int) (w : World) (h0 : lo ≤ n) (h1 : n ≤ hi) :
    Calls Try.prog 59 #[.int .i64 n, .int .i64 lo, .int .i64 hi] w fun e w' => e = .returned (.bool true) ∧ w = w' := by
  have d1 : decide (lo ≤ n) = true := decide_eq_true h0
  have d2 : decide (n ≤ hi) = true := decide_eq_true h1
  go_enter Try.func59, Try.ntmps59
  go_wp2
  go_ret
  exact ⟨rfl, rfl⟩
theorem i_within_no (n lo hi : Int) (w : World) (h : n < lo ∨ hi < n) :
    Calls Try.prog 59 #[.int .i64 n, .int .i64 lo, .int .i64 hi] w fun e w' => e = .returned (.bool false) ∧ w = w' := by
  by_cases h0 : lo ≤ n
  · have d1 : decide (lo ≤ n) = true := decide_eq_true h0
    have d2 : decide (n ≤ hi) = false := decide_eq_false (by omega)
    go_enter Try.func59, Try.ntmps59
    go_wp2
    go_ret
    exact ⟨rfl, rfl⟩
  · have d1 : decide (lo ≤ n) = false := decide_eq_false h0
    clear h
    go_enter Try.func59, Try.ntmps59
    go_wp2
    go_ret
    exact ⟨rfl, rfl⟩
set_option maxHeartbeats 1000000 in
theorem i_areWithin (w : World) (v : Value) (zs : List Int) (M : Int) (hx : IntsAt w v zs) :
    Calls Try.prog 67 #[v, .int .i64 M] w fun e w' => AskI (InTo zs M zs.length) w e w' := by
  obtain ⟨a, n, cp, rfl, hn, x1, x2, x3⟩ := hx.partsI
  have HN := Lib.hid hn
  have HX3 := keptI x3
  clear hx hn x3
  go_enter Try.func67, Try.ntmps67
  go_wp2
  go_loop [9] (fun i => ∃ k : Nat, k ≤ n ∧ i = .int .i64 k ∧ InTo zs M k) (fun i => n - (intOf i).toNat)
  case atStart => exact ⟨0, Nat.zero_le _, rfl, InTo.zero _ _⟩
  case round =>
    obtain ⟨k, hk, rfl, hok⟩ := hrel
    have HOK := keptI hok
    clear hok
    by_cases hlt : k < n
    · rcases HX3.out with rfl | ⟨g, off, rfl, x3⟩
      · omega
      have c1 := x3 k hlt
      obtain ⟨z, hz⟩ : ∃ z, zs.getD k 0 = z := ⟨_, rfl⟩
      rw [hz] at c1
      have HZ := Lib.hid hz
      clear hz x3
      by_cases hc : 0 ≤ z ∧ z ≤ M
      · have HE : Hid (InTo zs M (k + 1)) := HOK.out.succ (by rw [HZ.out]; exact hc)
        obtain ⟨hc1, hc2⟩ := hc
        go_wp2_with fail
        refine (i_within_yes z 0 M w hc1 hc2).mono ?_
        rintro e w' ⟨rfl, rfl⟩
        go_wp2
        go_round
        case rel => exact ⟨k + 1, by omega, by go_num, HE.out⟩
        case measure => simp [intOf]; omega
      · have HT : Hid (¬ InTo zs M zs.length) := fun h => hc (by have := h k (by rw [HN.out]; exact hlt); rw [HZ.out] at this; exact this)
        have hc' : z < 0 ∨ M < z := by omega
        clear hc
        go_wp2_with fail
        refine (i_within_no z 0 M w hc').mono ?_
        rintro e w' ⟨rfl, rfl⟩
        go_wp2
        go_ret
        exact askI_no HT.out
    · obtain rfl : k = n := by omega
      have HT : Hid (InTo zs M zs.length) := by rw [HN.out]; exact HOK.out
      go_wp2
      go_ret
      exact askI_yes HT.out
set_option maxHeartbeats 2000000 in
theorem i_isBlock (w : World) (v : Value) (L : List (List Int)) (H W : Nat) (M : Int) (hx : ListsAt w v L) :
    Calls Try.prog 62 #[v, .int .i64 H, .int .i64 W, .int .i64 M] w fun e w' => AskI (BlockOk L H W M) w e w' := by
  obtain ⟨a, n, cp, rfl, hn, x1, x2, x3⟩ := hx.partsI
  have HN := Lib.hid hn
  have HX3 := keptI x3
  clear hx hn x3
  by_cases hb : 1 ≤ n ∧ n ≤ H
  · obtain ⟨hb1, hb2⟩ := hb
    rcases HX3.out with rfl | ⟨g, off, rfl, x3⟩
    · omega
    obtain ⟨u0, c0, hu0⟩ := x3 0 (by omega)
    rw [Nat.add_zero] at c0
    obtain ⟨L0, hr0⟩ : ∃ L0, L.getD 0 [] = L0 := ⟨_, rfl⟩
    rw [hr0] at hu0
    have HR0 := Lib.hid hr0
    obtain ⟨a0, m, cp0, rfl, hm, z1, z2, _⟩ := hu0.partsI
    have HM := Lib.hid hm
    have HY := keptI x3
    clear hm hu0 hr0 x3
    have b3 : (0 : Int) < (n : Int) := by omega
    by_cases hw : 1 ≤ m ∧ m ≤ W
    · obtain ⟨hw1, hw2⟩ := hw
      go_enter Try.func62, Try.ntmps62
      go_wp2_with fail
      refine (i_within_yes (n : Int) 1 (H : Int) w (by omega) (by omega)).mono ?_
      rintro e w' ⟨rfl, rfl⟩
      go_wp2_with fail
      refine (i_within_yes (m : Int) 1 (W : Int) w (by omega) (by omega)).mono ?_
      rintro e w' ⟨rfl, rfl⟩
      go_wp2_with fail
      go_loop [27] (fun i => ∃ k : Nat, k ≤ n ∧ i = .int .i64 k ∧ RowsTo L m M k) (fun i => n - (intOf i).toNat)
      case atStart => exact ⟨0, Nat.zero_le _, rfl, RowsTo.zero _ _ _⟩
      case round =>
        obtain ⟨k, hk, rfl, hok⟩ := hrel
        have HOK := keptI hok
        clear hok
        by_cases hlt : k < n
        · obtain ⟨u, c1, hu⟩ := HY.out k hlt
          obtain ⟨zs, hz⟩ : ∃ zs, L.getD k [] = zs := ⟨_, rfl⟩
          rw [hz] at hu
          have HZ := Lib.hid hz
          have HU := keptI hu
          obtain ⟨a2, l, cp2, rfl, hl, _, _, _⟩ := hu.partsI
          have HL := Lib.hid hl
          clear hz hu hl
          by_cases e : l = m
          · subst e
            have d1 : ((l : Int) != (l : Int)) = false := by simp
            go_wp2_with fail
            refine (i_areWithin w _ zs M HU.out).mono ?_
            rintro e w' ⟨b, rfl, rfl, hbb⟩
            cases b with
            | true =>
              have HE : Hid (RowsTo L l M (k + 1)) := HOK.out.succ (by rw [HZ.out]; have := hbb.1 rfl; rw [HL.out] at this; exact ⟨HL.out, this⟩)
              clear hbb
              go_wp2
              go_round
              case rel => exact ⟨k + 1, by omega, by go_num, HE.out⟩
              case measure => simp [intOf]; omega
            | false =>
              have HT : Hid (¬ BlockOk L H W M) := fun h => by
                have := h.2.2 k (by rw [HN.out]; exact hlt)
                rw [HR0.out, HM.out] at this
                have h9 : InTo zs M zs.length := by
                  rw [HL.out]; intro j hj
                  have := this.2 j hj
                  unfold px at this; rw [HZ.out] at this; exact this
                simpa using hbb.2 h9
              clear hbb
              go_wp2
              go_ret
              exact askI_no HT.out
          · have d2 : ((l : Int) == (m : Int)) = false := by simp; omega
            have d3 : ((l : Int) != (m : Int)) = true := by simp; omega
            have HT : Hid (¬ BlockOk L H W M) := fun h => by
              have := (h.2.2 k (by rw [HN.out]; exact hlt)).1
              rw [HR0.out, HM.out, HZ.out, HL.out] at this
              exact e this
            go_wp2
            go_ret
            exact askI_no HT.out
        · obtain rfl : k = n := by omega
          have HT : Hid (BlockOk L H W M) := ⟨by rw [HN.out]; exact ⟨hb1, hb2⟩, by rw [HR0.out, HM.out]; exact ⟨hw1, hw2⟩, by rw [HR0.out, HM.out, HN.out]; exact HOK.out⟩
          go_wp2
          go_ret
          exact askI_yes HT.out
    · have HT : Hid (¬ BlockOk L H W M) := fun h => by have := h.2.1; rw [HR0.out, HM.out] at this; exact hw this
      have hw' : (m : Int) < 1 ∨ (W : Int) < m := by omega
      clear hw
      go_enter Try.func62, Try.ntmps62
      go_wp2_with fail
      refine (i_within_yes (n : Int) 1 (H : Int) w (by omega) (by omega)).mono ?_
      rintro e w' ⟨rfl, rfl⟩
      go_wp2_with fail
      refine (i_within_no (m : Int) 1 (W : Int) w hw').mono ?_
      rintro e w' ⟨rfl, rfl⟩
      go_wp2
      go_ret
      exact askI_no HT.out
  · have HT : Hid (¬ BlockOk L H W M) := fun h => by have := h.1; rw [HN.out] at this; exact hb this
    have hb' : (n : Int) < 1 ∨ (H : Int) < n := by omega
    clear hb
    go_enter Try.func62, Try.ntmps62
    go_wp2_with fail
    refine (i_within_no (n : Int) 1 (H : Int) w hb').mono ?_
    rintro e w' ⟨rfl, rfl⟩
    go_wp2
    go_ret
    exact askI_no HT.out
theorem i_ValidPicture (w : World) (v : Value) (L : List (List Int)) (hx : ListsAt w v L) :
    Calls Try.prog 47 #[v] w fun e w' => AskI (BlockOk L 24 24 1) w e w' := by
  have HX := keptI hx
  obtain ⟨a, n, cp, rfl, _⟩ := hx.partsI
  clear hx
  go_enter Try.func47, Try.ntmps47
  go_wp2_with fail
  refine (i_isBlock w _ L 24 24 1 HX.out).mono ?_
  rintro e w' ⟨b, rfl, rfl, hbb⟩
  have HB : Hid (AskI (BlockOk L 24 24 1) w (.returned (.bool b)) w) := ⟨b, rfl, rfl, hbb⟩
  clear hbb
  go_wp2
  go_ret
  exact HB.out
set_option maxHeartbeats 4000000 in
theorem s_validPicture (w : World) (v : Value) (L : List (List Int)) (hx : ListsAt w v L) :
    Calls Try.prog 39 #[v] w fun e w' => AskB (BlockOk L 24 24 1) w e w' := by
  obtain ⟨a, n, cp, rfl, hn, x1, x2, x3⟩ := hx.partsI
  clear hx
  have HN := Lib.hid hn
  clear hn
  have HX3 := keptI x3
  clear x3
  go_enter Try.func39, Try.ntmps39
  go_wp2
  go_loopw [3, 4] (fun i _ wr => ∃ k : Nat, k ≤ n ∧ i = .int .i64 k ∧ (RowsTo L (L.getD 0 []).length 1 k ∧ (0 < k → 1 ≤ (L.getD 0 []).length ∧ (L.getD 0 []).length ≤ 24)) ∧ Below w.heap.size w wr) (fun i _ _ => n - (intOf i).toNat)
  case atStart => exact ⟨0, Nat.zero_le _, rfl, ⟨RowsTo.zero _ _ _, fun h => absurd h (by omega)⟩, Below.refl _ _⟩
  case round =>
    obtain ⟨k, hk, rfl, hok, hb1⟩ := hrel
    have HOK := keptI hok
    have HB1 := keptI hb1
    clear hok
    by_cases hlt : k < n
    · rcases HX3.out with rfl | ⟨g, off, rfl, x3⟩
      · omega
      obtain ⟨u, c1, hu⟩ := x3 k hlt
      obtain ⟨u0, c0, hu0⟩ := x3 0 (by omega)
      rw [Nat.add_zero] at c0
      obtain ⟨L1, hr⟩ : ∃ L1, L.getD k [] = L1 := ⟨_, rfl⟩
      obtain ⟨L0, hr0⟩ : ∃ L0, L.getD 0 [] = L0 := ⟨_, rfl⟩
      rw [hr] at hu
      rw [hr0] at hu0
      have HR := Lib.hid hr
      have HR0 := Lib.hid hr0
      clear hr hr0 x3
      obtain ⟨a2, m, cp2, rfl, hm, _, y2, y3⟩ := hu.partsI
      obtain ⟨a0, m0, cp0, rfl, hm0, _, z2, _⟩ := hu0.partsI
      have HM := Lib.hid hm
      have HM0 := Lib.hid hm0
      have HY := keptI y3
      clear hm hm0 hu hu0 y3
      have HC1 := keptI c1
      have c1 := (hb1.cell (World.block_lt_of_cell? w _ c1)).trans c1
      have c0 := (hb1.cell (World.block_lt_of_cell? w _ c0)).trans c0
      have b3 : (0 : Int) < (n : Int) := by omega
      clear hb1
      by_cases h1 : 1 ≤ m ∧ m ≤ 24
      · have HL1 : Hid (∀ q, Calls Try.prog 41 #[.int .i64 (m : Int), .int .i64 1, .int .i64 24] (wr.drewN q) fun e w' => e = .returned (.bool true) ∧ w' = wr.drewN q) := fun q => (inRange_yes (m : Int) 1 24 (wr.drewN q) (by omega) (by omega)).mono fun _ _ ⟨h, k⟩ => ⟨h, k.symm⟩
        by_cases h2 : m = m0
        · subst h2
          go_wp2_with fail
          go_quiet (first | (go_at_call 41; with_reducible exact Calls.quiet_of_same (HL1.out _)))
          go_wp2
          clear c0 c1
          go_loopw [4] (fun j wx => ∃ q : Nat, q ≤ m ∧ j = .int .i64 q ∧ InTo L1 1 q ∧ Below w.heap.size w wx) (fun j _ => m - (intOf j).toNat)
          case atStart => exact ⟨0, Nat.zero_le _, rfl, InTo.zero _ _, below_drewNI HB1.out _⟩
          case round =>
            obtain ⟨q, hq, rfl, hents, hb⟩ := hrel
            have HEN := keptI hents
            have HB := keptI hb
            clear hents
            by_cases hqm : q < m
            · rcases HY.out with rfl | ⟨g2, off2, rfl, y⟩
              · omega
              have e1 := y q hqm
              obtain ⟨z, hz⟩ : ∃ z, L1.getD q 0 = z := ⟨_, rfl⟩
              rw [hz] at e1
              have HZ := Lib.hid hz
              have c1 := (hb.cell (World.block_lt_of_cell? w _ HC1.out)).trans HC1.out
              have e1 := (hb.cell (World.block_lt_of_cell? w _ e1)).trans e1
              clear hz y hb
              by_cases hc : 0 ≤ z ∧ z ≤ 1
              · have HE : Hid (InTo L1 1 (q + 1)) := HEN.out.succ (by rw [HZ.out]; exact hc)
                obtain ⟨hc1, hc2⟩ := hc
                go_wp2_with fail
                refine (inRange_yes z 0 1 _ hc1 hc2).mono ?_
                rintro e w' ⟨rfl, rfl⟩
                go_wp2
                go_roundw
                case rel => exact ⟨q + 1, by omega, by go_num, HE.out, HB.out⟩
                case measure => simp [intOf]; omega
              · have HT : Hid (¬ BlockOk L 24 24 1) := fun h => by
                  have e1 := (h.2.2 k (by rw [HN.out]; exact hlt)).2 q (by rw [← (h.2.2 k (by rw [HN.out]; exact hlt)).1, HR.out, HM.out]; exact hqm)
                  unfold px at e1
                  rw [HR.out, HZ.out] at e1
                  exact hc e1
                have hc' : z < 0 ∨ 1 < z := by omega
                clear hc
                go_wp2_with fail
                refine (inRange_no z 0 1 _ hc').mono ?_
                rintro e w' ⟨rfl, rfl⟩
                go_wp2
                go_ret
                exact askB_no HT.out HB.out
            · obtain rfl : q = m := by omega
              have hm00 : (L.getD 0 []).length = q := by rw [HR0.out, HM0.out]
              have HE : Hid (RowsTo L (L.getD 0 []).length 1 (k + 1) ∧ (0 < k + 1 → 1 ≤ (L.getD 0 []).length ∧ (L.getD 0 []).length ≤ 24)) := ⟨HOK.out.1.succ (by rw [HR.out, hm00]; exact ⟨HM.out, HEN.out⟩), fun _ => by rw [hm00]; exact h1⟩
              have c1 := (hb.cell (World.block_lt_of_cell? w _ HC1.out)).trans HC1.out
              clear hb hm00
              go_wp2
              go_roundw
              case rel => exact ⟨k + 1, by omega, by go_num, HE.out, HB.out⟩
              case measure => simp [intOf]; omega
        · have d2 : ((m : Int) == (m0 : Int)) = false := by simp; omega
          have d3 : ((m : Int) != (m0 : Int)) = true := by simp; omega
          have HT : Hid (¬ BlockOk L 24 24 1) := fun h => by
            have := (h.2.2 k (by rw [HN.out]; exact hlt)).1
            rw [HR.out, HR0.out, HM.out, HM0.out] at this
            exact h2 this
          go_wp2_with fail
          go_quiet (first | (go_at_call 41; with_reducible exact Calls.quiet_of_same (HL1.out _)))
          go_wp2
          go_ret
          exact askB_no HT.out (below_drewNI HB1.out _)
      · have HL1 : Hid (∀ q, Calls Try.prog 41 #[.int .i64 (m : Int), .int .i64 1, .int .i64 24] (wr.drewN q) fun e w' => e = .returned (.bool false) ∧ w' = wr.drewN q) := fun q => (inRange_no (m : Int) 1 24 (wr.drewN q) (by omega)).mono fun _ _ ⟨h, k⟩ => ⟨h, k.symm⟩
        have HT : Hid (¬ BlockOk L 24 24 1) := fun h => by
          have e1 := (h.2.2 k (by rw [HN.out]; exact hlt)).1
          have e2 := h.2.1
          rw [HR.out, HR0.out, HM.out, HM0.out] at e1
          rw [HR0.out, HM0.out] at e2
          omega
        go_wp2_with fail
        go_quiet (first | (go_at_call 41; with_reducible exact Calls.quiet_of_same (HL1.out _)))
        go_wp2
        go_ret
        exact askB_no HT.out (below_drewNI HB1.out _)
    · obtain rfl : k = n := by omega
      have HB := keptI hb1
      clear hb1
      by_cases h8 : 1 ≤ k ∧ k ≤ 24
      · have HT : Hid (BlockOk L 24 24 1) := ⟨by rw [HN.out]; exact h8, HOK.out.2 (by omega), by rw [HN.out]; exact HOK.out.1⟩
        go_wp2_with fail
        refine (inRange_yes (k : Int) 1 24 _ (by omega) (by omega)).mono ?_
        rintro e w' ⟨rfl, rfl⟩
        go_wp2
        go_ret
        exact askB_yes HT.out HB.out
      · have HT : Hid (¬ BlockOk L 24 24 1) := fun h => by have e1 := h.1; rw [HN.out] at e1; omega
        go_wp2_with fail
        refine (inRange_no (k : Int) 1 24 _ (by omega)).mono ?_
        rintro e w' ⟨rfl, rfl⟩
        go_wp2
        go_ret
        exact askB_no HT.out HB.out
end Go.Proofs.Ythpbpdnlnmldeaa
