
/- ValidGrid in the model. -/
import Derived.Test.YtidjnhlioebchaaZc
import Derived.Test.YtidjnhlioebchaaRange
import Derived.Deep.QuietTactic
import Derived.BigQuiet
namespace Go.Proofs.Ytidjnhlioebchaa
open Go.RowKit

theorem below_drewNZ {b : Nat} {w w' : World} (h : Below b w w') (n : Nat) : Below b w (w'.drewN n) :=
  ⟨h.os, h.tape, h.output, h.size, h.block⟩
/-- a function that writes nothing old answers whether P -/
def AsksB (P : Prop) (w : World) (e : Ending) (w' : World) : Prop := ∃ b : Bool, e = .returned (.bool b) ∧ Below w.heap.size w w' ∧ (b = true ↔ P)
theorem asksB_no {P : Prop} {w w' : World} (h : ¬ P) (hb : Below w.heap.size w w') : AsksB P w (.returned (.bool false)) w' := ⟨false, rfl, hb, fun e => by simp at e, fun k => absurd k h⟩
theorem asksB_yes {P : Prop} {w w' : World} (h : P) (hb : Below w.heap.size w w') : AsksB P w (.returned (.bool true)) w' := ⟨true, rfl, hb, fun _ => h, fun _ => rfl⟩
def EntUp (zs : List Int) (k : Nat) : Prop := ∀ i, i < k → (0 ≤ zs.getD i 0 ∧ zs.getD i 0 < 64) ∧ (zs.getD i 0 = 0 → i ≠ 0 ∧ i + 1 ≠ zs.length)
theorem EntUp.zero (zs : List Int) : EntUp zs 0 := fun i h => absurd h (by omega)
theorem EntUp.succ {zs : List Int} {k : Nat} (h : EntUp zs k) (e : 0 ≤ zs.getD k 0 ∧ zs.getD k 0 < 64) (e2 : zs.getD k 0 = 0 → k ≠ 0 ∧ k + 1 ≠ zs.length) : EntUp zs (k + 1) := fun i hi => by
  by_cases hik : i = k
  · subst hik; exact ⟨e, e2⟩
  · exact h i (by omega)
theorem EntOk.up {zs : List Int} (h : EntOk zs) : EntUp zs zs.length := fun i hi => by
  rcases h.2 with e | e
  · omega
  · refine ⟨?_, fun hz => ⟨fun h0 => ?_, fun h1 => ?_⟩⟩
    · have := e.2.2.1.2 (zs.getD i 0) (by rw [List.getD_eq_getElem?_getD, List.getElem?_eq_getElem hi, Option.getD_some]; exact List.getElem_mem hi)
      exact this
    · subst h0; exact e.2.2.2.1 hz
    · obtain rfl : i = zs.length - 1 := by omega
      exact e.2.2.2.2 hz
theorem EntUp.ok {zs : List Int} (h : EntUp zs zs.length) (hl : zs.length ≤ 12) : EntOk zs := by
  refine ⟨hl, ?_⟩
  by_cases h0 : zs.length = 0
  · exact .inl h0
  · refine .inr ⟨by omega, by omega, ⟨by omega, fun z hz => ?_⟩, fun e => ((h 0 (by omega)).2 e).1 rfl, fun e => ((h (zs.length - 1) (by omega)).2 e).2 (by omega)⟩
    obtain ⟨i, hi, rfl⟩ := List.getElem_of_mem hz
    have := (h i hi).1
    rw [List.getD_eq_getElem?_getD, List.getElem?_eq_getElem hi, Option.getD_some] at this
    exact this
set_option maxHeartbeats 1000000 in
theorem s_validEntry_z (w : World) (u : Value) (zs : List Int) (hx : IntsAt w u zs) :
    Calls Try.prog 66 #[u] w fun e w' => Asks (EntOk zs) w e w' := by
  obtain ⟨a, n, cp, rfl, hn, x1, x2, x3⟩ := hx.partsZ
  clear hx
  have HN := Lib.hid hn
  clear hn
  go_enter Try.func66, Try.ntmps66
  go_wp2
  go_loopw [3] (fun i wr => ∃ k : Nat, k ≤ n ∧ i = .int .i64 k ∧ EntUp zs k ∧ w = wr) (fun i _ => n - (intOf i).toNat)
  case atStart => exact ⟨0, Nat.zero_le _, rfl, EntUp.zero _, rfl⟩
  case round =>
    obtain ⟨k, hk, rfl, hok, rfl⟩ := hrel
    have HOK := keptZ hok
    clear hok
    by_cases hlt : k < n
    · rcases x3 with rfl | ⟨g, off, rfl, x3⟩
      · omega
      have c1 := x3 k hlt
      obtain ⟨z, hz⟩ : ∃ z, zs.getD k 0 = z := ⟨_, rfl⟩
      rw [hz] at c1
      have HZ := Lib.hid hz
      clear hz x3
      have u1 : IntKind.i64.wrap ((n : Int) - 1) = (n : Int) - 1 := IntWalk.i64_in _ (by omega)
      by_cases hc : 0 ≤ z ∧ z < 64
      · by_cases h0 : z = 0
        · subst h0
          by_cases k0 : k = 0
          · have HT : Hid (¬ EntOk zs) := fun h => ((h.up k (by rw [HN.out]; exact hlt)).2 HZ.out).1 k0
            subst k0
            rw [Nat.add_zero] at c1
            go_wp2_with fail
            refine (s_isCell_yes 0 w (by omega) (by omega)).mono ?_
            rintro e w' ⟨rfl, rfl⟩
            go_wp2
            go_ret
            exact asks_no HT.out
          · have d0 : ((k : Int) == 0) = false := by simp; omega
            by_cases k1 : k + 1 = n
            · have HT : Hid (¬ EntOk zs) := fun h => ((h.up k (by rw [HN.out]; exact hlt)).2 HZ.out).2 (by rw [HN.out]; exact k1)
              subst k1
              have e1 : ((k + 1 : Nat) : Int) - 1 = (k : Int) := by omega
              rw [e1] at u1
              go_wp2_with fail
              refine (s_isCell_yes 0 w (by omega) (by omega)).mono ?_
              rintro e w' ⟨rfl, rfl⟩
              go_wp2
              go_ret
              exact asks_no HT.out
            · have d1 : ((k : Int) == (n : Int) - 1) = false := by simp; omega
              have HE : Hid (EntUp zs (k + 1)) := HOK.out.succ (by rw [HZ.out]; omega) (fun _ => ⟨k0, by rw [HN.out]; exact k1⟩)
              go_wp2_with fail
              refine (s_isCell_yes 0 w (by omega) (by omega)).mono ?_
              rintro e w' ⟨rfl, rfl⟩
              go_wp2
              go_roundw
              case rel => exact ⟨k + 1, by omega, by go_num, HE.out, by trivial⟩
              case measure => simp [intOf]; omega
        · have d0 : (z == 0) = false := by simpa using h0
          have HE : Hid (EntUp zs (k + 1)) := HOK.out.succ (by rw [HZ.out]; exact hc) (fun e => absurd (HZ.out.symm.trans e) h0)
          go_wp2_with fail
          refine (s_isCell_yes z w hc.1 hc.2).mono ?_
          rintro e w' ⟨rfl, rfl⟩
          go_wp2
          go_roundw
          case rel => exact ⟨k + 1, by omega, by go_num, HE.out, by trivial⟩
          case measure => simp [intOf]; omega
      · have HT : Hid (¬ EntOk zs) := fun h => hc (by have := (h.up k (by rw [HN.out]; exact hlt)).1; rw [HZ.out] at this; exact this)
        go_wp2_with fail
        refine (s_isCell_no z w (by omega)).mono ?_
        rintro e w' ⟨rfl, rfl⟩
        go_wp2
        go_ret
        exact asks_no HT.out
    · obtain rfl : k = n := by omega
      by_cases h12 : k ≤ 12
      · have d1 : decide ((k : Int) ≤ 12) = true := decide_eq_true (by omega)
        have HT : Hid (EntOk zs) := EntUp.ok (by rw [HN.out]; exact HOK.out) (by rw [HN.out]; exact h12)
        clear x3
        go_wp2
        go_ret
        exact asks_yes HT.out
      · have d1 : decide ((k : Int) ≤ 12) = false := decide_eq_false (by omega)
        have HT : Hid (¬ EntOk zs) := fun h => h12 (by have := h.1; rw [HN.out] at this; exact this)
        clear x3
        go_wp2
        go_ret
        exact asks_no HT.out
def RowsIn (G : List (List (List Int))) (k : Nat) : Prop := (∀ i, i < k → 1 ≤ (G.getD i []).length ∧ (G.getD i []).length ≤ 5) ∧ RowsTo (G.getD 0 []).length G k
theorem RowsIn.zero (G : List (List (List Int))) : RowsIn G 0 := ⟨fun i h => absurd h (by omega), RowsTo.zero _ _⟩
theorem RowsIn.succ {G : List (List (List Int))} {k : Nat} (h : RowsIn G k) (e0 : 1 ≤ (G.getD k []).length ∧ (G.getD k []).length ≤ 5) (e : (G.getD k []).length = (G.getD 0 []).length) (e2 : EntsTo (G.getD k []) (G.getD k []).length) : RowsIn G (k + 1) :=
  ⟨fun i hi => by
    by_cases hik : i = k
    · subst hik; exact e0
    · exact h.1 i (by omega), h.2.succ e e2⟩
set_option maxHeartbeats 4000000 in
theorem s_validGrid_z (w : World) (v : Value) (G : List (List (List Int))) (hx : GridAt w v G) :
    Calls Try.prog 47 #[v] w fun e w' => AsksB (GridOk G) w e w' := by
  obtain ⟨a, n, cp, rfl, hn, x1, x2, x3⟩ := hx.partsZ
  clear hx
  have HN := Lib.hid hn
  clear hn
  have HX3 := keptZ x3
  clear x3
  go_enter Try.func47, Try.ntmps47
  go_wp2
  go_loopw [3, 4] (fun i _ wr => ∃ k : Nat, k ≤ n ∧ i = .int .i64 k ∧ RowsIn G k ∧ Below w.heap.size w wr) (fun i _ _ => n - (intOf i).toNat)
  case atStart => exact ⟨0, Nat.zero_le _, rfl, RowsIn.zero _, Below.refl _ _⟩
  case round =>
    obtain ⟨k, hk, rfl, hok, hb1⟩ := hrel
    have HOK := keptZ hok
    have HB1 := keptZ hb1
    clear hok
    by_cases hlt : k < n
    · rcases HX3.out with rfl | ⟨g, off, rfl, x3⟩
      · omega
      obtain ⟨u, c1, hu⟩ := x3 k hlt
      obtain ⟨u0, c0, hu0⟩ := x3 0 (by omega)
      rw [Nat.add_zero] at c0
      obtain ⟨L, hr⟩ : ∃ L, G.getD k [] = L := ⟨_, rfl⟩
      obtain ⟨L0, hr0⟩ : ∃ L, G.getD 0 [] = L := ⟨_, rfl⟩
      rw [hr] at hu
      rw [hr0] at hu0
      have HR := Lib.hid hr
      have HR0 := Lib.hid hr0
      clear hr hr0 x3
      obtain ⟨a2, m, cp2, rfl, hm, _, y2, y3⟩ := hu.partsZ
      obtain ⟨a0, m0, cp0, rfl, hm0, _, z2, _⟩ := hu0.partsZ
      have HM := Lib.hid hm
      have HM0 := Lib.hid hm0
      have HY := keptZ y3
      clear hm hm0 hu hu0 y3
      have HC1 := keptZ c1
      have c1 := (hb1.cell (World.block_lt_of_cell? w _ c1)).trans c1
      have c0 := (hb1.cell (World.block_lt_of_cell? w _ c0)).trans c0
      have b3 : (0 : Int) < (n : Int) := by omega
      clear hb1
      by_cases h1 : 1 ≤ m ∧ m ≤ 5
      · have HL1 : Hid (∀ q, Calls Try.prog 60 #[.int .i64 (m : Int), .int .i64 1, .int .i64 5] (wr.drewN q) fun e w' => e = .returned (.bool true) ∧ w' = wr.drewN q) := fun q => (inRange_yes (m : Int) 1 5 (wr.drewN q) (by omega) (by omega)).mono fun _ _ ⟨h, k⟩ => ⟨h, k.symm⟩
        by_cases h2 : m = m0
        · subst h2
          go_wp2_with fail
          go_quiet (first | (go_at_call 60; with_reducible exact Calls.quiet_of_same (HL1.out _)))
          go_wp2
          clear c0 c1
          go_loopw [4] (fun j wx => ∃ q : Nat, q ≤ m ∧ j = .int .i64 q ∧ EntsTo L q ∧ Below w.heap.size w wx) (fun j _ => m - (intOf j).toNat)
          case atStart => exact ⟨0, Nat.zero_le _, rfl, EntsTo.zero _, below_drewNZ HB1.out _⟩
          case round =>
            obtain ⟨q, hq, rfl, hents, hb⟩ := hrel
            have HEN := keptZ hents
            have HB := keptZ hb
            clear hents
            by_cases hqm : q < m
            · rcases HY.out with rfl | ⟨g2, off2, rfl, y⟩
              · omega
              obtain ⟨u, e1, hu⟩ := y q hqm
              obtain ⟨zs, hz⟩ : ∃ zs, L.getD q [] = zs := ⟨_, rfl⟩
              rw [hz] at hu
              have HZ := Lib.hid hz
              have HU := keptZ (hu.below hb)
              obtain ⟨a5, l5, cp5, rfl, hl5, _, _, _⟩ := hu.partsZ
              have c1 := (hb.cell (World.block_lt_of_cell? w _ HC1.out)).trans HC1.out
              have e1 := (hb.cell (World.block_lt_of_cell? w _ e1)).trans e1
              clear hz hu y hl5 hb
              go_wp2_with fail
              refine (s_validEntry_z _ _ zs HU.out).mono ?_
              rintro e w' ⟨b, rfl, rfl, hbb⟩
              cases b with
              | false =>
                have HT : Hid (¬ GridOk G) := fun h => by
                  have e1 := (h.2.2.2.2 k (by rw [HN.out]; exact hlt)).2
                  rw [HR.out, HM.out] at e1
                  have := e1 q hqm
                  rw [HZ.out] at this
                  simpa using hbb.2 this
                clear hbb
                go_wp2
                go_ret
                exact asksB_no HT.out HB.out
              | true =>
                have HE : Hid (EntsTo L (q + 1)) := HEN.out.succ (by rw [HZ.out]; exact hbb.1 rfl)
                clear hbb
                go_wp2
                go_roundw
                case rel => exact ⟨q + 1, by omega, by go_num, HE.out, HB.out⟩
                case measure => simp [intOf]; omega
            · obtain rfl : q = m := by omega
              have HE : Hid (RowsIn G (k + 1)) := HOK.out.succ (by rw [HR.out, HM.out]; exact h1) (by rw [HR.out, HM.out, HR0.out, HM0.out]) (by rw [HR.out, HM.out]; exact HEN.out)
              have c1 := (hb.cell (World.block_lt_of_cell? w _ HC1.out)).trans HC1.out
              clear hb
              go_wp2
              go_roundw
              case rel => exact ⟨k + 1, by omega, by go_num, HE.out, HB.out⟩
              case measure => simp [intOf]; omega
        · have d2 : ((m : Int) == (m0 : Int)) = false := by simp; omega
          have d3 : ((m : Int) != (m0 : Int)) = true := by simp; omega
          have HT : Hid (¬ GridOk G) := fun h => by
            have := (h.2.2.2.2 k (by rw [HN.out]; exact hlt)).1
            rw [HR.out, HR0.out, HM.out, HM0.out] at this
            exact h2 this
          go_wp2_with fail
          go_quiet (first | (go_at_call 60; with_reducible exact Calls.quiet_of_same (HL1.out _)))
          go_wp2
          go_ret
          exact asksB_no HT.out (below_drewNZ HB1.out _)
      · have HL1 : Hid (∀ q, Calls Try.prog 60 #[.int .i64 (m : Int), .int .i64 1, .int .i64 5] (wr.drewN q) fun e w' => e = .returned (.bool false) ∧ w' = wr.drewN q) := fun q => (inRange_no (m : Int) 1 5 (wr.drewN q) (by omega)).mono fun _ _ ⟨h, k⟩ => ⟨h, k.symm⟩
        have HT : Hid (¬ GridOk G) := fun h => by
          have e1 := (h.2.2.2.2 k (by rw [HN.out]; exact hlt)).1
          have e2 := h.2.2.1
          have e3 := h.2.2.2.1
          rw [HR.out, HR0.out, HM.out, HM0.out] at e1
          rw [HR0.out, HM0.out] at e2 e3
          omega
        go_wp2_with fail
        go_quiet (first | (go_at_call 60; with_reducible exact Calls.quiet_of_same (HL1.out _)))
        go_wp2
        go_ret
        exact asksB_no HT.out (below_drewNZ HB1.out _)
    · obtain rfl : k = n := by omega
      have HB := keptZ hb1
      clear hb1
      by_cases h8 : 1 ≤ k ∧ k ≤ 8
      · have HT : Hid (GridOk G) := ⟨by rw [HN.out]; omega, by rw [HN.out]; omega, (HOK.out.1 0 (by omega)).1, (HOK.out.1 0 (by omega)).2, by rw [HN.out]; exact HOK.out.2⟩
        go_wp2_with fail
        refine (inRange_yes (k : Int) 1 8 _ (by omega) (by omega)).mono ?_
        rintro e w' ⟨rfl, rfl⟩
        go_wp2
        go_ret
        exact asksB_yes HT.out HB.out
      · have HT : Hid (¬ GridOk G) := fun h => by have e1 := h.1; have e2 := h.2.1; rw [HN.out] at e1 e2; omega
        go_wp2_with fail
        refine (inRange_no (k : Int) 1 8 _ (by omega)).mono ?_
        rintro e w' ⟨rfl, rfl⟩
        go_wp2
        go_ret
        exact asksB_no HT.out HB.out
end Go.Proofs.Ytidjnhlioebchaa
