
/- ValidGrid in the program. -/
import Derived.Test.YtidjnhlioebchaaZb
import Derived.Test.YtidjnhlioebchaaVal
namespace Go.Proofs.Ytidjnhlioebchaa
open Go.RowKit

theorem keptZ {p : Prop} (h : p) : Hid p := h
theorem IntsAt.partsZ {w : World} {v : Value} {zs : List Int} (h : IntsAt w v zs) : ∃ a n cp, v = .slice a n cp ∧ zs.length = n ∧ n ≤ cp ∧ cp ≤ 9223372036854775807 ∧ (n = 0 ∨ ∃ g off, a = some ⟨g, off, none⟩ ∧ ∀ i, i < n → w.cell? ⟨g, off + i, none⟩ = some (.int .i64 (zs.getD i 0))) := by
  obtain ⟨a, cp, rfl, h1, h2, h3⟩ := h
  exact ⟨a, zs.length, cp, rfl, rfl, h1, h2, h3.imp (fun e => by rw [e]; rfl) id⟩
theorem ListsAt.partsZ {w : World} {v : Value} {L : List (List Int)} (h : ListsAt w v L) : ∃ a n cp, v = .slice a n cp ∧ L.length = n ∧ n ≤ cp ∧ cp ≤ 9223372036854775807 ∧ (n = 0 ∨ ∃ g off, a = some ⟨g, off, none⟩ ∧ ∀ i, i < n → ∃ u, w.cell? ⟨g, off + i, none⟩ = some u ∧ IntsAt w u (L.getD i [])) := by
  obtain ⟨a, cp, rfl, h1, h2, h3⟩ := h
  exact ⟨a, L.length, cp, rfl, rfl, h1, h2, h3.imp (fun e => by rw [e]; rfl) id⟩
theorem GridAt.partsZ {w : World} {v : Value} {G : List (List (List Int))} (h : GridAt w v G) : ∃ a n cp, v = .slice a n cp ∧ G.length = n ∧ n ≤ cp ∧ cp ≤ 9223372036854775807 ∧ (n = 0 ∨ ∃ g off, a = some ⟨g, off, none⟩ ∧ ∀ i, i < n → ∃ u, w.cell? ⟨g, off + i, none⟩ = some u ∧ ListsAt w u (G.getD i [])) := by
  obtain ⟨a, cp, rfl, h1, h2, h3⟩ := h
  exact ⟨a, G.length, cp, rfl, rfl, h1, h2, h3.imp (fun e => by rw [e]; rfl) id⟩
/-- a function that writes nothing answers whether P -/
def Asks (P : Prop) (w : World) (e : Ending) (w' : World) : Prop := ∃ b : Bool, e = .returned (.bool b) ∧ w = w' ∧ (b = true ↔ P)
theorem asks_no {P : Prop} {w : World} (h : ¬ P) : Asks P w (.returned (.bool false)) w := ⟨false, rfl, rfl, fun e => by simp at e, fun k => absurd k h⟩
theorem asks_yes {P : Prop} {w : World} (h : P) : Asks P w (.returned (.bool true)) w := ⟨true, rfl, rfl, fun _ => h, fun _ => rfl⟩
def Tight (zs : List Int) : Prop := 1 ≤ zs.length ∧ zs.length ≤ 40 ∧ ValidL zs ∧ zs.getD 0 0 ≠ 0 ∧ zs.getD (zs.length - 1) 0 ≠ 0
set_option maxHeartbeats 1000000 in
theorem i_isTightLine_z (w : World) (u : Value) (zs : List Int) (hx : IntsAt w u zs) :
    Calls Try.prog 65 #[u] w fun e w' => Asks (Tight zs) w e w' := by
  have HX := keptZ hx
  obtain ⟨a, n, cp, rfl, hn, x1, x2, x3⟩ := hx.partsZ
  clear hx
  have HN := Lib.hid hn
  clear hn
  by_cases h1 : n < 1
  · have HT : Hid (¬ Tight zs) := fun h => by have := h.1; have := HN.out; omega
    obtain rfl : n = 0 := by omega
    clear x3
    go_enter Try.func65, Try.ntmps65
    go_wp2
    go_ret
    exact asks_no HT.out
  have d1 : decide ((n : Int) < 1) = false := decide_eq_false (by omega)
  by_cases h2 : 40 < n
  · have HT : Hid (¬ Tight zs) := fun h => by have := h.2.1; have := HN.out; omega
    have d2 : decide (40 < (n : Int)) = true := decide_eq_true (by omega)
    clear x3
    go_enter Try.func65, Try.ntmps65
    go_wp2
    go_ret
    exact asks_no HT.out
  have d2 : decide (40 < (n : Int)) = false := decide_eq_false (by omega)
  obtain ⟨b, hb⟩ : ∃ b, decide (ValidL zs) = b := ⟨_, rfl⟩
  have hc : Calls Try.prog 70 #[.slice a n cp] w fun e w' => e = .returned (.bool b) ∧ w = w' := by
    have := i_ValidCells w _ zs HX.out
    rw [hb] at this
    exact this
  have HC := keptZ hc
  clear hc
  cases b with
  | false =>
    have HT : Hid (¬ Tight zs) := fun h => of_decide_eq_false hb h.2.2.1
    clear x3 hb
    go_enter Try.func65, Try.ntmps65
    go_wp2_with fail
    refine HC.out.mono ?_
    rintro e w' ⟨rfl, rfl⟩
    go_wp2
    go_ret
    exact asks_no HT.out
  | true =>
    have HV : Hid (ValidL zs) := keptZ (of_decide_eq_true hb)
    clear hb
    rcases x3 with rfl | ⟨g, off, rfl, x3⟩
    · omega
    have c0 := x3 0 (by omega)
    have c1 := x3 (n - 1) (by omega)
    rw [Nat.add_zero] at c0
    have u1 : IntKind.i64.wrap ((n : Int) - 1) = (n : Int) - 1 := IntWalk.i64_in _ (by omega)
    have u2 : ((n : Int) - 1).toNat = n - 1 := by omega
    have b1 : (0 : Int) ≤ (n : Int) - 1 := by omega
    have b2 : (n : Int) - 1 < (n : Int) := by omega
    have b3 : (0 : Int) < (n : Int) := by omega
    obtain ⟨z0, hz0⟩ : ∃ z, zs.getD 0 0 = z := ⟨_, rfl⟩
    obtain ⟨z1, hz1⟩ : ∃ z, zs.getD (n - 1) 0 = z := ⟨_, rfl⟩
    rw [hz0] at c0
    rw [hz1] at c1
    have HZ := keptZ (And.intro hz0 hz1)
    clear x3 hz0 hz1
    by_cases e0 : z0 = 0
    · have HT : Hid (¬ Tight zs) := fun h => h.2.2.2.1 (HZ.out.1.trans e0)
      subst e0
      go_enter Try.func65, Try.ntmps65
      go_wp2_with fail
      refine HC.out.mono ?_
      rintro e w' ⟨rfl, rfl⟩
      go_wp2
      go_ret
      exact asks_no HT.out
    · have d3 : (z0 == 0) = false := by simpa using e0
      have d4 : (z0 != 0) = true := by simpa using e0
      by_cases e1 : z1 = 0
      · have HT : Hid (¬ Tight zs) := fun h => h.2.2.2.2 (by rw [HN.out]; exact HZ.out.2.trans e1)
        subst e1
        go_enter Try.func65, Try.ntmps65
        go_wp2_with fail
        refine HC.out.mono ?_
        rintro e w' ⟨rfl, rfl⟩
        go_wp2
        go_ret
        exact asks_no HT.out
      · have d5 : (z1 == 0) = false := by simpa using e1
        have d6 : (z1 != 0) = true := by simpa using e1
        have HT : Hid (Tight zs) := ⟨by rw [HN.out]; omega, by rw [HN.out]; omega, HV.out, by rw [HZ.out.1]; exact e0, by rw [HN.out, HZ.out.2]; exact e1⟩
        go_enter Try.func65, Try.ntmps65
        go_wp2_with fail
        refine HC.out.mono ?_
        rintro e w' ⟨rfl, rfl⟩
        go_wp2
        go_ret
        exact asks_yes HT.out
/-- an entry of a grid -/
def EntOk (zs : List Int) : Prop := zs.length ≤ 12 ∧ (zs.length = 0 ∨ Tight zs)
def EntsTo (L : List (List Int)) (k : Nat) : Prop := ∀ i, i < k → EntOk (L.getD i [])
theorem EntsTo.zero (L : List (List Int)) : EntsTo L 0 := fun i h => absurd h (by omega)
theorem EntsTo.succ {L : List (List Int)} {k : Nat} (h : EntsTo L k) (e : EntOk (L.getD k [])) : EntsTo L (k + 1) := fun i hi => by
  by_cases hik : i = k
  · subst hik; exact e
  · exact h i (by omega)
set_option maxHeartbeats 1000000 in
theorem i_areEntries_z (w : World) (v : Value) (L : List (List Int)) (hx : ListsAt w v L) :
    Calls Try.prog 46 #[v] w fun e w' => Asks (EntsTo L L.length) w e w' := by
  obtain ⟨a, n, cp, rfl, hn, x1, x2, x3⟩ := hx.partsZ
  clear hx
  rw [hn]
  clear hn
  go_enter Try.func46, Try.ntmps46
  go_wp2
  go_loopw [7] (fun i wr => ∃ k : Nat, k ≤ n ∧ i = .int .i64 k ∧ EntsTo L k ∧ w = wr) (fun i _ => n - (intOf i).toNat)
  case atStart => exact ⟨0, Nat.zero_le _, rfl, EntsTo.zero _, rfl⟩
  case round =>
    obtain ⟨k, hk, rfl, hok, rfl⟩ := hrel
    by_cases hlt : k < n
    · rcases x3 with rfl | ⟨g, off, rfl, x3⟩
      · omega
      obtain ⟨u, c1, hu⟩ := x3 k hlt
      obtain ⟨zs, hr⟩ : ∃ zs, L.getD k [] = zs := ⟨_, rfl⟩
      rw [hr] at hu
      have HR := Lib.hid hr
      have HU := keptZ hu
      clear hr x3
      obtain ⟨a2, m, cp2, rfl, hm, y1, y2, _⟩ := hu.partsZ
      have HM := Lib.hid hm
      clear hm hu
      have HOK := keptZ hok
      clear hok
      by_cases h1 : 12 < m
      · have HT : Hid (¬ EntsTo L n) := fun h => by have := (h k hlt).1; rw [HR.out, HM.out] at this; omega
        have d1 : decide (12 < (m : Int)) = true := decide_eq_true (by omega)
        go_wp2
        go_ret
        exact asks_no HT.out
      · have d1 : decide (12 < (m : Int)) = false := decide_eq_false (by omega)
        by_cases h2 : m = 0
        · have HE : Hid (EntOk (L.getD k [])) := ⟨by rw [HR.out, HM.out]; omega, .inl (by rw [HR.out, HM.out]; exact h2)⟩
          subst h2
          go_wp2
          go_roundw
          case rel => exact ⟨k + 1, by omega, by go_num, HOK.out.succ HE.out, by trivial⟩
          case measure => simp [intOf]; omega
        · have d2 : decide (0 < (m : Int)) = true := decide_eq_true (by omega)
          go_wp2_with fail
          refine (i_isTightLine_z w _ zs HU.out).mono ?_
          rintro e w' ⟨b, rfl, rfl, hb⟩
          cases b with
          | false =>
            have HT : Hid (¬ EntsTo L n) := fun h => by
              rcases (h k hlt).2 with e | e
              · rw [HR.out, HM.out] at e; omega
              · rw [HR.out] at e; simpa using hb.2 e
            clear hb
            go_wp2
            go_ret
            exact asks_no HT.out
          | true =>
            have HE : Hid (EntOk (L.getD k [])) := ⟨by rw [HR.out, HM.out]; omega, .inr (by rw [HR.out]; exact hb.1 rfl)⟩
            clear hb
            go_wp2
            go_roundw
            case rel => exact ⟨k + 1, by omega, by go_num, HOK.out.succ HE.out, by trivial⟩
            case measure => simp [intOf]; omega
    · obtain rfl : k = n := by omega
      go_wp2
      go_ret
      exact asks_yes hok
/-- the first rows of a grid have as many entries, which are valid -/
def RowsTo (m : Nat) (G : List (List (List Int))) (k : Nat) : Prop := ∀ i, i < k → (G.getD i []).length = m ∧ EntsTo (G.getD i []) (G.getD i []).length
theorem RowsTo.zero (m : Nat) (G : List (List (List Int))) : RowsTo m G 0 := fun i h => absurd h (by omega)
theorem RowsTo.succ {m : Nat} {G : List (List (List Int))} {k : Nat} (h : RowsTo m G k) (e : (G.getD k []).length = m) (e2 : EntsTo (G.getD k []) (G.getD k []).length) : RowsTo m G (k + 1) := fun i hi => by
  by_cases hik : i = k
  · subst hik; exact ⟨e, e2⟩
  · exact h i (by omega)
def GridOk (G : List (List (List Int))) : Prop := 1 ≤ G.length ∧ G.length ≤ 8 ∧ 1 ≤ (G.getD 0 []).length ∧ (G.getD 0 []).length ≤ 5 ∧ RowsTo (G.getD 0 []).length G G.length
set_option maxHeartbeats 1000000 in
theorem i_ValidGrid_z (w : World) (v : Value) (G : List (List (List Int))) (hx : GridAt w v G) :
    Calls Try.prog 15 #[v] w fun e w' => Asks (GridOk G) w e w' := by
  obtain ⟨a, n, cp, rfl, hn, x1, x2, x3⟩ := hx.partsZ
  clear hx
  have HN := Lib.hid hn
  clear hn
  by_cases h1 : n < 1
  · have HT : Hid (¬ GridOk G) := fun h => by have := h.1; have := HN.out; omega
    obtain rfl : n = 0 := by omega
    clear x3
    go_enter Try.func15, Try.ntmps15
    go_wp2
    go_ret
    exact asks_no HT.out
  have d1 : decide ((n : Int) < 1) = false := decide_eq_false (by omega)
  by_cases h2 : 8 < n
  · have HT : Hid (¬ GridOk G) := fun h => by have := h.2.1; have := HN.out; omega
    have d2 : decide (8 < (n : Int)) = true := decide_eq_true (by omega)
    clear x3
    go_enter Try.func15, Try.ntmps15
    go_wp2
    go_ret
    exact asks_no HT.out
  have d2 : decide (8 < (n : Int)) = false := decide_eq_false (by omega)
  rcases x3 with rfl | ⟨g, off, rfl, x3⟩
  · omega
  obtain ⟨u0, c0, hu0⟩ := x3 0 (by omega)
  rw [Nat.add_zero] at c0
  obtain ⟨a0, m, cp0, rfl, hm, _, y2, _⟩ := hu0.partsZ
  have HM := Lib.hid hm
  clear hm hu0
  have b3 : (0 : Int) < (n : Int) := by omega
  by_cases h3 : m < 1
  · have HT : Hid (¬ GridOk G) := fun h => by have := h.2.2.1; have := HM.out; omega
    obtain rfl : m = 0 := by omega
    clear x3
    go_enter Try.func15, Try.ntmps15
    go_wp2
    go_ret
    exact asks_no HT.out
  have d3 : decide ((m : Int) < 1) = false := decide_eq_false (by omega)
  by_cases h4 : 5 < m
  · have HT : Hid (¬ GridOk G) := fun h => by have := h.2.2.2.1; have := HM.out; omega
    have d4 : decide (5 < (m : Int)) = true := decide_eq_true (by omega)
    clear x3
    go_enter Try.func15, Try.ntmps15
    go_wp2
    go_ret
    exact asks_no HT.out
  have d4 : decide (5 < (m : Int)) = false := decide_eq_false (by omega)
  have HX3 := keptZ x3
  clear x3
  go_enter Try.func15, Try.ntmps15
  go_wp2
  go_loopw [26] (fun i wr => ∃ k : Nat, k ≤ n ∧ i = .int .i64 k ∧ RowsTo m G k ∧ w = wr) (fun i _ => n - (intOf i).toNat)
  case atStart => exact ⟨0, Nat.zero_le _, rfl, RowsTo.zero _ _, rfl⟩
  case round =>
    clear d1 d2 d3 d4 c0
    obtain ⟨k, hk, rfl, hok, rfl⟩ := hrel
    have HOK := keptZ hok
    clear hok
    by_cases hlt : k < n
    · obtain ⟨u, c1, hu⟩ := HX3.out k hlt
      obtain ⟨L, hr⟩ : ∃ L, G.getD k [] = L := ⟨_, rfl⟩
      rw [hr] at hu
      have HR := Lib.hid hr
      have HU := keptZ hu
      clear hr
      obtain ⟨a2, q, cp2, rfl, hq, _, y3, _⟩ := hu.partsZ
      have HQ := Lib.hid hq
      clear hq hu
      by_cases h5 : q = m
      · subst h5
        go_wp2_with fail
        refine (i_areEntries_z w _ L HU.out).mono ?_
        rintro e w' ⟨b, rfl, rfl, hb⟩
        cases b with
        | false =>
          have HT : Hid (¬ GridOk G) := fun h => by
            have := (h.2.2.2.2 k (by rw [HN.out]; exact hlt)).2
            rw [HR.out] at this
            simpa using hb.2 this
          clear hb
          go_wp2
          go_ret
          exact asks_no HT.out
        | true =>
          have HE : Hid (EntsTo (G.getD k []) (G.getD k []).length) := by rw [HR.out]; exact hb.1 rfl
          have HE1 : Hid ((G.getD k []).length = q) := (by rw [HR.out, HQ.out] : (G.getD k []).length = q)
          clear hb
          go_wp2
          go_roundw
          case rel => exact ⟨k + 1, by omega, by go_num, HOK.out.succ HE1.out HE.out, by trivial⟩
          case measure => simp [intOf]; omega
      · have d5 : ((q : Int) == (m : Int)) = false := by simp; omega
        have d6 : ((q : Int) != (m : Int)) = true := by simp; omega
        have HT : Hid (¬ GridOk G) := fun h => by
          have := (h.2.2.2.2 k (by rw [HN.out]; exact hlt)).1
          rw [HR.out, HQ.out, HM.out] at this
          exact h5 this
        go_wp2
        go_ret
        exact asks_no HT.out
    · obtain rfl : k = n := by omega
      have HT : Hid (GridOk G) := ⟨by rw [HN.out]; omega, by rw [HN.out]; omega, by rw [HM.out]; omega, by rw [HM.out]; omega, by rw [HM.out, HN.out]; exact HOK.out⟩
      go_wp2
      go_ret
      exact asks_yes HT.out
end Go.Proofs.Ytidjnhlioebchaa
