
/- IsPrefixFree, in the program and in its model, and its exact law. -/
import Derived.Test.YtdjgodemeaneeaaCl
namespace Go.Proofs.Ytdjgodemeaneeaa
open Go.RowKit

theorem putL_nil {R : List (List Int)} {xs ys : List Int} : putL R xs ys = [] ↔ R = [] ∧ ¬ Pre xs ys := by
  unfold putL
  split
  · rename_i h
    simp [h.1]
  · rename_i h
    constructor
    · rintro rfl
      exact ⟨rfl, fun hp => h ⟨hp, by simp⟩⟩
    · exact fun h => h.1
theorem putRow_nil {L : List (List Int)} {xs : List Int} {R : List (List Int)} : ∀ k, putRow L xs R k = [] ↔ R = [] ∧ ∀ j, j < k → ¬ Pre xs (L.getD j []) := by
  intro k
  induction k with
  | zero => simp [putRow]
  | succ k ih =>
    show putL (putRow L xs R k) xs (L.getD k []) = [] ↔ _
    rw [putL_nil, ih]
    constructor
    · rintro ⟨⟨h1, h2⟩, h3⟩
      refine ⟨h1, fun j hj => ?_⟩
      by_cases e : j = k
      · subst e; exact h3
      · exact h2 j (by omega)
    · rintro ⟨h1, h2⟩
      exact ⟨⟨h1, fun j hj => h2 j (by omega)⟩, h2 k (by omega)⟩
theorem putAll_nil {L : List (List Int)} : ∀ n, putAll L n = [] ↔ ∀ i, i < n → ∀ j, j < L.length → ¬ Pre (L.getD i []) (L.getD j []) := by
  intro n
  induction n with
  | zero => simp [putAll]
  | succ n ih =>
    show putRow L (L.getD n []) (putAll L n) L.length = [] ↔ _
    rw [putRow_nil, ih]
    constructor
    · rintro ⟨h1, h2⟩ i hi
      by_cases e : i = n
      · subst e; exact h2
      · exact h1 i (by omega)
    · exact fun h => ⟨fun i hi => h i (by omega), h n (by omega)⟩
/-- no list begins with another one -/
def PFree (L : List (List Int)) : Prop := ∀ i, i < L.length → ∀ j, j < L.length → ¬ Pre (L.getD i []) (L.getD j [])
instance (L : List (List Int)) : Decidable (PFree L) := decidable_of_iff (putAll L L.length = []) (putAll_nil L.length)
/-- the first k lists begin with no other one -/
def PfTo (L : List (List Int)) (k : Nat) : Prop := ∀ i, i < k → ∀ j, j < L.length → ¬ Pre (L.getD i []) (L.getD j [])
/-- xs begins with none of the first k lists -/
def PfRow (L : List (List Int)) (xs : List Int) (k : Nat) : Prop := ∀ j, j < k → ¬ Pre xs (L.getD j [])
theorem PfRow.zero (L : List (List Int)) (xs : List Int) : PfRow L xs 0 := fun j h => absurd h (by omega)
theorem PfRow.succ {L : List (List Int)} {xs : List Int} {k : Nat} (h : PfRow L xs k) (e : ¬ Pre xs (L.getD k [])) : PfRow L xs (k + 1) := fun i hi => by
  by_cases hik : i = k
  · subst hik; exact e
  · exact h i (by omega)
theorem PfTo.zero (L : List (List Int)) : PfTo L 0 := fun j h => absurd h (by omega)
theorem PfTo.succ {L : List (List Int)} {k : Nat} (h : PfTo L k) (e : PfRow L (L.getD k []) L.length) : PfTo L (k + 1) := fun i hi => by
  by_cases hik : i = k
  · subst hik; exact e
  · exact h i (by omega)
/-- in a valid code a list that begins with another one is longer -/
theorem pre_of_begins {L : List (List Int)} (hv : ValidCd L) {i j : Nat} (hi : i < L.length) (hj : j < L.length) (hij : i ≠ j) (h : (L.getD i []).take (L.getD j []).length = L.getD j []) : Pre (L.getD i []) (L.getD j []) := by
  refine ⟨?_, h⟩
  have h1 := begins_len h
  rcases Nat.lt_or_eq_of_le h1 with h2 | h2
  · exact h2
  · exfalso
    rw [h2, List.take_length] at h
    rcases Nat.lt_or_gt_of_ne hij with h3 | h3
    · exact hv.2.2 j i hj h3 h
    · exact hv.2.2 i j hi h3 h.symm

set_option maxHeartbeats 4000000 in
theorem i_IsPrefixFree (w : World) (v : Value) (L : List (List Int)) (b : Bool) (hx : ListsAt w v L) (hv : Hid (ValidCd L)) (hb : Hid (decide (PFree L) = b)) :
    Calls Try.prog 35 #[v] w fun e w' => e = .returned (.bool b) ∧ Below w.heap.size w w' := by
  have HX := Lib.hid hx
  obtain ⟨a, c, rfl, x1, x2, _⟩ := hx
  obtain ⟨n, hn⟩ : ∃ n, L.length = n := ⟨_, rfl⟩
  rw [hn] at x1 HX ⊢
  have HN := Lib.hid hn
  have hn8 : n ≤ 8 := by have := hv.out.1; omega
  clear hn
  go_enter Try.func35, Try.ntmps35
  go_wp2_with fail
  refine (i_ValidCode w _ L true HX.out (show _ ↔ _ from ⟨fun _ => hv.out, fun _ => rfl⟩)).mono ?_
  rintro e w1 ⟨rfl, hb1⟩
  go_wp2_with fail
  go_loopw [12] (fun x wr => ∃ i : Nat, i ≤ n ∧ x = .int .i64 i ∧ PfTo L i ∧ Below w.heap.size w wr) (fun x _ => n - (intOf x).toNat)
  case atStart => exact ⟨0, Nat.zero_le _, rfl, PfTo.zero _, hb1⟩
  case round =>
    clear hb1
    obtain ⟨i, hi, rfl, hP, hB⟩ := hrel
    by_cases hlt : i < n
    · obtain ⟨xs, hxs⟩ : ∃ xs, L.getD i [] = xs := ⟨_, rfl⟩
      have HXS := Lib.hid hxs
      obtain ⟨g, off, u, rfl, c1, hu⟩ := HX.out.someNth hlt
      rw [hxs] at hu
      have HU := Lib.hid hu
      obtain ⟨a3, c3, rfl, _, _, _⟩ := hu
      obtain ⟨lx, hlx⟩ : ∃ l, xs.length = l := ⟨_, rfl⟩
      rw [hlx] at c1 HU
      clear hlx hxs
      have C1 := Lib.hid c1
      have c1 := (hB.cell (World.block_lt_of_cell? w _ c1)).trans c1
      have HP := keptC hP
      have HB := keptC hB
      clear hP hB
      go_wp2_with fail
      clear c1
      go_loopw [19] (fun x wx => ∃ k : Nat, k ≤ n ∧ x = .int .i64 k ∧ PfRow L xs k ∧ Below w.heap.size w wx) (fun x _ => n - (intOf x).toNat)
      case atStart => exact ⟨0, Nat.zero_le _, rfl, PfRow.zero _ _, HB.out⟩
      case round =>
        clear HB
        obtain ⟨k, hk, rfl, hR, hB⟩ := hrel
        have HR := keptC hR
        have HB := keptC hB
        clear hR
        by_cases hlt2 : k < n
        · obtain ⟨g2, off2, u2, e2, c2, hu2⟩ := HX.out.someNth hlt2
          injection e2 with e2
          injection e2 with e3 e4 _
          subst e3 e4
          obtain ⟨ys, hys⟩ : ∃ ys, L.getD k [] = ys := ⟨_, rfl⟩
          rw [hys] at hu2
          have HYS := Lib.hid hys
          have HU2 := Lib.hid hu2
          obtain ⟨a4, c4, rfl, _, _, _⟩ := hu2
          obtain ⟨ly, hly⟩ : ∃ l, ys.length = l := ⟨_, rfl⟩
          rw [hly] at c2 HU2
          clear hly hys
          have c2 := (hB.cell (World.block_lt_of_cell? w _ c2)).trans c2
          have HUr := keptC (HU.out.below hB)
          have HU2r := keptC (HU2.out.below hB)
          clear hB
          by_cases hik : i = k
          · subst hik
            have q1 : ((i : Int) != (i : Int)) = false := by simp
            have hR' := keptC (HR.out.succ (by rw [HXS.out]; exact fun h => by have := h.1; omega))
            go_wp2
            go_roundw
            case rel => exact ⟨i + 1, by omega, by go_num, hR'.out, HB.out⟩
            case measure => simp [intOf]; omega
          · have q1 : ((i : Int) != (k : Int)) = true := by simp; omega
            by_cases hbg : xs.take ys.length = ys
            · have HG : Hid (decide (xs.take ys.length = ys) = true) := decide_eq_true hbg
              have HF : Hid (b = false) := by
                show b = false
                rw [← hb.out]
                refine decide_eq_false fun h => h i (by rw [HN.out]; exact hlt) k (by rw [HN.out]; exact hlt2) ?_
                exact pre_of_begins hv.out (by rw [HN.out]; exact hlt) (by rw [HN.out]; exact hlt2) hik (by rw [HXS.out, HYS.out]; exact hbg)
              clear hbg
              go_wp2_with fail
              refine (i_beginsWith_b _ _ _ xs ys true HUr.out HU2r.out HG).mono ?_
              rintro e w5 ⟨rfl, hb5⟩
              have FIN := keptC (below_next HB.out hb5)
              clear hb5
              go_wp2
              go_ret
              exact ⟨by rw [HF.out]; rfl, FIN.out⟩
            · have HG : Hid (decide (xs.take ys.length = ys) = false) := decide_eq_false hbg
              have hR' := keptC (HR.out.succ (by rw [HYS.out]; exact fun h => hbg h.2))
              clear hbg
              go_wp2_with fail
              refine (i_beginsWith_b _ _ _ xs ys false HUr.out HU2r.out HG).mono ?_
              rintro e w5 ⟨rfl, hb5⟩
              have FIN := keptC (below_next HB.out hb5)
              clear hb5
              go_wp2
              go_roundw
              case rel => exact ⟨k + 1, by omega, by go_num, hR'.out, FIN.out⟩
              case measure => simp [intOf]; omega
        · obtain rfl : k = n := by omega
          have hP' := keptC (HP.out.succ (by rw [HXS.out, HN.out]; exact HR.out))
          clear hB
          go_wp2
          go_roundw
          case rel => exact ⟨i + 1, by omega, by go_num, hP'.out, HB.out⟩
          case measure => simp [intOf]; omega
    · obtain rfl : i = n := by omega
      have HF : Hid (b = true) := by
        show b = true
        rw [← hb.out]
        exact decide_eq_true fun i hi => hP i (by rw [← HN.out]; exact hi)
      have HB := keptC hB
      clear hP hB
      go_wp2
      go_ret
      exact ⟨by rw [HF.out]; rfl, HB.out⟩
def pfOf (L : List (List Int)) (b : Bool) : Bool := b && decide (PFree L)
theorem i_IsPrefixFree_any (w : World) (v : Value) (L : List (List Int)) (b : Bool) (hx : ListsAt w v L) (hb : Hid (b = true ↔ ValidCd L)) :
    Calls Try.prog 35 #[v] w fun e w' => e = .returned (.bool (pfOf L b)) ∧ Below w.heap.size w w' := by
  cases b with
  | true =>
    have := i_IsPrefixFree w v L (decide (PFree L)) hx (show ValidCd L from hb.out.1 rfl) (show _ from rfl)
    exact this
  | false =>
    have HX := Lib.hid hx
    obtain ⟨a, c, rfl, x1, x2, _⟩ := hx
    have HR : Hid (pfOf L false = false) := (show pfOf L false = false from rfl)
    rw [HR.out]
    go_enter Try.func35, Try.ntmps35
    go_wp2_with fail
    refine (i_ValidCode w _ L false HX.out hb).mono ?_
    rintro e w1 ⟨rfl, hb1⟩
    go_wp2
    go_ret
    exact ⟨rfl, hb1⟩
end Go.Proofs.Ytdjgodemeaneeaa
