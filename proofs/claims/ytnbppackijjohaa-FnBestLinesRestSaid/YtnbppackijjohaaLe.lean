
/- LineCost: both sides. -/
import Derived.Test.YtnbppackijjohaaLc
namespace Go.Proofs.Ytnbppackijjohaa
open Go.RowKit

theorem sq_nat {W s : Int} {n : Nat} (hs : Hid ((W - n) * (W - n) = s)) (h0 : (n : Int) ≤ W) (h1 : W ≤ 40) : ∃ d : Nat, W - n = d ∧ d ≤ 40 ∧ (d : Int) * d = s ∧ 0 ≤ s ∧ s ≤ 1600 := by
  obtain ⟨d, hd⟩ : ∃ d : Nat, W - n = d := ⟨(W - n).toNat, by omega⟩
  have hd40 : d ≤ 40 := by omega
  have h2 : d * d ≤ 40 * 40 := Nat.mul_le_mul hd40 hd40
  have h3 : (d : Int) * d = ((d * d : Nat) : Int) := by simp
  have hs := hs.out
  rw [hd] at hs
  exact ⟨d, hd, hd40, hs, by omega, by omega⟩
theorem i_freeCost (w : World) (n : Nat) (W s : Int) (hs : Hid ((W - n) * (W - n) = s)) (h0 : (n : Int) ≤ W) (h1 : W ≤ 40) :
    Calls Try.prog 50 #[.int .i64 n, .int .i64 W] w fun e w' => e = .returned (.int .i64 s) ∧ w = w' := by
  obtain ⟨d, hd, hd40, hm, hs0, hs1⟩ := sq_nat hs h0 h1
  have u1 : IntKind.i64.wrap (W - (n : Int)) = (d : Int) := by rw [hd]; exact IntWalk.i64_in _ (by omega)
  have u2 : IntKind.i64.wrap ((d : Int) * (d : Int)) = s := by rw [hm]; exact IntWalk.i64_in _ (by omega)
  clear hd hm
  go_enter Try.func50, Try.ntmps50
  go_wp2
  go_ret
  exact ⟨by first | rfl | simp only [u1, u2], rfl⟩
theorem s_spare (w : World) (a : Option Addr) (n cp : Nat) (W s : Int) (hs : Hid ((W - n) * (W - n) = s)) (h0 : (n : Int) ≤ W) (h1 : W ≤ 40) :
    Calls Try.prog 52 #[.slice a n cp, .int .i64 W] w fun e w' => e = .returned (.int .i64 s) ∧ w = w' := by
  obtain ⟨d, hd, hd40, hm, hs0, hs1⟩ := sq_nat hs h0 h1
  have u1 : IntKind.i64.wrap (W - (n : Int)) = (d : Int) := by rw [hd]; exact IntWalk.i64_in _ (by omega)
  have u2 : IntKind.i64.wrap ((d : Int) * (d : Int)) = s := by rw [hm]; exact IntWalk.i64_in _ (by omega)
  clear hd hm
  go_enter Try.func52, Try.ntmps52
  go_wp2
  go_ret
  exact ⟨by first | rfl | simp only [u1, u2], rfl⟩
def lcOf (L : List (List Int)) (W : Int) (b : Bool) : Int := if b = true then costL W L else -1
theorem costUp {L : List (List Int)} {W C : Int} {k : Nat} (h : Hid (C + costL W (L.drop k) = costL W L)) (hk : k + 1 < L.length) {s : Int} (hs : sqFree W (L.getD k []) = s) : Hid (C + s + costL W (L.drop (k + 1)) = costL W L) := by
  show _ = _
  have := h.out
  rw [costL_drop W L hk, hs] at this
  omega
theorem costEnd {L : List (List Int)} {W C : Int} {k : Nat} (h : Hid (C + costL W (L.drop k) = costL W L)) (hk : L.length ≤ k + 1) : C = lcOf L W true := by
  have := h.out
  rw [costL_last W L hk] at this
  unfold lcOf
  rw [if_pos rfl]
  omega
set_option maxHeartbeats 2000000 in
theorem i_LineCost (w : World) (v : Value) (L : List (List Int)) (W : Int) (b : Bool) (hx : ListsAt w v L) (hb : Hid (b = true ↔ LinesOk L W)) :
    Calls Try.prog 22 #[v, .int .i64 W] w fun e w' => e = .returned (.int .i64 (lcOf L W b)) ∧ w = w' := by
  have HX := keptL hx
  obtain ⟨a, cp, rfl, x1, x2, _⟩ := hx
  obtain ⟨n, hn⟩ : ∃ n, L.length = n := ⟨_, rfl⟩
  rw [hn] at x1 HX ⊢
  have HN := Lib.hid hn
  clear hn
  cases b with
  | false =>
    go_enter Try.func22, Try.ntmps22
    go_wp2_with fail
    refine (i_areLines_b w _ L W false HX.out hb).mono ?_
    rintro e w1 ⟨rfl, rfl⟩
    go_wp2
    go_ret
    exact ⟨rfl, rfl⟩
  | true =>
    have HOK : Hid (LinesOk L W) := hb.out.1 rfl
    have hW1 := HOK.out.2.1.1
    have hW2 := HOK.out.2.1.2
    have hn30 : n ≤ 30 := by have := HOK.out.1; rw [HN.out] at this; exact this
    go_enter Try.func22, Try.ntmps22
    go_wp2_with fail
    refine (i_areLines_b w _ L W true HX.out (show _ ↔ _ from ⟨fun _ => HOK.out, fun _ => rfl⟩)).mono ?_
    rintro e w1 ⟨rfl, rfl⟩
    clear hb
    go_wp2_with fail
    go_loop [5, 6] (fun c i => ∃ k : Nat, k ≤ n ∧ i = .int .i64 k ∧ ∃ C : Int, c = .int .i64 C ∧ Hid (C + costL W (L.drop k) = costL W L) ∧ 0 ≤ C ∧ C ≤ 1600 * k) (fun _ i => n - (intOf i).toNat)
    case atStart => exact ⟨0, Nat.zero_le _, rfl, 0, rfl, by show _ = _; simp, by omega, by omega⟩
    case round =>
      obtain ⟨k, hk, rfl, C, rfl, HC, hC0, hC1⟩ := hrel
      by_cases hlt : k + 1 < n
      · obtain ⟨g, off, u, rfl, c1, hu⟩ := HX.out.someNth (i := k) (by omega)
        obtain ⟨a3, c3, rfl, y1, y2, _⟩ := hu
        obtain ⟨m, hm⟩ : ∃ m, (L.getD k []).length = m := ⟨_, rfl⟩
        rw [hm] at y1 c1
        have hmW : (m : Int) ≤ W := by
          have := (HOK.out.2.2 k (by rw [HN.out]; omega)).1
          rw [hm] at this; exact this
        obtain ⟨s, hs⟩ : ∃ s, (W - (m : Int)) * (W - (m : Int)) = s := ⟨_, rfl⟩
        have HS := Lib.hid hs
        have HC' := costUp HC (by rw [HN.out]; exact hlt) (s := s) (by unfold sqFree; rw [hm]; exact hs)
        obtain ⟨d, _, _, _, hs0, hs1⟩ := sq_nat HS hmW hW2
        have d1 : decide ((k : Int) < (n : Int) - 1) = true := decide_eq_true (by omega)
        clear hs hm HC
        go_wp2_with fail
        refine (i_freeCost _ m W s HS hmW hW2).mono ?_
        rintro e w2 ⟨rfl, rfl⟩
        go_wp2
        go_round
        case rel => exact ⟨k + 1, by omega, by go_num, C + s, rfl, HC', by omega, by omega⟩
        case measure => simp [intOf]; omega
      · have d1 : decide ((k : Int) < (n : Int) - 1) = false := decide_eq_false (by omega)
        have HF := keptL (costEnd HC (by rw [HN.out]; omega))
        clear HC
        go_wp2
        go_ret
        exact ⟨by rw [HF.out]; rfl, rfl⟩
set_option maxHeartbeats 2000000 in
theorem s_LineCost (w : World) (v : Value) (L : List (List Int)) (W : Int) (b : Bool) (hx : ListsAt w v L) (hb : Hid (b = true ↔ LinesOk L W)) :
    Calls Try.prog 23 #[v, .int .i64 W] w fun e w' => e = .returned (.int .i64 (lcOf L W b)) ∧ w = w' := by
  have HX := keptL hx
  obtain ⟨a, cp, rfl, x1, x2, _⟩ := hx
  obtain ⟨n, hn⟩ : ∃ n, L.length = n := ⟨_, rfl⟩
  rw [hn] at x1 HX ⊢
  have HN := Lib.hid hn
  clear hn
  cases b with
  | false =>
    go_enter Try.func23, Try.ntmps23
    go_wp2_with fail
    refine (s_validLines_b w _ L W false HX.out hb).mono ?_
    rintro e w1 ⟨rfl, rfl⟩
    go_wp2
    go_ret
    exact ⟨rfl, rfl⟩
  | true =>
    have HOK : Hid (LinesOk L W) := hb.out.1 rfl
    have hW1 := HOK.out.2.1.1
    have hW2 := HOK.out.2.1.2
    have hn30 : n ≤ 30 := by have := HOK.out.1; rw [HN.out] at this; exact this
    go_enter Try.func23, Try.ntmps23
    go_wp2_with fail
    refine (s_validLines_b w _ L W true HX.out (show _ ↔ _ from ⟨fun _ => HOK.out, fun _ => rfl⟩)).mono ?_
    rintro e w1 ⟨rfl, rfl⟩
    clear hb
    go_wp2_with fail
    go_loop [5, 6] (fun c i => ∃ k : Nat, k ≤ n ∧ i = .int .i64 k ∧ ∃ C : Int, c = .int .i64 C ∧ Hid (C + costL W (L.drop k) = costL W L) ∧ 0 ≤ C ∧ C ≤ 1600 * k) (fun _ i => n - (intOf i).toNat)
    case atStart => exact ⟨0, Nat.zero_le _, rfl, 0, rfl, by show _ = _; simp, by omega, by omega⟩
    case round =>
      obtain ⟨k, hk, rfl, C, rfl, HC, hC0, hC1⟩ := hrel
      by_cases hlt : k + 1 < n
      · obtain ⟨g, off, u, rfl, c1, hu⟩ := HX.out.someNth (i := k) (by omega)
        obtain ⟨a3, c3, rfl, y1, y2, _⟩ := hu
        obtain ⟨m, hm⟩ : ∃ m, (L.getD k []).length = m := ⟨_, rfl⟩
        rw [hm] at y1 c1
        have hmW : (m : Int) ≤ W := by
          have := (HOK.out.2.2 k (by rw [HN.out]; omega)).1
          rw [hm] at this; exact this
        obtain ⟨s, hs⟩ : ∃ s, (W - (m : Int)) * (W - (m : Int)) = s := ⟨_, rfl⟩
        have HS := Lib.hid hs
        have HC' := costUp HC (by rw [HN.out]; exact hlt) (s := s) (by unfold sqFree; rw [hm]; exact hs)
        obtain ⟨d, _, _, _, hs0, hs1⟩ := sq_nat HS hmW hW2
        have d1 : decide ((k : Int) + 1 < (n : Int)) = true := decide_eq_true (by omega)
        clear hs hm HC
        go_wp2_with fail
        refine (s_spare _ _ m _ W s HS hmW hW2).mono ?_
        rintro e w2 ⟨rfl, rfl⟩
        go_wp2
        go_round
        case rel => exact ⟨k + 1, by omega, by go_num, C + s, rfl, HC', by omega, by omega⟩
        case measure => simp [intOf]; omega
      · have d1 : decide ((k : Int) + 1 < (n : Int)) = false := decide_eq_false (by omega)
        have HF := keptL (costEnd HC (by rw [HN.out]; omega))
        clear HC
        go_wp2
        go_ret
        exact ⟨by rw [HF.out]; rfl, rfl⟩
end Go.Proofs.Ytnbppackijjohaa
