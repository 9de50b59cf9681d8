
/- The exact law of ValidPieces. -/
import Derived.Test.YtohgglhjcklbaaaPw
import Derived.Test.YtohgglhjcklbaaaTbK
namespace Go.Proofs.Ytohgglhjcklbaaa
open Go.RowKit

theorem szPieceS_any (w : World) (v : Value) (P : List PPiece) (l : Int) (hx : PiecesAt w v P) (h0 : 0 ≤ l) (h1 : l ≤ 1048576) :
    Calls Try.prog 36 #[v, .int .i64 l] w fun e w' => (∃ k : Int, e = .returned (.int .i64 k) ∧ (k = -1 ∨ (0 ≤ k ∧ k ≤ 1048576 ∧ P.length ≤ 1048576))) ∧ w = w' := by
  obtain ⟨a, cp, rfl, x1, x2, x3⟩ := hx
  obtain ⟨n, hn⟩ : ∃ n, P.length = n := ⟨_, rfl⟩
  rw [hn] at x1 x3 ⊢
  clear hn x3
  have hu1 : IntKind.i64.wrap (l - (n : Int)) = l - (n : Int) := IntWalk.i64_in _ (by omega)
  by_cases c : l - (n : Int) < 0
  · have d1 : decide (l - (n : Int) < 0) = true := decide_eq_true c
    go_enter Try.func36, Try.ntmps36
    go_wp2
    go_ret
    exact ⟨⟨-1, rfl, .inl rfl⟩, rfl⟩
  · have d1 : decide (l - (n : Int) < 0) = false := decide_eq_false c
    go_enter Try.func36, Try.ntmps36
    go_wp2
    go_ret
    exact ⟨⟨_, rfl, .inr ⟨by omega, by omega, by omega⟩⟩, rfl⟩

set_option maxHeartbeats 4000000 in
theorem exValidPieces_walk (a : Option Addr) (len cap : Nat) (T : List PRule) (s : ByteArray) (a' : Option Addr) (len' cap' : Nat) (P : List PPiece) (w : World) (hx : TableAt w (.slice a len cap) T) (hn : T.length = len) (hf : TableFits T) (w1 : s.size ≤ maxLen) (hy : PiecesAt w (.slice a' len' cap') P) (hn' : P.length = len') (hp : PiecesFit P) :
    Calls Try.prog 10 #[.slice a len cap, .string s, .slice a' len' cap'] w fun e w' => e = .returned (.bool true) ∧ Below w.heap.size w w' := by
  have hss : s.size ≤ 9223372036854775807 := by unfold maxLen at w1; exact w1
  clear w1
  have HN := Lib.hid hn
  have HX := Lib.hid hx
  have HF := Lib.hid hf
  have HN' := Lib.hid hn'
  have HY := Lib.hid hy
  have HP := Lib.hid hp
  obtain ⟨b, hb⟩ : ∃ b : Bool, b = true ↔ (ValidTb T ∧ WordB 16 s.data.toList) ∧ ValidPv T s P := by
    by_cases h : (ValidTb T ∧ WordB 16 s.data.toList) ∧ ValidPv T s P
    · exact ⟨true, by simp [h]⟩
    · exact ⟨false, bool_iff_false h⟩
  have HB := Lib.hid hb
  clear hb hn hx hf hn' hy hp
  by_cases hbig : 1048576 < s.size
  · go_enter Try.func10, Try.ntmps10
    go_wp2
    go_ret
    exact ⟨rfl, Below.refl _ _⟩
  · go_enter Try.func10, Try.ntmps10
    go_wp2_with fail
    refine (szRuleS_any w _ T HX.out HF.out).mono ?_
    rintro e w1 ⟨l, rfl, hb1, hl⟩
    rcases hl with rfl | ⟨hl0, hl1, hsm⟩
    · go_wp2
      go_ret
      exact ⟨rfl, hb1⟩
    · have HS := Lib.hid hsm
      have d1 : decide (l < 0) = false := decide_eq_false (by omega)
      have hlen : len ≤ 1048576 := by have := HS.out.1; have := HN.out; omega
      clear hsm
      go_wp2_with fail
      refine (szPieceS_any w1 _ P l (HY.out.below hb1) hl0 hl1).mono ?_
      rintro e w' ⟨⟨l2, rfl, hl2⟩, rfl⟩
      rcases hl2 with rfl | ⟨hl20, hl21, hl22⟩
      · go_wp2
        go_ret
        exact ⟨rfl, hb1⟩
      · have d2 : decide (l2 < 0) = false := decide_eq_false (by omega)
        have hlen' : len' ≤ 1048576 := by have := HN'.out; omega
        clear hl22
        go_wp2_with fail
        refine (toRuleS_any w1 _ T len (HX.out.below hb1) HS.out HN).mono ?_
        rintro e w2 ⟨rfl, ⟨_, hnew2⟩, _, hb2⟩
        have hB2 := below_next hb1 hb2
        have ht2 : TableAt w2 _ T := TableAt.of_new hnew2 HN.out (by omega)
        clear hnew2
        go_wp2_with fail
        refine (toPieceS_any w2 _ P len' (HY.out.below hB2) hlen' HN').mono ?_
        rintro e w3 ⟨rfl, hp3, _, hb3⟩
        have hB3 := below_next hB2 hb3
        have hp3' : PiecesAt w3 _ P := PiecesAt.of_new hp3 HN'.out (by omega)
        have ht3 := ht2.below hb3
        clear hp3 ht2
        go_wp2_with fail
        refine (s_ValidPieces w3 _ _ T s P b ht3 HF.out hss hp3' HP.out HB).mono ?_
        rintro e w4 ⟨rfl, hb4⟩
        have hB4 := below_next hB3 hb4
        clear ht3 hp3'
        go_wp2_with fail
        refine (toRuleS_any w4 _ T len (HX.out.below hB4) HS.out HN).mono ?_
        rintro e w5 ⟨rfl, ⟨_, hnew5⟩, _, hb5⟩
        have hB5 := below_next hB4 hb5
        have ht5 : TableAt w5 _ T := TableAt.of_new hnew5 HN.out (by omega)
        clear hnew5
        go_wp2_with fail
        refine (toPieceS_any w5 _ P len' (HY.out.below hB5) hlen' HN').mono ?_
        rintro e w6 ⟨rfl, hp6, _, hb6⟩
        have hB6 := below_next hB5 hb6
        have hp6' : PiecesAt w6 _ P := PiecesAt.of_new hp6 HN'.out (by omega)
        have ht6 := ht5.below hb6
        clear hp6 ht5
        go_wp2_with fail
        refine (i_ValidPieces w6 _ _ T s P b ht6 HF.out hss hp6' HP.out HB).mono ?_
        rintro e w7 ⟨rfl, hb7⟩
        have hB7 := below_next hB6 hb7
        have ht7 := ht6.below hb7
        have hp7 := hp6'.below hb7
        clear ht6 hp6'
        go_wp2_with fail
        refine (toRuleS_any w7 _ T len (HX.out.below hB7) HS.out HN).mono ?_
        rintro e w8 ⟨rfl, ⟨_, hnew8⟩, _, hb8⟩
        have hB8 := below_next hB7 hb8
        have ht8 : TableAt w8 _ T := TableAt.of_new hnew8 HN.out (by omega)
        have ht78 := ht7.below hb8
        have hp8 := hp7.below hb8
        clear hnew8 ht7 hp7
        go_wp2_with fail
        refine (eqRuleS_same w8 _ _ T ht78 ht8).mono ?_
        rintro e w9 ⟨rfl, hb9⟩
        have hB9 := below_next hB8 hb9
        have hp9 := hp8.below hb9
        clear ht8 ht78 hp8
        go_wp2_with fail
        refine (toPieceS_any w9 _ P len' (HY.out.below hB9) hlen' HN').mono ?_
        rintro e w10 ⟨rfl, hp10, _, hb10⟩
        have hB10 := below_next hB9 hb10
        have hp10' : PiecesAt w10 _ P := PiecesAt.of_new hp10 HN'.out (by omega)
        have hp910 := hp9.below hb10
        clear hp10 hp9
        go_wp2_with fail
        refine (eqPieceS_same w10 _ _ P hp910 hp10').mono ?_
        rintro e w11 ⟨rfl, hb11⟩
        go_wp2
        go_ret
        exact ⟨rfl, below_next hB10 hb11⟩
end Go.Proofs.Ytohgglhjcklbaaa
