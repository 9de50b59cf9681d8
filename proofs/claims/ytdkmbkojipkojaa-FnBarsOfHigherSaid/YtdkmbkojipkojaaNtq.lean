
/- The laws of BarsOf on drawn notes: bars do not depend on pitches. -/
import Derived.Test.YtdkmbkojipkojaaNtp
import Derived.Test.YtdkmbkojipkojaaEqInts
import Derived.Test.YtdkmbkojipkojaaNtg
namespace Go.Proofs.Ytdkmbkojipkojaa
open Go.RowKit

theorem equalInts_n (w : World) (u v : Value) (zs : List Int) (hx : IntsAt w u zs) (hy : IntsAt w v zs) :
    Calls Try.prog 17 #[u, v] w fun e w' => e = .returned (.bool true) ∧ Below w.heap.size w w' := by
  have := equalInts_any w u v zs zs hx hy
  rwa [decide_eq_true (rfl : zs = zs)] at this
/-- two lists of notes have the same values -/
def SameV (P Q : List PNote) : Prop := P.length = Q.length ∧ ∀ i, i < P.length → (Q.getD i noN).v = (P.getD i noN).v
theorem BarTo.same {P Q : List PNote} {s : Int} (h : SameV P Q) : ∀ {k m L}, BarTo P s k m L → k ≤ P.length → BarTo Q s k m L := by
  intro k m L hb
  induction hb with
  | zero => intro _; exact .zero
  | @more k m L h1 h2 ih =>
    intro hk
    have e : (P.getD k noN).v = (Q.getD k noN).v := (h.2 k (by omega)).symm
    rw [e] at h2 ⊢
    exact .more (ih (by omega)) h2
  | @full k m L h1 h2 ih =>
    intro hk
    have e : (P.getD k noN).v = (Q.getD k noN).v := (h.2 k (by omega)).symm
    rw [e] at h2
    exact .full (ih (by omega)) h2
theorem SameV.symm {P Q : List PNote} (h : SameV P Q) : SameV Q P := ⟨h.1.symm, fun i hi => (h.2 i (by rw [h.1]; exact hi)).symm⟩
theorem SameV.len {P Q : List PNote} (h : SameV P Q) : ∀ k, k ≤ P.length → lenTo Q k = lenTo P k := by
  intro k
  induction k with
  | zero => intro _; rfl
  | succ k ih => intro hk; simp only [lenTo]; rw [ih (by omega), h.2 k (by omega)]
theorem TransIs.sameV {P L : List PNote} {b : Int} (h : TransIs P b L true) : SameV P L ∧ NtsOk P ∧ NtsOk L := by
  rcases h with ⟨_, ⟨h1, h2, h3⟩, hL⟩ | ⟨a, _⟩
  · have hlen : L.length = P.length := by rw [hL, trL_length]
    refine ⟨⟨hlen.symm, fun i hi => ?_⟩, h1, ⟨by rw [hlen]; exact h1.1, fun i hi => ?_⟩⟩
    · rw [hL, trL_at hi (Nat.le_refl _), trN]; split <;> rfl
    · rw [hlen] at hi
      rw [hL, trL_at hi (Nat.le_refl _), trN]
      have := h1.2 i hi
      have h4 := h3 i hi
      split
      · exact this
      · rename_i h5
        rcases h4 with h4 | h4
        · exact absurd h4 h5
        · exact ⟨by simp only; omega, h4.2, this.2.2⟩
  · simp at a
theorem BarsIs.same {P Q : List PNote} {s : Int} {L : List Int} {ok : Bool} (h : SameV P Q) (hP : NtsOk P) (hQ : NtsOk Q) (k : BarsIs P s L ok) : BarsIs Q s L ok := by
  rcases k with ⟨a, b, c, d⟩ | ⟨a, b, c⟩
  · exact .inl ⟨a, hQ, c, by rw [← h.1]; exact d.same h (Nat.le_refl _)⟩
  · exact .inr ⟨a, b, fun ⟨L', x, y, z⟩ => c ⟨L', hP, y, by rw [h.1]; exact z.same h.symm (Nat.le_refl _)⟩⟩
theorem lnOf_same {P Q : List PNote} (h : SameV P Q) (hP : NtsOk P) (hQ : NtsOk Q) : lnOf Q = lnOf P := by
  rw [lnOf_yes hP, lnOf_yes hQ, ← h.1]; exact h.len _ (Nat.le_refl _)
set_option maxHeartbeats 4000000 in
theorem barsHigher_walk (a : Option Addr) (len cap : Nat) (zs : List Int) (w : World) (h : RowIn .u8 w a len cap zs) :
    Calls Try.prog 5 #[.slice a len cap] w fun e w' => e = .returned (.bool true) ∧ Below w.heap.size w w' := by
  have hlen : len ≤ 9223372036854775807 := by
    obtain ⟨_, h2, h3⟩ := bytesAt_of_row h; unfold maxLen at h3; omega
  by_cases hbig : len ≤ 1048576
  · go_enter Try.func5, Try.ntmps5
    go_wp2_with fail
    refine (drawBarsOf_any w a len cap zs h).mono ?_
    rintro e w1 ⟨a1, n1, c1, P, s, rfl, hx, hl, hs, hb1⟩
    clear h
    obtain ⟨L, ok, hr⟩ := barsIs_ex P s
    obtain ⟨r, hrl⟩ : ∃ r, lnOf P = r := ⟨_, rfl⟩
    have HR := keptN hr
    have HRL := keptN hrl
    have HX := keptN hx
    clear hx hr hrl
    go_wp2_with fail
    refine (i_BarsOf w1 _ P s L ok HX.out HR).mono ?_
    rintro e w2 ⟨a2, n2, c2, rfl, hO2, hb2⟩
    have hB2 := below_next hb1 hb2
    have hI2 := hO2.at
    go_wp2_with fail
    refine (s_BarsOf w2 _ P s L ok (HX.out.below hb2) HR).mono ?_
    rintro e w3 ⟨a3, n3, c3, rfl, hO3, hb3⟩
    have hB3 := below_next hB2 hb3
    have hI23 := hI2.below hb3
    have hI3 := hO3.at
    have HX3 := keptN ((HX.out.below hb2).below hb3)
    clear hO2 hO3 hb2 hb3 hI2 hB2 hb1 HX
    go_wp2_with fail
    refine (equalInts_n w3 _ _ L hI23 hI3).mono ?_
    rintro e w4 ⟨rfl, hb4⟩
    have HB4 := keptN (below_next hB3 hb4)
    have HI := keptN (hI23.below hb4)
    have HX4 := keptN (HX3.out.below hb4)
    clear hB3 hb4 hI23 hI3 HX3
    have hbb : (ok != ok) = false := by cases ok <;> rfl
    go_wp2
    go_loopw [9] (fun b wr => ∃ j : Nat, j ≤ 3 ∧ b = .int .i64 (7 * (j : Int) - 7) ∧ Below w4.heap.size w4 wr) (fun b _ => 3 - ((intOf b) + 7).toNat / 7)
    case atStart => exact ⟨0, by omega, rfl, Below.refl _ _⟩
    case round =>
      obtain ⟨j, hj, rfl, hbr⟩ := hrel
      obtain ⟨b, hb⟩ : ∃ b, 7 * (j : Int) - 7 = b := ⟨_, rfl⟩
      rw [hb]
      have HBB := Lib.hid hb
      have hbd : -7 ≤ b ∧ b ≤ 14 := by omega
      by_cases hj3 : j < 3
      · have d7 : decide (b ≤ 7) = true := decide_eq_true (by omega)
        have HBR := keptN hbr
        clear hb hbr
        obtain ⟨Q, fine, hq⟩ := transIs_ex P b
        have HQ := keptN hq
        have fin : ∀ (wz : World), Below w4.heap.size w4 wz → ∃ j' : Nat, j' ≤ 3 ∧ Value.int .i64 (b + 7) = .int .i64 (7 * (j' : Int) - 7) ∧ Below w4.heap.size w4 wz := fun wz hz => ⟨j + 1, by omega, by have := HBB.out; congr 1; omega, hz⟩
        have HFIN := keptN fin
        clear fin
        go_wp2_with fail
        refine (i_Transpose wr _ P b Q fine (HX4.out.below HBR.out) HQ).mono ?_
        rintro e w5 ⟨a5, n5, c5, rfl, hO5, hb5⟩
        have HB5 := keptN (HBR.out.trans (hb5.mono HBR.out.size))
        have HQ5 := keptN hO5.at
        clear hO5 hb5 HBR
        cases fine with
        | true =>
          obtain ⟨v1, v2, v3⟩ := hq.sameV
          have HR2 : Hid (BarsIs Q s L ok) := HR.out.same v1 v2 v3
          have HL2 : Hid (lnOf Q = r) := by show _ = _; rw [lnOf_same v1 v2 v3]; exact HRL.out
          clear hq v1 v2 v3
          go_wp2_with fail
          refine (i_BarsOf w5 _ Q s L ok HQ5.out HR2).mono ?_
          rintro e w6 ⟨a6, n6, c6, rfl, hO6, hb6⟩
          have hB6 := HB5.out.trans (hb6.mono HB5.out.size)
          have hI6 := hO6.at
          have HQ6 := keptN (HQ5.out.below hb6)
          clear hO6 hb6 HB5 HQ5
          go_wp2_with fail
          refine (equalInts_n w6 _ _ L hI6 (HI.out.below hB6)).mono ?_
          rintro e w7 ⟨rfl, hb7⟩
          have hB7 := hB6.trans (hb7.mono hB6.size)
          have HQ7 := keptN (HQ6.out.below hb7)
          clear hI6 hb7 hB6 HQ6
          go_wp2_with fail
          refine (i_LengthOf w7 _ Q r HQ7.out HL2).mono ?_
          rintro e w8 ⟨rfl, hb8⟩
          have hB8 := hB7.trans (hb8.mono hB7.size)
          clear hb8 hB7 HQ7
          go_wp2_with fail
          refine (i_LengthOf w8 _ P r (HX4.out.below hB8) HRL).mono ?_
          rintro e w9 ⟨rfl, hb9⟩
          have hB9 := hB8.trans (hb9.mono hB8.size)
          clear hb9 hB8
          go_wp2
          go_roundw
          case rel => exact HFIN.out _ hB9
          case measure => simp [intOf]; have := HBB.out; omega
        | false =>
          clear hq
          obtain ⟨L2, ok2, hr2⟩ := barsIs_ex Q s
          have HR2 := keptN hr2
          clear hr2
          go_wp2_with fail
          refine (i_BarsOf w5 _ Q s L2 ok2 HQ5.out HR2).mono ?_
          rintro e w6 ⟨a6, n6, c6, rfl, hO6, hb6⟩
          have hB6 := HB5.out.trans (hb6.mono HB5.out.size)
          clear hO6 hb6 HB5 HQ5
          go_wp2
          go_roundw
          case rel => exact HFIN.out _ hB6
          case measure => simp [intOf]; have := HBB.out; omega
      · have d7 : decide (b ≤ 7) = false := decide_eq_false (by omega)
        clear hb
        go_wp2
        go_ret
        exact ⟨rfl, below_next HB4.out hbr⟩
  · go_enter Try.func5, Try.ntmps5
    go_wp2
    go_ret
    exact ⟨rfl, Below.refl _ _⟩
end Go.Proofs.Ytdkmbkojipkojaa
