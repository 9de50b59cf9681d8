
/- ReadMusic of the program: what it answers. -/
import Derived.Test.YtfofjjfnejigaaaNuo
namespace Go.Proofs.Ytfofjjfnejigaaa
open Go.RowKit

theorem mus_valid {P : List PNote} (h : NtsOk P) : ValidL (musTo P P.length) := by
  refine ⟨by have := (musTo_len P P.length).2; have := h.1; omega, ?_⟩
  have key : ∀ k, k ≤ P.length → ∀ z ∈ musTo P k, 0 ≤ z ∧ z < 64 := by
    intro k
    induction k with
    | zero => intro _ z hz; simp [musTo] at hz
    | succ k ih =>
      intro hk z hz
      simp only [musTo, List.mem_append] at hz
      rcases hz with hz | hz
      · exact ih (by omega) z hz
      · have hok := h.2 k (by omega)
        have hc := noteC_bd hok
        unfold musC at hz
        split at hz
        · obtain rfl : z = noteC (P.getD k noN) := by simpa using hz
          omega
        · rcases List.mem_append.1 hz with hz | hz
          · unfold markC at hz
            split at hz
            · rename_i hp _
              obtain rfl : z = octL.getD ((P.getD k noN).p / 7).toNat 0 := by simpa using hz
              have h0 : 0 ≤ (P.getD k noN).p / 7 := by have := hok.1; omega
              have h6 : (P.getD k noN).p / 7 ≤ 6 := by have := hok.2.1; omega
              generalize (P.getD k noN).p / 7 = q at h0 h6
              have : q = 0 ∨ q = 1 ∨ q = 2 ∨ q = 3 ∨ q = 4 ∨ q = 5 ∨ q = 6 := by omega
              rcases this with rfl | rfl | rfl | rfl | rfl | rfl | rfl <;> decide
            · simp at hz
          · obtain rfl : z = noteC (P.getD k noN) := by simpa using hz
            omega
  exact key P.length (Nat.le_refl _)
def RmOut (P : List PNote) (ok : Bool) (w : World) (e : Ending) (w' : World) : Prop :=
  ∃ a n c, e = .returned (.tuple #[.slice a n c, .bool ok]) ∧ OwnNt w' w.heap.size (.slice a n c) P ∧ Below w.heap.size w w'
theorem i_ValidCells_m (w : World) (u : Value) (zs : List Int) (b : Bool) (hx : IntsAt w u zs) (hb : Hid (decide (ValidL zs) = b)) :
    Calls Try.prog 38 #[u] w fun e w' => e = .returned (.bool b) ∧ w = w' := by
  have := i_ValidCells w u zs hx
  rw [hb.out] at this
  exact this
theorem s_validCells_m (w : World) (u : Value) (zs : List Int) (b : Bool) (hx : IntsAt w u zs) (hb : Hid (decide (ValidL zs) = b)) :
    Calls Try.prog 44 #[u] w fun e w' => e = .returned (.bool b) ∧ w = w' := by
  have := s_validCells w u zs hx
  rw [hb.out] at this
  exact this
set_option maxHeartbeats 2000000 in
theorem i_ReadMusic (w : World) (v : Value) (cells : List Int) (P : List PNote) (ok : Bool) (hx : IntsAt w v cells) (hr : Hid (RmIs cells P ok)) :
    Calls Try.prog 13 #[v] w fun e w' => RmOut P ok w e w' := by
  have HX := keptN hx
  obtain ⟨a, cp, rfl, x1, x2, _⟩ := hx
  obtain ⟨n, hn⟩ : ∃ n, cells.length = n := ⟨_, rfl⟩
  rw [hn] at x1 HX ⊢
  have HN := Lib.hid hn
  clear hn
  by_cases hv : ValidL cells
  · have HV : Hid (decide (ValidL cells) = true) := decide_eq_true hv
    have hl := hv.1
    have HLL : Hid (cells.length ≤ 200) := hl
    clear hv hl
    go_enter Try.func13, Try.ntmps13
    go_wp2_with fail
    refine (i_ValidCells_m w _ cells true HX.out HV).mono ?_
    rintro e w' ⟨rfl, rfl⟩
    go_wp2_with fail
    refine (i_readNotes w _ cells HX.out (by have := HLL.out; omega)).mono ?_
    rintro e w2 hro
    rcases hro with ⟨a2, n2, c2, Q, l, o, rfl, hO, hrun, hb2⟩ | ⟨k, Q, l, o, x, rfl, hk, hrun, hno, hst, hb2⟩
    · obtain ⟨M, hM⟩ := musIs_ex Q
      have HM := keptN hM
      have HO := keptN hO
      have HB := keptN hb2
      have HRUN := keptN hrun
      have HX2 := keptN (HX.out.below hb2)
      clear hO hb2 hrun
      go_wp2_with fail
      refine (i_MusicCells w2 _ Q M HO.out.at HM).mono ?_
      rintro e w3 ⟨a3, n3, c3, rfl, hI3, hb3⟩
      have HI3 := keptN hI3.at
      have HO3 := keptN (HO.out.below hb3)
      have HB3 := keptN (below_next HB.out hb3)
      have HX3 := keptN (HX2.out.below hb3)
      clear hI3 hb3 HB HO HX2
      by_cases hMc : M = cells
      · have HS : Hid (decide (M = cells) = true) := decide_eq_true hMc
        have hQ : NtsOk Q ∧ musTo Q Q.length = cells := by
          rcases hM with ⟨h1, h2⟩ | ⟨h1, h2⟩
          · exact ⟨h1, by rw [← h2, hMc]⟩
          · exfalso
            have hq0 := (runI_bd HRUN.out).2.2
            rw [← hMc, h2] at hq0
            have : Q = [] := List.length_eq_zero_iff.1 (by simpa using hq0)
            subst this
            exact h1 ⟨by simp, fun i hi => absurd hi (by simp)⟩
        have HF := keptN (hr.out.yes hQ.1 hQ.2 (fun P' h1 h2 => by
          have := HRUN.out
          rw [← h2] at this
          exact (at_end h1 (runI_at h1 this)).symm))
        clear hM hMc hQ
        go_wp2_with fail
        refine (i_sameCells_b w3 _ _ M cells true HI3.out HX3.out HS).mono ?_
        rintro e w4 ⟨rfl, hb4⟩
        have HO4 := keptN (HO3.out.below hb4)
        have HB4 := keptN (below_next HB3.out hb4)
        clear hb4 HO3 HB3
        go_wp2
        refine bodyPost_ret (results_twoN rfl _ _ _) rfl ?_
        exact ⟨_, _, _, by rw [HF.out.1]; rfl, by rw [HF.out.2]; exact HO4.out, HB4.out⟩
      · have HS : Hid (decide (M = cells) = false) := decide_eq_false hMc
        have HF := keptN (hr.out.no (fun P' h1 h2 => by
          have hrn := HRUN.out
          rw [← h2] at hrn
          have hqp := at_end h1 (runI_at h1 hrn)
          subst hqp
          rcases hM with ⟨_, h3⟩ | ⟨h3, _⟩
          · exact hMc (by rw [h3, h2])
          · exact h3 h1))
        clear hM hMc
        go_wp2_with fail
        refine (i_sameCells_b w3 _ _ M cells false HI3.out HX3.out HS).mono ?_
        rintro e w4 ⟨rfl, hb4⟩
        have HB4 := keptN (below_next HB3.out hb4)
        clear hb4 HO3 HB3
        go_wp2
        refine bodyPost_ret (results_twoN rfl _ _ _) rfl ?_
        exact ⟨none, 0, 0, by rw [HF.out.1]; rfl, by rw [HF.out.2]; exact OwnNt.nil _ _, HB4.out⟩
    · have HF := keptN (hr.out.no (fun P' h1 h2 => by
        subst h2
        have := (note_step_I h1 (runI_at h1 hrun) hk hno hst).1
        simp at this))
      have HB := keptN hb2
      clear hk hrun hno hst hb2
      go_wp2
      refine bodyPost_ret (results_twoN rfl _ _ _) rfl ?_
      exact ⟨none, 0, 0, by rw [HF.out.1]; rfl, by rw [HF.out.2]; exact OwnNt.nil _ _, HB.out⟩
  · have HV : Hid (decide (ValidL cells) = false) := decide_eq_false hv
    have HF := keptN (hr.out.no (fun P' h1 h2 => hv (by rw [← h2]; exact mus_valid h1)))
    clear hv
    go_enter Try.func13, Try.ntmps13
    go_wp2_with fail
    refine (i_ValidCells_m w _ cells false HX.out HV).mono ?_
    rintro e w' ⟨rfl, rfl⟩
    go_wp2
    refine bodyPost_ret (results_twoN rfl _ _ _) rfl ?_
    exact ⟨none, 0, 0, by rw [HF.out.1]; rfl, by rw [HF.out.2]; exact OwnNt.nil _ _, Below.refl _ _⟩
end Go.Proofs.Ytfofjjfnejigaaa
