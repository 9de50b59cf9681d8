
/- ValidKeys and PlayKeys of the model. -/
import Derived.Test.YtjedkmhmkipkdaaBf
namespace Go.Proofs.Ytjedkmhmkipkdaa
open Go.RowKit

/-- the model's answer, held against the numbers -/
theorem playOut_ok {zs : List Int} {b : Bool} {L : List Int} (hl : zs.length ≤ 280) (h : (runK ks0 zs = none ∧ b = false ∧ L = []) ∨ ∃ t, runK ks0 zs = some t ∧ t.out = L ∧ (b = true ↔ t.d = 0)) :
    okKs zs = b ∧ (b = true → playL zs = L) := by
  rcases h with ⟨h, rfl, _⟩ | ⟨t, h, h2, h3⟩
  · exact ⟨okKs_none h, fun e => by simp at e⟩
  · have hok : okKs zs = b := by
      rw [okKs_some hl h]
      cases b
      · exact decide_eq_false fun e => by simp [e] at h3
      · exact decide_eq_true (h3.1 rfl)
    refine ⟨hok, fun e => ?_⟩
    unfold playL
    rw [hok, e, if_pos rfl, h]
    exact h2
theorem playL_len (zs : List Int) : (playL zs).length ≤ 1000000 := by
  by_cases h : okKs zs = true
  · obtain ⟨hl, x, hx⟩ := (okKs_iff zs).1 h
    rw [playL_runs hl hx]
    have := hx.bounds.2
    omega
  · rw [playL_bad (by simpa using h)]; simp
set_option maxHeartbeats 1000000 in
theorem s_ValidKeys (w : World) (u : Value) (zs : List Int) (b : Bool) (hx : IntsAt w u zs) (hf : Fits zs) (hb : Hid (okKs zs = b)) :
    Calls Try.prog 16 #[u] w fun e w' => e = .returned (.bool b) ∧ Below w.heap.size w w' := by
  have HX := keptB hx
  have HF := keptB hf
  obtain ⟨a, c, rfl, x1, _, _⟩ := hx
  obtain ⟨n, hn⟩ : ∃ n, zs.length = n := ⟨_, rfl⟩
  rw [hn] at HX x1 ⊢
  have HN := keptB hn
  clear hn hf
  by_cases hbig : n ≤ 280
  · go_enter Try.func16, Try.ntmps16
    go_wp2_with fail
    refine (s_playKeys w _ zs HX.out HF.out (by rw [HN.out]; exact hbig)).mono ?_
    rintro e w1 ⟨a1, n1, c1, L, b1, rfl, hO, hB, hr⟩
    obtain ⟨h1, _⟩ := playOut_ok (by rw [HN.out]; exact hbig) hr
    obtain rfl : b = b1 := by rw [← hb.out, h1]
    clear hr h1 hO hb
    go_wp2
    go_ret
    exact ⟨rfl, hB⟩
  · have hbig' : 280 < n := by omega
    have hbf : b = false := by rw [← hb.out]; exact okKs_long (by rw [HN.out]; exact hbig')
    subst hbf
    clear hb
    go_enter Try.func16, Try.ntmps16
    go_wp2
    go_ret
    exact ⟨rfl, Below.refl _ _⟩
set_option maxHeartbeats 1000000 in
theorem s_PlayKeys (w : World) (u : Value) (zs L : List Int) (hx : IntsAt w u zs) (hf : Fits zs) (hL : Hid (playL zs = L)) :
    Calls Try.prog 22 #[u] w fun e w' => ∃ a n c, e = .returned (.slice a n c) ∧ OwnInts w' w.heap.size (.slice a n c) L ∧ Below w.heap.size w w' := by
  have HX := keptB hx
  have HF := keptB hf
  obtain ⟨a, c, rfl, _, _, _⟩ := hx
  obtain ⟨b, hb⟩ : ∃ b, okKs zs = b := ⟨_, rfl⟩
  have HB := keptB hb
  clear hf hb
  cases b with
  | false =>
    have hl0 : Hid (L = []) := by show _ = _; rw [← hL.out]; exact playL_bad HB.out
    go_enter Try.func22, Try.ntmps22
    go_wp2_with fail
    refine (s_ValidKeys _ _ zs false HX.out HF.out HB).mono ?_
    rintro e w1 ⟨rfl, hb1⟩
    go_wp2
    go_ret
    exact ⟨_, _, _, rfl, by rw [hl0.out]; exact OwnInts.nil _ _, hb1⟩
  | true =>
    have hl280 : Hid (zs.length ≤ 280) := ((okKs_iff zs).1 HB.out).1
    go_enter Try.func22, Try.ntmps22
    go_wp2_with fail
    refine (s_ValidKeys _ _ zs true HX.out HF.out HB).mono ?_
    rintro e w1 ⟨rfl, hb1⟩
    have hs1 := hb1.size
    go_wp2_with fail
    refine (s_playKeys w1 _ zs (HX.out.below hb1) HF.out hl280.out).mono ?_
    rintro e w2 ⟨a2, n2, c2, L2, b2, rfl, hO, hB, hr⟩
    obtain ⟨h1, h2⟩ := playOut_ok hl280.out hr
    have hL2 : Hid (L = L2) := by show _ = _; rw [← hL.out]; exact h2 (by rw [← h1, HB.out])
    have hB2 := below_next hb1 hB
    clear hr h1 h2
    go_wp2
    go_ret
    exact ⟨_, _, _, rfl, by rw [hL2.out]; exact hO.low hs1, hB2⟩
end Go.Proofs.Ytjedkmhmkipkdaa
