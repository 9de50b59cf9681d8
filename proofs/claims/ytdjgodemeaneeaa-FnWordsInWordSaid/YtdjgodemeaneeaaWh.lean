
/- The words of a word, and of two words with a space between. -/
import Derived.Test.YtdjgodemeaneeaaWf
namespace Go.Proofs.Ytdjgodemeaneeaa
open Go.RowKit

theorem small_let {b : UInt8} (h : smallN b.toNat = true) : letB b.toNat = true := by
  simp only [smallN, decide_eq_true_eq] at h
  simp only [letB, Bool.or_eq_true, decide_eq_true_eq]
  exact .inl h
theorem small_ok {b : UInt8} (h : smallN b.toNat = true) : okB b.toNat = true := by rw [okB, small_let h]; rfl
theorem tw_all : ∀ {x : List UInt8}, (∀ b ∈ x, smallN b.toNat = true) → x.takeWhile isLt = x := by
  intro x
  induction x with
  | nil => intro _; rfl
  | cons b x ih =>
    intro h
    rw [List.takeWhile_cons, if_pos (show isLt b = true from small_let (h b (by simp))), ih (fun c hc => h c (by simp [hc]))]
theorem tw_app : ∀ {x : List UInt8} {z : UInt8} {y : List UInt8}, (∀ b ∈ x, smallN b.toNat = true) → letB z.toNat = false → (x ++ z :: y).takeWhile isLt = x := by
  intro x
  induction x with
  | nil => intro z y _ hz; rw [List.nil_append, List.takeWhile_cons, if_neg (by simp [isLt, hz])]
  | cons b x ih =>
    intro z y h hz
    rw [List.cons_append, List.takeWhile_cons, if_pos (show isLt b = true from small_let (h b (by simp))), ih (fun c hc => h c (by simp [hc])) hz]
theorem word_valid {l : List UInt8} (h : WordB 16 l) : ValidT l := ⟨by have := h.2.1; omega, fun b hb => small_ok (h.2.2 b hb)⟩
theorem wordsL_one {l : List UInt8} (h : WordB 16 l) : wordsL l = [bs l] := by
  have h0 : 0 < l.length := h.1
  have hb : letB (l[0]).toNat = true := small_let (h.2.2 _ (List.getElem_mem h0))
  have he : ce l 0 = l.length := by rw [ce_let h0 hb, re, List.drop_zero, tw_all h.2.2, Nat.zero_add]
  have hs : sub l 0 l.length = l := by rw [sub, List.drop_zero, Nat.sub_zero, List.take_length]
  have hc : isC l 0 = true := by
    rw [isC, he, hs, decide_eq_true h]; rfl
  rw [wordsL, if_pos (word_valid h)]
  show wrst l 0 = _
  rw [wrst_go h0, hc, if_pos rfl, he, hs, wrst_end (Nat.le_refl _)]
  rfl
theorem wordsL_two {x y : List UInt8} (hx : WordB 16 x) (hy : WordB 16 y) : wordsL (x ++ 32 :: y) = [bs x, bs y] := by
  obtain ⟨l, hl⟩ : ∃ l, x ++ 32 :: y = l := ⟨_, rfl⟩
  have hlen : l.length = x.length + 1 + y.length := by rw [← hl, List.length_append, List.length_cons]; omega
  have hv : ValidT l := by
    refine ⟨by have := hx.2.1; have := hy.2.1; omega, ?_⟩
    intro b hb
    rw [← hl, List.mem_append, List.mem_cons] at hb
    rcases hb with hb | rfl | hb
    · exact small_ok (hx.2.2 b hb)
    · decide
    · exact small_ok (hy.2.2 b hb)
  have hx0 : 0 < x.length := hx.1
  have hy0 : 0 < y.length := hy.1
  have h0 : 0 < l.length := by omega
  have hm : x.length < l.length := by omega
  have hn : x.length + 1 < l.length := by omega
  have e0 : l[0] = x[0] := by simp only [← hl]; rw [List.getElem_append_left hx0]
  have em : l[x.length] = 32 := by simp only [← hl]; rw [List.getElem_append_right (Nat.le_refl _)]; simp
  have ed : l.drop (x.length + 1) = y := by rw [← hl, ← List.drop_drop, List.drop_left]; rfl
  have en : l[x.length + 1] = y[0] := by
    have := drop_at hn
    rw [ed] at this
    have h2 := congrArg (fun q => q.headD 0) this
    simp only [List.headD_cons] at h2
    rw [← h2]
    cases y with
    | nil => simp at hy0
    | cons c y => rfl
  -- the first word
  have a1 : ce l 0 = x.length := by
    rw [ce_let h0 (by rw [e0]; exact small_let (hx.2.2 _ (List.getElem_mem hx0))), re, List.drop_zero, Nat.zero_add, ← hl, tw_app hx.2.2 (by decide)]
  have a2 : sub l 0 x.length = x := by rw [sub, List.drop_zero, Nat.sub_zero, ← hl, List.take_left]
  have a3 : isC l 0 = true := by rw [isC, a1, a2, decide_eq_true hx]; rfl
  -- the space
  obtain ⟨b1, b2⟩ := isC_not hm (by rw [em]; decide)
  -- the second word
  have c1 : ce l (x.length + 1) = l.length := by
    rw [ce_let hn (by rw [en]; exact small_let (hy.2.2 _ (List.getElem_mem hy0))), re, ed, tw_all hy.2.2]; omega
  have c2 : sub l (x.length + 1) l.length = y := by rw [sub, ed, hlen, List.take_of_length_le (by omega)]
  have c3 : isC l (x.length + 1) = true := by
    rw [isC, c1, c2, decide_eq_true hy, dB, getD_at hm, em]; rfl
  rw [hl, wordsL, if_pos hv]
  show wrst l 0 = _
  rw [wrst_go h0, a3, a1, a2, wrst_go hm, b1, b2, wrst_go hn, c3, c1, c2, wrst_end (Nat.le_refl _)]
  rfl
/-- a text, a space, a text -/
theorem two_data (t u : ByteArray) : ((t ++ ⟨#[32]⟩) ++ u).data.toList = t.data.toList ++ 32 :: u.data.toList := by
  rw [← bs_of t, ← bs_of u, show (⟨#[32]⟩ : ByteArray) = bs [32] from rfl, bs_append, bs_append]
  simp [bs]

section SXWh
set_option maxHeartbeats 1000000 in
theorem equalTexts_at (w : World) (g1 k1 g2 k2 n c1 c2 : Nat) (hn : n ≤ 1000) (hx : Hid (∀ i, i < n → ∃ t, w.cell? ⟨g1, k1 + i, none⟩ = some (.string t) ∧ w.cell? ⟨g2, k2 + i, none⟩ = some (.string t))) :
    Calls Try.prog 24 #[.slice (some ⟨g1, k1, none⟩) n c1, .slice (some ⟨g2, k2, none⟩) n c2] w fun e w' => e = .returned (.bool true) ∧ Below w.heap.size w w' := by
  go_enter Try.func24, Try.ntmps24
  go_wp2
  go_loopw [5] (fun i wr => ∃ k : Nat, k ≤ n ∧ i = .int .i64 k ∧ Below w.heap.size w wr) (fun i _ => n - (intOf i).toNat)
  case atStart => exact ⟨0, Nat.zero_le _, rfl, Below.refl _ _⟩
  case round =>
    obtain ⟨k, hk, rfl, hb1⟩ := hrel
    by_cases hlt : k < n
    · obtain ⟨t, p0, q0⟩ := hx.out k hlt
      have c0 := (hb1.cell (World.block_lt_of_cell? w _ p0)).trans p0
      have d0 := (hb1.cell (World.block_lt_of_cell? w _ q0)).trans q0
      have b1 : (0 : Int) ≤ (k : Int) := by omega
      have b2 : (k : Int) < (n : Int) := by omega
      have HB := keptS hb1
      clear hb1 p0 q0
      go_wp2_with fail
      go_quiet (fail)
      go_wp2
      go_roundw
      case rel => exact ⟨k + 1, by omega, by go_num, below_drewN HB.out _⟩
      case measure => simp [intOf]; omega
    · go_wp2
      go_ret
      exact ⟨rfl, hb1⟩
end SXWh
end Go.Proofs.Ytdjgodemeaneeaa
