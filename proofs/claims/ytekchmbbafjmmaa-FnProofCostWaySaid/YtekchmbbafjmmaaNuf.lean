
/- An octave higher: the cells change in marks alone. -/
import Derived.Test.YtekchmbbafjmmaaNud
import Derived.Test.YtekchmbbafjmmaaNtl
import Derived.Test.YtekchmbbafjmmaaEqInts
import Derived.Test.YtekchmbbafjmmaaIsIn
namespace Go.Proofs.Ytekchmbbafjmmaa
open Go.RowKit

/-- the same cells but for marks of octaves -/
def MarkRel (L M : List Int) : Prop := L.length = M.length ∧ ∀ i, i < L.length → L.getD i 0 = M.getD i 0 ∨ (L.getD i 0 ∈ octL ∧ M.getD i 0 ∈ octL)
theorem MarkRel.nil : MarkRel [] [] := ⟨rfl, fun i h => absurd h (by simp)⟩
theorem MarkRel.app {L M L' M' : List Int} (h : MarkRel L M) (k : MarkRel L' M') : MarkRel (L ++ L') (M ++ M') := by
  refine ⟨by rw [List.length_append, List.length_append, h.1, k.1], fun i hi => ?_⟩
  rw [List.length_append] at hi
  by_cases hl : i < L.length
  · have := h.2 i hl
    rw [List.getD_eq_getElem?_getD, List.getD_eq_getElem?_getD] at this ⊢
    rw [List.getElem?_append_left hl, List.getElem?_append_left (by rw [← h.1]; exact hl)]
    exact this
  · have := k.2 (i - L.length) (by omega)
    rw [List.getD_eq_getElem?_getD, List.getD_eq_getElem?_getD] at this ⊢
    rw [List.getElem?_append_right (by omega), List.getElem?_append_right (by rw [← h.1]; omega), ← h.1]
    exact this
theorem MarkRel.same (c : Int) : MarkRel [c] [c] := ⟨rfl, fun _ _ => .inl rfl⟩
theorem MarkRel.marks {a b : Int} (ha : a ∈ octL) (hb : b ∈ octL) : MarkRel [a] [b] := ⟨rfl, fun i h => by
  have : i = 0 := by simp at h; exact h
  subst this
  exact .inr ⟨ha, hb⟩⟩
theorem octL_mem {k : Int} (h0 : 0 ≤ k) (h1 : k ≤ 6) : octL.getD k.toNat 0 ∈ octL := by
  have : k = 0 ∨ k = 1 ∨ k = 2 ∨ k = 3 ∨ k = 4 ∨ k = 5 ∨ k = 6 := by omega
  rcases this with rfl | rfl | rfl | rfl | rfl | rfl | rfl <;> decide
theorem musC_up {l l' p v : Int} (hp : 0 ≤ p) (hp2 : p + 7 ≤ 48) (hl : (l = -1 ∧ l' = -1) ∨ (0 ≤ l ∧ l' = l + 7)) : MarkRel (musC l' ⟨p + 7, v⟩) (musC l ⟨p, v⟩) := by
  have hc : noteC ⟨p + 7, v⟩ = noteC ⟨p, v⟩ := by
    unfold noteC
    rw [if_neg (show ¬ (p + 7 = -1) by omega), if_neg (show ¬ (p = -1) by omega)]
    simp only
    rw [show (p + 7) % 7 = p % 7 from by omega]
  have hm : NeedM l' (p + 7) ↔ NeedM l p := by
    unfold NeedM
    rcases hl with ⟨rfl, rfl⟩ | ⟨h0, rfl⟩
    · simp
    · constructor <;> intro h <;> omega
  unfold musC
  rw [if_neg (show ¬ ((⟨p + 7, v⟩ : PNote).p = -1) by simp only; omega), if_neg (show ¬ ((⟨p, v⟩ : PNote).p = -1) by simp only; omega), hc]
  refine MarkRel.app ?_ (MarkRel.same _)
  unfold markC
  simp only
  by_cases h : NeedM l p
  · rw [if_pos h, if_pos (hm.2 h)]
    exact MarkRel.marks (octL_mem (by omega) (by omega)) (octL_mem (by omega) (by omega))
  · rw [if_neg h, if_neg (fun k => h (hm.1 k))]
    exact MarkRel.nil
theorem mus_up {P Q : List PNote} (h : TransIs P 7 Q true) : Q.length = P.length ∧ NtsOk Q ∧ ∀ k, k ≤ P.length → MarkRel (musTo Q k) (musTo P k) ∧ ((lastP P k = -1 ∧ lastP Q k = -1) ∨ (0 ≤ lastP P k ∧ lastP Q k = lastP P k + 7)) := by
  rcases h with ⟨_, ⟨h1, h2, h3⟩, hL⟩ | ⟨a, _⟩
  · have hlen : Q.length = P.length := by rw [hL]; unfold trL; simp
    have hat : ∀ i, i < P.length → Q.getD i noN = trN 7 (P.getD i noN) := fun i hi => by
      rw [hL]
      unfold trL
      have hi' : i < (List.map (trN 7) (List.take P.length P)).length := by simp; omega
      rw [List.getD_eq_getElem?_getD, List.getElem?_eq_getElem hi', List.getD_eq_getElem?_getD, List.getElem?_eq_getElem hi]
      simp
    refine ⟨hlen, ⟨by rw [hlen]; exact h1.1, fun i hi => ?_⟩, ?_⟩
    · rw [hlen] at hi
      rw [hat i hi, trN]
      have := h1.2 i hi
      have h4 := h3 i hi
      split
      · exact this
      · rename_i h5
        rcases h4 with h4 | h4
        · exact absurd h4 h5
        · exact ⟨by simp only; omega, h4.2, this.2.2⟩
    · intro k
      induction k with
      | zero => intro _; exact ⟨MarkRel.nil, .inl ⟨rfl, rfl⟩⟩
      | succ k ih =>
        intro hk
        obtain ⟨a, b⟩ := ih (by omega)
        have hok := h1.2 k (by omega)
        have hon := h3 k (by omega)
        have hq := hat k (by omega)
        obtain ⟨y, hx⟩ : ∃ y, P.getD k noN = y := ⟨_, rfl⟩
        rw [hx] at hok hon hq
        obtain ⟨p, v⟩ := y
        obtain ⟨o1, o2, o3, o4⟩ := hok
        simp only at o1 o2 o3 o4
        by_cases hp : p = -1
        · subst hp
          rw [trN, if_pos rfl] at hq
          simp only [musTo, lastP, hx, hq, if_pos]
          refine ⟨MarkRel.app a ?_, b⟩
          unfold musC
          rw [if_pos rfl, if_pos rfl]
          exact MarkRel.same _
        · rcases hon with h | ⟨h5, h6⟩
          · exact absurd h hp
          · simp only at h5 h6
            rw [trN, if_neg hp] at hq
            simp only at hq
            simp only [musTo, lastP, hx, hq]
            rw [if_neg hp, if_neg (show ¬ (p + 7 = -1) by omega)]
            exact ⟨MarkRel.app a (musC_up (by omega) h6 b), .inr ⟨by omega, rfl⟩⟩
  · simp at a
theorem isIn_o (w : World) (u : Value) (z : Int) (b : Bool) (hx : IntsAt w u octL) (hb : Hid (decide (z ∈ octL) = b)) :
    Calls Try.prog 33 #[u, .int .i64 z] w fun e w' => e = .returned (.bool b) ∧ w = w' := by
  have := isIn_any w u octL z hx
  rw [hb.out] at this
  exact this
theorem equalInts_u (w : World) (u v : Value) (zs : List Int) (hx : IntsAt w u zs) (hy : IntsAt w v zs) :
    Calls Try.prog 26 #[u, v] w fun e w' => e = .returned (.bool true) ∧ Below w.heap.size w w' := by
  have := equalInts_any w u v zs zs hx hy
  rwa [decide_eq_true (rfl : zs = zs)] at this
theorem lit_ints (w : World) (zs : List Int) (n : Nat) (hn : zs.length = n) (hb : n ≤ 100) : IntsAt (w.alloc (.cells (zs.map (Value.int .i64)).toArray 3)) (.slice (some ⟨w.heap.size, 0, none⟩) n n) zs :=
  ⟨_, n, by rw [hn], by omega, by omega, .inr ⟨w.heap.size, 0, rfl, fun i hi => by rw [Nat.zero_add]; exact lit_at w zs i hi⟩⟩
theorem IntsAt.nthU {w : World} {a : Option Addr} {n c k : Nat} {zs : List Int} (h : IntsAt w (.slice a n c) zs) (hk : k < n) : zs.length = n ∧ ∃ g off, a = some ⟨g, off, none⟩ ∧ w.cell? ⟨g, off + k, none⟩ = some (.int .i64 (zs.getD k 0)) := by
  obtain ⟨a', c', e, _, _, h4⟩ := h
  injection e with e1 e2 e3
  subst e1
  rcases h4 with rfl | ⟨g, off, rfl, h5⟩
  · simp at e2; omega
  · exact ⟨e2.symm, g, off, rfl, h5 k (by omega)⟩
theorem IntsAt.lenU {w : World} {a : Option Addr} {n c : Nat} {zs : List Int} (h : IntsAt w (.slice a n c) zs) : zs.length = n := by
  obtain ⟨a', c', e, _⟩ := h
  injection e with _ e2 _
  exact e2.symm
end Go.Proofs.Ytekchmbbafjmmaa
