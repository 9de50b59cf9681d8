
/- What exact laws over a list of numbers ask: copies, marks, and what is kept. -/
import Derived.Test.YtfgnckafpnobhaaExM
import Derived.Test.YtfgnckafpnobhaaEqIntS
namespace Go.Proofs.Ytfgnckafpnobhaa
open Go.RowKit

theorem eqIntS_sameE (w : World) (u v : Value) (xs : List Int) (hx : IntsAt w u xs) (hy : IntsAt w v xs) :
    Calls Try.prog 40 #[u, v] w fun e w' => e = .returned (.bool true) ∧ Below w.heap.size w w' := by
  have := eqIntS_any w u v xs xs hx hy
  rw [decide_eq_true rfl] at this
  exact this
theorem OwnInts.of_blockE {w w' : World} {base : Nat} {v : Value} {zs : List Int} (h : OwnInts w base v zs) (hk : ∀ k, v.ownBlock = some k → w'.heap[k]? = w.heap[k]?) : OwnInts w' base v zs := by
  rcases h with ⟨h0, ⟨hv, hn⟩ | ⟨g, cap, cur, hv, hb, hg, h1, h2, h3, h4⟩⟩
  · exact ⟨h0, .inl ⟨hv, hn⟩⟩
  · exact ⟨h0, .inr ⟨g, cap, cur, hv, hb, (hk g (by rw [hv]; rfl)).trans hg, h1, h2, h3, h4⟩⟩
set_option maxHeartbeats 1000000 in
theorem markIntS_e (w : World) (base b n cap : Nat) (zs : List Int) (s : Int) (hx : OwnInts w base (.slice (some ⟨b, 0, none⟩) n cap) zs) (hn : Hid (zs.length = n)) (h0 : 0 ≤ s) (h1 : s ≤ 1000000000000000000) (hl : n ≤ 4000000000000000000) :
    Calls Try.prog 42 #[.slice (some ⟨b, 0, none⟩) n cap, .int .i64 s] w fun e w' => e = .returned (.int .i64 (s + n)) ∧ w.grownBy w' (some b) := by
  have hO0 : OwnInts w base (.slice (some ⟨b, 0, none⟩) n cap) (marked zs s 0) := by rw [marked_zero]; exact hx
  clear hx
  go_enter Try.func42, Try.ntmps42
  go_wp2
  go_loopw [1, 5] (fun m i wr => ∃ k : Nat, k ≤ n ∧ i = .int .i64 k ∧ m = .int .i64 (s + k) ∧ OwnInts wr base (.slice (some ⟨b, 0, none⟩) n cap) (marked zs s k) ∧ w.grownBy wr (some b)) (fun _ i _ => n - (intOf i).toNat)
  case atStart => exact ⟨0, Nat.zero_le _, rfl, by simp, hO0, ⟨rfl, rfl, rfl, Nat.le_refl _, fun _ _ _ => rfl⟩⟩
  case round =>
    clear hO0
    obtain ⟨k, hk, rfl, rfl, hO, hB⟩ := hrel
    by_cases hlt : k < n
    · have hml : (marked zs s k).length = n := by rw [marked_length zs s k (by have := hn.out; omega), hn.out]
      have hO2 := hO.store hml k (s + k)
      rw [marked_set zs s k (by have := hn.out; omega)] at hO2
      have hB2 : w.grownBy (wr.setCell ⟨b, k, none⟩ (.int .i64 (s + k))) (some b) := by
        have h := (hO.stored' hml k (.int .i64 (s + k)))
        exact ⟨h.os.trans hB.os, h.tape.trans hB.tape, h.output.trans hB.output, Nat.le_trans hB.size h.size, fun i hi hne => (h.block i (Nat.lt_of_lt_of_le hi hB.size) hne).trans (hB.block i hi hne)⟩
      have hc := hO.cell hml hlt
      have hf := hO.free hml k
      clear hO hB hml
      go_wp2
      go_roundw
      case rel => exact ⟨k + 1, by omega, by go_num, by go_num, hO2, hB2⟩
      case measure => simp [intOf]; omega
    · go_wp2
      go_ret
      obtain rfl : k = n := by omega
      exact ⟨rfl, hB⟩
theorem toIntS_e (w : World) (a : Option Addr) (n cap : Nat) (zs : List Int) (hx : IntsAt w (.slice a n cap) zs) (hl : n ≤ 1048576) (hn : Hid (zs.length = n)) :
    Calls Try.prog 62 #[.slice a n cap] w fun e w' => ∃ g, e = .returned (.slice (some ⟨g, 0, none⟩) n n) ∧ OwnInts w' w.heap.size (.slice (some ⟨g, 0, none⟩) n n) zs ∧ Below w.heap.size w w' :=
  (toIntS_any w _ zs hx (by have := hn.out; omega)).mono fun _ _ ⟨v, h1, h2, h3, g, h4⟩ => by
    rw [hn.out] at h4
    subst h4
    exact ⟨g, h1, h2, h3⟩
end Go.Proofs.Ytfgnckafpnobhaa
