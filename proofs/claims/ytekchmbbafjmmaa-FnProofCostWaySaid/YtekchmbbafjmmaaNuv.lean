
/- The draw of spoilt cells. -/
import Derived.Test.YtekchmbbafjmmaaNuf
import Derived.Laws.AppendOwnNone
import Derived.Deep.RegionLaw
namespace Go.Proofs.Ytekchmbbafjmmaa
open Go.RowKit

theorem IntsAt.newsU {w : World} {g off n cp : Nat} {zs : List Int} (h : IntsAt w (.slice (some ⟨g, off, none⟩) n cp) zs) : ∀ j u, (ints zs)[j]? = some u → w.cell? ((⟨g, off, none⟩ : Addr).add j) = some u := by
  intro j u hj
  obtain ⟨a, c, h1, _, _, h4⟩ := h
  injection h1 with e1 _ _
  rcases h4 with rfl | ⟨g', off', h5, h6⟩
  · simp [ints] at hj
  · rw [← e1] at h5
    injection h5 with e
    injection e with e2 e3 _
    subst e2 e3
    have hjl : j < zs.length := by
      have := (List.getElem?_eq_some_iff.1 hj).1
      rw [ints_length] at this; exact this
    rw [Addr.add_lit, h6 j hjl]
    simp only [ints, List.getElem?_map, List.getElem?_eq_getElem hjl, Option.map_some] at hj
    rw [← hj, List.getD_eq_getElem?_getD, List.getElem?_eq_getElem hjl, Option.getD_some]
theorem OwnInts.addAllU {w : World} {base N : Nat} {v : Value} {xs ys : List Int} (h : w.ownsRow base 3 1 v N (ints xs ++ ints ys)) (hN : N = xs.length + ys.length) : OwnInts w base v (xs ++ ys) := by
  subst hN
  unfold OwnInts
  rw [show ints (xs ++ ys) = ints xs ++ ints ys from by simp [ints], List.length_append]
  exact h
theorem ints_oneU : ∀ (zs : List Int), ∀ u ∈ ints zs, u.oneCell' = true := by
  intro zs u hu
  simp [ints] at hu
  obtain ⟨z, _, rfl⟩ := hu
  rfl
theorem own_litU (w : World) (z : Int) : OwnInts (w.alloc (.cells #[.int .i64 z] 3)) w.heap.size (.slice (some ⟨w.heap.size, 0, none⟩) 1 1) [z] :=
  ⟨rfl, .inr ⟨w.heap.size, 1, #[.int .i64 z], rfl, Nat.le_refl _, by show (w.heap.push _)[w.heap.size]? = _; simp, Nat.le_refl _, by unfold maxLen; omega, rfl, rfl⟩⟩
/-- the head of an owned list -/
theorem OwnInts.headU {w : World} {S g n c k : Nat} {zs : List Int} (h : OwnInts w S (.slice (some ⟨g, 0, none⟩) n c) zs) (hk : k ≤ n) (hn : zs.length = n) : OwnInts w S (.slice (some ⟨g, 0, none⟩) k c) (zs.take k) := by
  subst hn
  rcases h with ⟨h0, ⟨hv, hn⟩ | ⟨g', cap, cur, hv, hb, hg, h1, h2, h3, h4⟩⟩
  · injection hv with e _ _; exact absurd e (by simp)
  · injection hv with e1 _ e3
    injection e1 with e1
    injection e1 with e1
    subst e1 e3
    have hl : (zs.take k).length = k := by rw [List.length_take, Nat.min_eq_left hk]
    unfold OwnInts
    rw [hl]
    refine ⟨by rw [ints_length, hl, Nat.mul_one], .inr ⟨g, c, cur, rfl, hb, hg, by omega, h2, h3, ?_⟩⟩
    rw [Nat.mul_one] at h4 ⊢
    have : ints (zs.take k) = (ints zs).take k := by simp [ints, List.map_take]
    rw [this, ← h4, List.take_take, Nat.min_eq_left hk]
theorem IntsAt.dropU {w : World} {g n c k : Nat} {zs : List Int} (h : IntsAt w (.slice (some ⟨g, 0, none⟩) n c) zs) : ∀ j u, (ints (zs.drop k))[j]? = some u → w.cell? ((⟨g, k, none⟩ : Addr).add j) = some u := by
  intro j u hj
  have hx := h.newsU (k + j) u (by
    simp only [ints, List.getElem?_map, List.getElem?_drop] at hj ⊢
    exact hj)
  rw [Addr.add_lit] at hx ⊢
  rw [Nat.zero_add] at hx
  exact hx
set_option maxHeartbeats 1000000 in
theorem s_copyInts_u (w : World) (v : Value) (zs : List Int) (hx : IntsAt w v zs) (hs : zs.length ≤ 1048576) (hv : (∃ g off n c, v = .slice (some ⟨g, off, none⟩) n c) ∨ v = .slice none 0 0) :
    Calls Try.prog 72 #[v] w fun e w' => ∃ g c, e = .returned (.slice (some ⟨g, 0, none⟩) zs.length c) ∧ OwnInts w' w.heap.size (.slice (some ⟨g, 0, none⟩) zs.length c) zs ∧ Below w.heap.size w w' := by
  obtain ⟨i0, hi, hz0, hz1, hz2⟩ := info_parts infoInt
  have hO1 : OwnInts (w.alloc (.cells #[] 3)) w.heap.size (.slice (some ⟨w.heap.size, 0, none⟩) 0 0) [] := OwnInts.made w w.heap.size (Nat.le_refl _)
  have hB1 : Below w.heap.size w (w.alloc (.cells #[] 3)) := (Below.refl _ _).alloc (Nat.le_refl _) _
  have hx1 := hx.below hB1
  rcases hv with ⟨g, off, n, cap, rfl⟩ | rfl
  · have hn : zs.length = n := by
      obtain ⟨_, _, e, _⟩ := hx
      injection e with _ e _
      exact e.symm
    have hnews := Lib.hid hx1.newsU
    have hlz : Hid ((ints zs).length = n * 1) := by show _ = _; rw [ints_length, hn, Nat.mul_one]
    have HN := Lib.hid hn
    rw [hn] at hs
    clear hx hx1 hn
    go_enter Try.func72, Try.ntmps72
    go_wp2_with (at_builtin; go_loud (refine wpList_append_own _ rfl _ _ 28 rfl w.heap.size 3 i0 (.int .i64 0) 1 8 Try.underlying28 hi hz0 hz1 hz2 rfl (by decide) _ _ _ rfl hO1 ⟨g, off, none⟩ n cap (ints zs) rfl hlz.out hnews.out (ints_oneU zs) (by unfold maxLen; simp; omega) (by simp; omega) (by simp) ?_))
    intro v' w3 hown' hgrow hnil
    have hO3 : OwnInts w3 w.heap.size v' ([] ++ zs) := OwnInts.addAllU hown' (by rw [HN.out]; simp)
    have hB3 : Below w.heap.size w w3 := hB1.grown hgrow (by simp) (fun q hq => (hO1.lt q hq).1)
    go_wp2
    go_ret
    rcases hO3.2 with ⟨h1, _⟩ | ⟨g', c', cur, h1, _⟩
    · exact absurd h1 hnil
    · subst h1
      exact ⟨g', c', rfl, hO3, hB3⟩
  · have h0 : zs = [] := by
      obtain ⟨_, _, e, _⟩ := hx
      injection e with _ e _
      exact List.length_eq_zero_iff.1 e.symm
    subst h0
    clear hx hx1 hs
    go_enter Try.func72, Try.ntmps72
    go_wp2_with (at_builtin; refine wpList_append_own_none rfl _ _ 28 rfl w.heap.size 3 i0 1 Try.underlying28 hi _ _ _ rfl hO1 rfl ?_)
    go_wp2
    go_ret
    exact ⟨_, _, rfl, hO1, hB1⟩
end Go.Proofs.Ytekchmbbafjmmaa
