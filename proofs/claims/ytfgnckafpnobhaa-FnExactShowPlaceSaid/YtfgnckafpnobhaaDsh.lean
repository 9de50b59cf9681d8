
/- Copies of lists of numbers, and with spaces behind them. -/
import Derived.Test.YtfgnckafpnobhaaDsd
import Derived.Laws.AppendOwnNone
namespace Go.Proofs.Ytfgnckafpnobhaa
open Go.RowKit

theorem keptZ {p : Prop} (h : p) : Hid p := h
def WidOut (Z : List Int) (w : World) (e : Ending) (w' : World) : Prop := ∃ a n c, e = .returned (.slice a n c) ∧ OwnInts w' w.heap.size (.slice a n c) Z ∧ Below w.heap.size w w'
theorem OwnInts.isSliceZ {w : World} {base : Nat} {v : Value} {zs : List Int} (h : OwnInts w base v zs) : ∃ a n c, v = .slice a n c := by
  obtain ⟨a, c, h, _⟩ := h.at
  exact ⟨a, _, c, h⟩
theorem IntsAt.newsZ {w : World} {g off n cp : Nat} {zs : List Int} (h : IntsAt w (.slice (some ⟨g, off, none⟩) n cp) zs) : ∀ j u, (ints zs)[j]? = some u → w.cell? ((⟨g, off, none⟩ : Addr).add j) = some u := by
  intro j u hj
  obtain ⟨a, c, h1, _, _, h4⟩ := h
  injection h1 with e1 _ _
  rcases h4 with rfl | ⟨g', off', h5, h6⟩
  · simp [ints] at hj
  · rw [← e1] at h5
    injection h5 with e
    injection e with e2 e3 _
    subst e2 e3
    have hjl : j < zs.length := by
      have := (List.getElem?_eq_some_iff.1 hj).1
      rw [ints_length] at this; exact this
    rw [Addr.add_lit, h6 j hjl]
    simp only [ints, List.getElem?_map, List.getElem?_eq_getElem hjl, Option.map_some] at hj
    rw [← hj, List.getD_eq_getElem?_getD, List.getElem?_eq_getElem hjl, Option.getD_some]
theorem OwnInts.addAllZ {w : World} {base N : Nat} {v : Value} {xs ys : List Int} (h : w.ownsRow base 3 1 v N (ints xs ++ ints ys)) (hN : N = xs.length + ys.length) : OwnInts w base v (xs ++ ys) := by
  subst hN
  unfold OwnInts
  rw [show ints (xs ++ ys) = ints xs ++ ints ys from by simp [ints], List.length_append]
  exact h
theorem ints_oneZ : ∀ (zs : List Int), ∀ u ∈ ints zs, u.oneCell' = true := by
  intro zs u hu
  simp [ints] at hu
  obtain ⟨z, _, rfl⟩ := hu
  rfl
/-- a slice that is nil, or lies at an address -/
def Plain (v : Value) : Prop := (∃ g off n c, v = .slice (some ⟨g, off, none⟩) n c) ∨ v = .slice none 0 0
theorem OwnInts.plain {w : World} {S : Nat} {v : Value} {zs : List Int} (h : OwnInts w S v zs) : Plain v := by
  rcases h.2 with ⟨e, _⟩ | ⟨g, c, cur, e, _⟩
  · exact .inr e
  · exact .inl ⟨g, 0, _, c, e⟩
set_option maxHeartbeats 1000000 in
theorem i_copyOf_z (w : World) (v : Value) (zs : List Int) (hx : IntsAt w v zs) (hs : zs.length ≤ 1048576) (hv : Plain v) :
    Calls Try.prog 68 #[v] w fun e w' => WidOut zs w e w' := by
  obtain ⟨i0, hi, hz0, hz1, hz2⟩ := info_parts infoInt
  have hO1 : OwnInts w w.heap.size (.slice none 0 0) [] := OwnInts.nil _ _
  rcases hv with ⟨g, off, n, cap, rfl⟩ | rfl
  · have hn : zs.length = n := by
      obtain ⟨_, _, e, _⟩ := hx
      injection e with _ e _
      exact e.symm
    have hnews := Lib.hid hx.newsZ
    have hlz : Hid ((ints zs).length = n * 1) := by show _ = _; rw [ints_length, hn, Nat.mul_one]
    have HN := Lib.hid hn
    rw [hn] at hs
    clear hx hn
    go_enter Try.func68, Try.ntmps68
    go_wp2_with (at_builtin; refine wpList_append_own _ rfl _ _ 23 rfl w.heap.size 3 i0 (.int .i64 0) 1 8 Try.underlying23 hi hz0 hz1 hz2 rfl (by decide) _ _ _ rfl hO1 ⟨g, off, none⟩ n cap (ints zs) rfl hlz.out hnews.out (ints_oneZ zs) (by unfold maxLen; simp; omega) (by simp; omega) (Nat.le_refl _) ?_)
    intro v' w3 hown' hgrow hnil
    have hO3 : OwnInts w3 w.heap.size v' ([] ++ zs) := OwnInts.addAllZ hown' (by rw [HN.out]; simp)
    have hB3 : Below w.heap.size w w3 := (Below.refl _ _).grown hgrow (Nat.le_refl _) (fun q hq => by simp [Value.ownBlock] at hq)
    obtain ⟨a', n', c', hv'⟩ := hO3.isSliceZ
    subst hv'
    clear hown' hgrow hnil
    go_wp2
    go_ret
    exact ⟨_, _, _, rfl, hO3, hB3⟩
  · have h0 : zs = [] := by
      obtain ⟨_, _, e, _⟩ := hx
      injection e with _ e _
      exact List.length_eq_zero_iff.1 e.symm
    subst h0
    clear hx hs
    go_enter Try.func68, Try.ntmps68
    go_wp2_with (at_builtin; refine wpList_append_own_none rfl _ _ 23 rfl w.heap.size 3 i0 1 Try.underlying23 hi _ _ _ rfl hO1 rfl ?_)
    go_wp2
    go_ret
    exact ⟨_, _, _, rfl, hO1, Below.refl _ _⟩
set_option maxHeartbeats 1000000 in
theorem i_withSpaces_z (w : World) (v : Value) (zs : List Int) (many : Nat) (hx : IntsAt w v zs) (hs : zs.length ≤ 1000) (hm : many ≤ 1000) (hv : Plain v) :
    Calls Try.prog 51 #[v, .int .i64 many] w fun e w' => WidOut (zs ++ List.replicate many 0) w e w' := by
  obtain ⟨i0, hi, hz0, hz1, hz2⟩ := info_parts infoInt
  have HX := keptZ hx
  have HV := keptZ hv
  clear hx hv
  go_enter Try.func51, Try.ntmps51
  go_wp2_with fail
  refine (i_copyOf_z w v zs HX.out (by omega) HV.out).mono ?_
  rintro e w1 ⟨a1, n1, c1, rfl, hO1, hb1⟩
  have HO1 : Hid (OwnInts w1 w.heap.size (.slice a1 n1 c1) (zs ++ List.replicate 0 0)) := by show OwnInts _ _ _ _; rw [List.replicate_zero, List.append_nil]; exact hO1
  have HB1 := keptZ hb1
  clear hO1 hb1
  go_wp2
  go_loopw [5, 6] (fun x i wr => ∃ k : Nat, k ≤ many ∧ i = .int .i64 k ∧ Hid (OwnInts wr w.heap.size x (zs ++ List.replicate k 0)) ∧ Hid (Below w.heap.size w wr)) (fun _ i _ => many - (intOf i).toNat)
  case atStart => exact ⟨0, Nat.zero_le _, rfl, HO1, HB1⟩
  case round =>
    clear HO1 HB1
    obtain ⟨k, hk, rfl, HO, HB⟩ := hrel
    obtain ⟨ao, no, co, hs'⟩ := HO.out.isSliceZ
    subst hs'
    by_cases hlt : k < many
    · have hsz := HB.out.size
      have hln : (zs ++ List.replicate k (0 : Int)).length ≤ 2000 := by simp; omega
      go_wp2_with (at_builtin; refine wpList_append_own _ rfl _ _ 23 rfl w.heap.size 3 i0 (.int .i64 0) 1 8 Try.underlying23 hi hz0 hz1 hz2 rfl (by decide) _ _ _ rfl (HO.out.below ((Below.refl _ _).alloc (Nat.le_refl _) _)) ⟨_, 0, none⟩ 1 1 [.int .i64 0] rfl rfl new_one one_cell (by unfold maxLen; omega) (by omega) (by simp; omega) ?_)
      intro v' w5 hown' hgrow _
      have hO5 : OwnInts w5 w.heap.size v' (zs ++ List.replicate (k + 1) 0) := by
        have := OwnInts.snoc (zs := zs ++ List.replicate k 0) (z := 0) (by rw [List.length_append, List.length_replicate]; exact hown')
        rw [List.append_assoc, ← List.replicate_succ'] at this
        exact this
      have hB5 := below_append HB.out hsz HO.out hgrow
      have NXT := keptZ (And.intro hO5 hB5)
      clear hown' hgrow hO5 hB5 HO HB hln
      go_wp2
      go_roundw
      case rel => exact ⟨k + 1, by omega, by go_num, NXT.out.1, NXT.out.2⟩
      case measure => simp [intOf]; omega
    · obtain rfl : k = many := by omega
      go_wp2
      go_ret
      exact ⟨_, _, _, rfl, HO.out, HB.out⟩
set_option maxHeartbeats 1000000 in
theorem s_copyInts_d (w : World) (v : Value) (zs : List Int) (hx : IntsAt w v zs) (hs : zs.length ≤ 1048576) (hv : (∃ g off n c, v = .slice (some ⟨g, off, none⟩) n c) ∨ v = .slice none 0 0) :
    Calls Try.prog 53 #[v] w fun e w' => ∃ g c, e = .returned (.slice (some ⟨g, 0, none⟩) zs.length c) ∧ OwnInts w' w.heap.size (.slice (some ⟨g, 0, none⟩) zs.length c) zs ∧ Below w.heap.size w w' := by
  obtain ⟨i0, hi, hz0, hz1, hz2⟩ := info_parts infoInt
  have hO1 : OwnInts (w.alloc (.cells #[] 3)) w.heap.size (.slice (some ⟨w.heap.size, 0, none⟩) 0 0) [] := OwnInts.made w w.heap.size (Nat.le_refl _)
  have hB1 : Below w.heap.size w (w.alloc (.cells #[] 3)) := (Below.refl _ _).alloc (Nat.le_refl _) _
  have hx1 := hx.below hB1
  rcases hv with ⟨g, off, n, cap, rfl⟩ | rfl
  · have hn : zs.length = n := by
      obtain ⟨_, _, e, _⟩ := hx
      injection e with _ e _
      exact e.symm
    have hnews := Lib.hid hx1.newsZ
    have hlz : Hid ((ints zs).length = n * 1) := by show _ = _; rw [ints_length, hn, Nat.mul_one]
    have HN := Lib.hid hn
    rw [hn] at hs
    clear hx hx1 hn
    go_enter Try.func53, Try.ntmps53
    go_wp2_with (at_builtin; go_loud (refine wpList_append_own _ rfl _ _ 23 rfl w.heap.size 3 i0 (.int .i64 0) 1 8 Try.underlying23 hi hz0 hz1 hz2 rfl (by decide) _ _ _ rfl hO1 ⟨g, off, none⟩ n cap (ints zs) rfl hlz.out hnews.out (ints_oneZ zs) (by unfold maxLen; simp; omega) (by simp; omega) (by simp) ?_))
    intro v' w3 hown' hgrow hnil
    have hO3 : OwnInts w3 w.heap.size v' ([] ++ zs) := OwnInts.addAllZ hown' (by rw [HN.out]; simp)
    have hB3 : Below w.heap.size w w3 := hB1.grown hgrow (by simp) (fun q hq => (hO1.lt q hq).1)
    go_wp2
    go_ret
    rcases hO3.2 with ⟨h1, _⟩ | ⟨g', c', cur, h1, _⟩
    · exact absurd h1 hnil
    · subst h1
      exact ⟨g', c', rfl, hO3, hB3⟩
  · have h0 : zs = [] := by
      obtain ⟨_, _, e, _⟩ := hx
      injection e with _ e _
      exact List.length_eq_zero_iff.1 e.symm
    subst h0
    clear hx hx1 hs
    go_enter Try.func53, Try.ntmps53
    go_wp2_with (at_builtin; refine wpList_append_own_none rfl _ _ 23 rfl w.heap.size 3 i0 1 Try.underlying23 hi _ _ _ rfl hO1 rfl ?_)
    go_wp2
    go_ret
    exact ⟨_, _, rfl, hO1, hB1⟩
theorem part_d {w : World} {g n s l : Nat} {C : List Int} (h : IntsAt w (.slice (some ⟨g, 0, none⟩) n n) C) (hs : s + l ≤ n) :
    IntsAt w (.slice (some ⟨g, 0 + s, none⟩) l (n - s)) ((C.drop s).take l) := by
  obtain ⟨_, c', e, e1, e2, e3⟩ := h
  injection e with e4 e5 e6
  subst e4 e6
  have hl : ((C.drop s).take l).length = l := by rw [List.length_take, List.length_drop]; omega
  refine ⟨_, n - s, by rw [hl], by omega, by omega, ?_⟩
  rcases e3 with e3 | ⟨g', off', e3, e7⟩
  · subst e3
    exact .inl (by simp)
  · injection e3 with e3
    injection e3 with e8 e9
    subst e8 e9
    refine .inr ⟨g, 0 + s, rfl, fun i hi => ?_⟩
    rw [hl] at hi
    have := e7 (s + i) (by omega)
    rw [show 0 + s + i = 0 + (s + i) from by omega, this]
    rw [List.getD_eq_getElem?_getD, List.getD_eq_getElem?_getD, List.getElem?_take, if_pos hi, List.getElem?_drop]
end Go.Proofs.Ytfgnckafpnobhaa
