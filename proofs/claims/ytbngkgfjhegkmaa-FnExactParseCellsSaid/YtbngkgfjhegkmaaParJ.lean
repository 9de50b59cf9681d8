
/- ParseCells in the program: the whole. -/
import Derived.Test.YtbngkgfjhegkmaaParI
namespace Go.Proofs.Ytbngkgfjhegkmaa
open Go.RowKit

def ParseOut (l : List UInt8) (w : World) (e : Ending) (w' : World) : Prop :=
  ∃ v ok, e = .returned (.tuple #[v, .bool ok]) ∧ Below w.heap.size w w' ∧ (∃ a n c, v = .slice a n c) ∧
    ((∃ zs, parseL l = some zs ∧ ok = true ∧ OwnInts w' w.heap.size v zs ∧ zs.length ≤ 200) ∨ (parseL l = none ∧ ok = false ∧ v = .slice none 0 0))
theorem i_hyphenAt_v (s : ByteArray) (k0 t : Nat) (w : World) (hs : s.size ≤ 9223372036854775000) (h0 : k0 ≤ s.size) (ht : Hid (tw s.data.toList k0 = t)) :
    Calls Try.prog 24 #[.string s, .int .i64 k0, .int .u8 45] w fun e w' => e = .returned (.int .i64 t) ∧ w = w' := by
  have := i_hyphenAt s k0 w hs h0
  rw [ht.out] at this
  exact this
theorem i_cellOfText_v (p : ByteArray) (c : Int) (w : World) (hs : p.size ≤ 9223372036854775000) (hc : Hid (pc p.data.toList = c)) :
    Calls Try.prog 25 #[.string p] w fun e w' => e = .returned (.int .i64 c) ∧ Below w.heap.size w w' := by
  have := i_cellOfText p w hs
  rw [hc.out] at this
  exact this
theorem pc_bd (p : List UInt8) : -1 ≤ pc p ∧ pc p ≤ 63 := by
  rcases pc_cases p with ⟨c, hc, h, _⟩ | ⟨h, _⟩ <;> omega
theorem extract_size {s : ByteArray} {a b : Nat} (h : b ≤ s.size) : (s.extract a b).size ≤ s.size := by
  rw [← size_data, extract_list, sub, List.length_take, List.length_drop, size_data]
  omega

set_option maxHeartbeats 2000000 in
theorem i_ParseCells (s : ByteArray) (w : World) (hs : s.size ≤ 9223372036854770000) :
    Calls Try.prog 11 #[.string s] w fun e w' => ParseOut s.data.toList w e w' := by
  obtain ⟨i0, hi, hz0, hz1, hz2⟩ := info_parts infoInt
  have hl := size_data s
  have HQ : s.toList = s.data.toList := toList_data s
  have HX : ∀ k t, tw s.data.toList k = t → (s.extract k t).data.toList = sub s.data.toList k (tw s.data.toList k) := fun k t h => by rw [extract_list, h]
  obtain ⟨l, hL⟩ : ∃ l, s.data.toList = l := ⟨_, rfl⟩
  have HTW : ∀ k t w, k ≤ s.size → Hid (tw l k = t) → Calls Try.prog 24 #[.string s, .int .i64 k, .int .u8 45] w fun e w' => e = .returned (.int .i64 t) ∧ w = w' := by
    intro k t w h1 h2
    exact i_hyphenAt_v s k t w (by omega) h1 (by rw [hL]; exact h2)
  have HC := Lib.hid HTW
  rw [hL] at hl HQ HX ⊢
  have HL := Lib.hid hl
  have HHX := Lib.hid HX
  clear hL HX HTW
  by_cases hB : l = []
  · have e2 : s.toList.isEmpty = true := by rw [HQ, hB]; rfl
    have HP : Hid (parseL l = some []) := by rw [hB]; rfl
    clear hB HQ hl
    go_enter Try.func11, Try.ntmps11
    go_wp2
    go_ret2
    exact ⟨_, _, rfl, Below.refl _ _, ⟨_, _, _, rfl⟩, .inl ⟨[], HP.out, rfl, OwnInts.nil _ _, by simp⟩⟩
  · have e2 : s.toList.isEmpty = false := by rw [HQ]; simpa using hB
    have HR0 : Hid (RestAt l 0 []) := RestAt.start hB
    clear hB HQ hl
    go_enter Try.func11, Try.ntmps11
    go_wp2
    go_loopw [4, 5] (fun v i wr => ∃ (k : Nat) (zs : List Int), k ≤ s.size + 1 ∧ i = .int .i64 k ∧ OwnInts wr w.heap.size v zs ∧ zs.length ≤ 200 ∧ RestAt l k zs ∧ Below w.heap.size w wr) (fun _ i _ => s.size + 2 - (intOf i).toNat)
    case atStart => exact ⟨0, [], by omega, rfl, OwnInts.nil _ _, by simp, HR0.out, Below.refl _ _⟩
    case round =>
      obtain ⟨k, zs, hk, rfl, hown, hz, hrest, hb⟩ := hrel
      have hsw := hb.size
      obtain ⟨av, n, cv, hv⟩ := (show ∃ a n c, _ = Value.slice a n c from (by rcases hown.2 with ⟨h, _⟩ | ⟨g, cap, _, h, _⟩ <;> exact ⟨_, _, _, h⟩))
      rw [hv] at hown
      subst hv
      have hn : Hid (zs.length = n) := by obtain ⟨_, _, h, _⟩ := hown.at; injection h with _ h2; exact h2.symm
      have hn200 : n ≤ 200 := by have := hn.out; omega
      by_cases hlt : k ≤ s.size
      · obtain ⟨t, ht⟩ : ∃ t, tw l k = t := ⟨_, rfl⟩
        have ht1 : k ≤ t := by rw [← ht]; exact tw_ge l k
        have ht2 : t ≤ s.size := by rw [← ht, ← HL.out]; exact tw_le (by rw [HL.out]; exact hlt)
        have hpx := HHX.out k t ht
        obtain ⟨c, hc⟩ : ∃ c, pc (sub l k (tw l k)) = c := ⟨_, rfl⟩
        have hbd := pc_bd (sub l k (tw l k))
        rw [hc] at hbd
        obtain ⟨hbd1, hbd2⟩ := hbd
        have HPC : Hid (pc (s.extract k t).data.toList = c) := by rw [hpx]; exact hc
        have HT := Lib.hid ht
        have hkl : Hid (k ≤ l.length) := by rw [HL.out]; exact hlt
        have HCC := Lib.hid hc
        have hxs := extract_size (s := s) (a := k) ht2
        have HXS : Hid ((s.extract k t).size ≤ s.size) := hxs
        have q1 : (k : Int) ≤ (t : Int) := by omega
        have q2 : (t : Int) ≤ (s.size : Int) := by omega
        clear ht hpx hc hxs
        by_cases hc0 : c < 0
        · have HN : Hid (parseL l = none) := hrest.bad hkl.out (.inl (by rw [HCC.out]; exact hc0))
          go_wp2_with (first | (go_at_call 24; refine (HC.out k t _ hlt HT).mono ?_; rintro e w' ⟨rfl, rfl⟩) | (go_at_call 25; refine (i_cellOfText_v _ c _ (by have := HXS.out; omega) HPC).mono ?_; rintro e w2 ⟨rfl, hb2⟩))
          go_ret2
          exact ⟨_, _, rfl, hb.trans (hb2.mono hsw), ⟨_, _, _, rfl⟩, .inr ⟨HN.out, rfl, rfl⟩⟩
        · have hc1 : 0 ≤ c := by omega
          clear hc0
          by_cases hf : n = 200
          · have e3 : ((n : Int) == 200) = true := by simp; omega
            have HN : Hid (parseL l = none) := hrest.bad hkl.out (.inr (by have := hn.out; omega))
            clear hf
            go_wp2_with (first | (go_at_call 24; refine (HC.out k t _ hlt HT).mono ?_; rintro e w' ⟨rfl, rfl⟩) | (go_at_call 25; refine (i_cellOfText_v _ c _ (by have := HXS.out; omega) HPC).mono ?_; rintro e w2 ⟨rfl, hb2⟩))
            go_ret2
            exact ⟨_, _, rfl, hb.trans (hb2.mono hsw), ⟨_, _, _, rfl⟩, .inr ⟨HN.out, rfl, rfl⟩⟩
          · have e3 : ((n : Int) == 200) = false := by simp; omega
            have hzl : zs.length < 200 := by have := hn.out; omega
            have HG : Hid (RestAt l (t + 1) (zs ++ [c])) := by
              have := hrest.good hkl.out HCC.out hc1 hzl
              rw [HT.out] at this
              exact this
            clear hf hrest
            go_wp2_with fail
            refine (HC.out k t _ hlt HT).mono ?_
            rintro e w' ⟨rfl, rfl⟩
            go_wp2_with fail
            refine (i_cellOfText_v _ c _ (by have := HXS.out; omega) HPC).mono ?_
            rintro e w2 ⟨rfl, hb2⟩
            have hown2 : OwnInts w2 w.heap.size (.slice av n cv) zs := OwnInts.below hown hb2
            have hB2 := hb.trans (hb2.mono hsw)
            have hsz2 := hB2.size
            clear hown hb hb2
            go_wp2_with (at_builtin; go_loud (refine wpList_append_own _ rfl _ _ 23 rfl w.heap.size 3 i0 (.int .i64 0) 1 8 Try.underlying23 hi hz0 hz1 hz2 rfl (by decide) _ _ _ rfl (hown2.alloc _) ⟨w2.heap.size, 0, none⟩ 1 1 [.int .i64 c] rfl rfl new_one one_cell (by unfold maxLen; omega) (by omega) (by simp; omega) ?_))
            intro v' w3 hown' hgrow _
            have R1 : OwnInts w3 w.heap.size v' (zs ++ [c]) := OwnInts.snoc hown'
            have R2 := below_append hB2 hsz2 hown2 hgrow
            clear hown' hgrow hown2 hB2
            go_wp2
            go_roundw
            case rel => exact ⟨t + 1, zs ++ [c], by omega, by go_num, R1, by simp; omega, HG.out, R2⟩
            case measure => simp [intOf]; omega
      · have HD : Hid (parseL l = some zs) := hrest.done (by have := HL.out; omega)
        go_wp2
        go_ret2
        exact ⟨_, _, rfl, hb, ⟨_, _, _, rfl⟩, .inl ⟨zs, HD.out, rfl, hown, hz⟩⟩
end Go.Proofs.Ytbngkgfjhegkmaa
