
/- ParseCells in the model. -/
import Derived.Test.YtbngkgfjhegkmaaParJ
namespace Go.Proofs.Ytbngkgfjhegkmaa
open Go.RowKit

theorem infoStr : (Try.prog.info? 9).map (fun i => (i.zero, i.size, i.bytes)) = some (some (.string ByteArray.empty), 1, 16) := by kernel_rfl
def OwnStrs (w : World) (base : Nat) (v : Value) (ps : List ByteArray) : Prop := w.ownsRow base 9 1 v ps.length (ps.map Value.string)
theorem OwnStrs.made (w : World) (base : Nat) (h : base ≤ w.heap.size) : OwnStrs (w.alloc (.cells #[] 9)) base (.slice (some ⟨w.heap.size, 0, none⟩) 0 0) [] :=
  World.ownsRow_made w #[] 0 h (by unfold maxLen; omega) rfl
theorem OwnStrs.snoc {w : World} {base : Nat} {v : Value} {ps : List ByteArray} {p : ByteArray} (h : w.ownsRow base 9 1 v (ps.length + 1) (ps.map Value.string ++ [.string p])) : OwnStrs w base v (ps ++ [p]) := by
  unfold OwnStrs
  rw [List.map_append, List.length_append]
  exact h
theorem OwnStrs.isSlice {w : World} {base : Nat} {v : Value} {l : List ByteArray} (h : OwnStrs w base v l) : ∃ a c, v = .slice a l.length c := by
  rcases h.2 with ⟨h, hn⟩ | ⟨g, cap, _, h, _⟩
  · exact ⟨none, 0, by rw [hn]; exact h⟩
  · exact ⟨_, _, h⟩
theorem new_str {w : World} {t : TypeId} {p : ByteArray} : ∀ j u, [Value.string p][j]? = some u → (w.alloc (.cells #[.string p] t)).cell? ((⟨w.heap.size, 0, none⟩ : Addr).add j) = some u := by
  intro j u hj
  match j, hj with
  | 0, hj => simp at hj; subst hj; simp [Addr.add]
theorem str_cell {p : ByteArray} : ∀ u ∈ [Value.string p], u.oneCell' = true := by intro u hu; simp at hu; subst hu; rfl
theorem below_append_s {B : Nat} {w wr w' : World} {v : Value} {ps : List ByteArray} {o : Obj} (hb : Below B w wr) (hs : B ≤ wr.heap.size) (ho : OwnStrs wr B v ps) (hg : (wr.alloc o).grownBy w' v.ownBlock) : Below B w w' :=
  (hb.alloc hs o).grown hg (by have h := (World.grownBy_alloc wr o none).size; omega) (fun k hk => (ho.lt k hk).1)
/-- the bytes of each text -/
def lists (ps : List ByteArray) : List (List UInt8) := ps.map fun p => p.data.toList
theorem lists_snoc (ps : List ByteArray) (p : ByteArray) : lists (ps ++ [p]) = lists ps ++ [p.data.toList] := by simp [lists]
def WordsOut (l : List UInt8) (w : World) (e : Ending) (w' : World) : Prop :=
  ∃ a n c ps, e = .returned (.slice a n c) ∧ OwnStrs w' w.heap.size (.slice a n c) ps ∧ Hid (ps.length = n) ∧ Hid (lists ps = parts l) ∧ Below w.heap.size w w'

set_option maxHeartbeats 2000000 in
theorem s_splitAt (s : ByteArray) (w : World) (hs : s.size ≤ 1048576) :
    Calls Try.prog 30 #[.string s, .int .u8 45] w fun e w' => WordsOut s.data.toList w e w' := by
  obtain ⟨i0, hi, hz0, hz1, hz2⟩ := info_parts infoStr
  have hl := size_data s
  have HX : ∀ a b, (s.extract a b).data.toList = sub s.data.toList a b := fun a b => extract_list s a b
  obtain ⟨l, hL⟩ : ∃ l, s.data.toList = l := ⟨_, rfl⟩
  have HE : ∀ k (h : k < s.size), ∃ h2 : k < l.length, l[k] = s[k] := fun k h => ⟨by rw [← hL, hl]; exact h, by subst hL; exact byte_eq h _⟩
  rw [hL] at hl HX ⊢
  have HL := Lib.hid hl
  have HHE := Lib.hid HE
  have HHX := Lib.hid HX
  clear hl hL HE HX
  go_enter Try.func30, Try.ntmps30
  go_wp2
  go_loopw [5, 6, 7] (fun v f i wr => ∃ (k j : Nat) (ps : List ByteArray), k ≤ s.size ∧ i = .int .i64 k ∧ f = .int .i64 j ∧ j ≤ k ∧ OwnStrs wr w.heap.size v ps ∧ ps.length ≤ k ∧ Hid (tw l j = tw l k) ∧ Hid (parts l = lists ps ++ parts (l.drop j)) ∧ Below w.heap.size w wr) (fun _ _ i _ => s.size - (intOf i).toNat)
  case atStart => exact ⟨0, 0, [], by omega, rfl, rfl, by omega, OwnStrs.made _ _ (Nat.le_refl _), by simp, rfl, rfl, (Below.refl _ _).alloc (Nat.le_refl _) _⟩
  case round =>
    obtain ⟨k, j, ps, hk, rfl, rfl, hjk, hown, hpl, ht, hp, hb⟩ := hrel
    have hsw := hb.size
    by_cases hlt : k < s.size
    · obtain ⟨h2, hbk⟩ := HHE.out k hlt
      by_cases e : s[k] = 45
      · have e1 : ((((s[k]'hlt).toNat : Nat) : Int) == 45) = true := by rw [e]; rfl
        have hT : tw l k = k := tw_stop h2 (hbk.trans e)
        have hP : Hid (parts l = lists (ps ++ [s.extract j k]) ++ parts (l.drop (k + 1))) := by
          show _ = _
          rw [hp.out, parts_at (show j ≤ l.length by omega), ht.out, hT, if_pos h2, lists_snoc, HHX.out]
          simp
        have q1 : (j : Int) ≤ (k : Int) := by omega
        clear e hbk hT
        go_wp2_with (at_builtin; go_loud (refine wpList_append_own _ rfl _ _ 43 rfl w.heap.size 9 i0 (.string ByteArray.empty) 1 16 Try.underlying43 hi hz0 hz1 hz2 rfl (by decide) _ _ _ rfl (hown.alloc _) ⟨wr.heap.size, 0, none⟩ 1 1 [.string (s.extract j k)] rfl rfl new_str str_cell (by unfold maxLen; omega) (by omega) (by simp; omega) ?_))
        intro v' w1 hown' hgrow _
        have R1 := OwnStrs.snoc hown'
        have R2 := below_append_s hb hsw hown hgrow
        clear hown' hgrow hown hb
        go_wp2
        go_roundw
        case rel => exact ⟨k + 1, k + 1, ps ++ [s.extract j k], by omega, by go_num, by go_num, by omega, R1, by simp; omega, rfl, hP, R2⟩
        case measure => simp [intOf]; omega
      · have e1 : ((((s[k]'hlt).toNat : Nat) : Int) == 45) = false := by
          have := u8_ne e
          simp at this ⊢
          omega
        have hT : Hid (tw l j = tw l (k + 1)) := by show _ = _; rw [ht.out, tw_go h2 (by rw [hbk]; exact e)]
        clear e hbk
        go_wp2
        go_roundw
        case rel => exact ⟨k + 1, j, ps, by omega, by go_num, rfl, by omega, hown, by omega, hT, hp, hb⟩
        case measure => simp [intOf]; omega
    · have hkl : k = l.length := by have := HL.out; omega
      have hP : Hid (parts l = lists (ps ++ [s.extract j s.size])) := by
        show _ = _
        rw [hp.out, parts_at (show j ≤ l.length by omega), ht.out, tw_end (by omega), if_neg (by omega), lists_snoc, HHX.out, hkl, HL.out]
      have q1 : (j : Int) ≤ (s.size : Int) := by omega
      clear hkl
      go_wp2_with (at_builtin; go_loud (refine wpList_append_own _ rfl _ _ 43 rfl w.heap.size 9 i0 (.string ByteArray.empty) 1 16 Try.underlying43 hi hz0 hz1 hz2 rfl (by decide) _ _ _ rfl (hown.alloc _) ⟨wr.heap.size, 0, none⟩ 1 1 [.string (s.extract j s.size)] rfl rfl new_str str_cell (by unfold maxLen; omega) (by omega) (by simp; omega) ?_))
      intro v' w1 hown' hgrow _
      have R1 := OwnStrs.snoc hown'
      have R2 := below_append_s hb hsw hown hgrow
      obtain ⟨a', c', hv'⟩ := R1.isSlice
      clear hown' hgrow hown hb
      subst hv'
      go_wp2
      go_ret
      exact ⟨_, _, _, _, rfl, R1, rfl, hP.out.symm, R2⟩

def NoCell (p : List UInt8) (k : Nat) : Prop := ∀ j, j < k → cellT j ≠ p
set_option maxHeartbeats 1000000 in
theorem s_readDots (p : ByteArray) (w : World) :
    Calls Try.prog 31 #[.string p] w fun e w' => e = .returned (.int .i64 (pc p.data.toList)) ∧ Below w.heap.size w w' := by
  have HQ : Hid (p.toList = p.data.toList) := toList_data p
  go_enter Try.func31, Try.ntmps31
  go_wp2
  go_loopw [3] (fun i wr => ∃ k : Nat, k ≤ 64 ∧ i = .int .i64 k ∧ NoCell p.data.toList k ∧ Below w.heap.size w wr) (fun i _ => 64 - (intOf i).toNat)
  case atStart => exact ⟨0, by omega, rfl, fun j h => absurd h (by omega), Below.refl _ _⟩
  case round =>
    obtain ⟨k, hk, rfl, hn, hb⟩ := hrel
    by_cases hlt : k < 64
    · by_cases e : cellT k = p.data.toList
      · have e1 : ((bs (cellT k)).toList == p.toList) = true := by rw [toList_data, toList_data, e]; simp [bs]
        have HP : Hid (pc p.data.toList = k) := pc_of hlt e
        clear e
        go_wp2_with (go_at_call 22; refine (s_showDots k _ hlt).mono ?_; rintro e w2 ⟨rfl, hb2⟩)
        go_ret
        exact ⟨ret_i64' HP.out.symm, hb.trans (hb2.mono hb.size)⟩
      · have e1 : ((bs (cellT k)).toList == p.toList) = false := by rw [toList_data, toList_data]; simpa [bs] using e
        have HN : NoCell p.data.toList (k + 1) := fun j hj => by
          by_cases hjk : j = k
          · subst hjk; exact e
          · exact hn j (by omega)
        clear e hn
        go_wp2_with (go_at_call 22; refine (s_showDots k _ hlt).mono ?_; rintro e w2 ⟨rfl, hb2⟩)
        go_roundw
        case rel => exact ⟨k + 1, by omega, by go_num, HN, hb.trans (hb2.mono hb.size)⟩
        case measure => simp [intOf]; omega
    · go_wp2
      go_ret
      obtain rfl : k = 64 := by omega
      exact ⟨ret_i64' (pc_none hn).symm, hb⟩
theorem s_readDots_v (p : ByteArray) (c : Int) (w : World) (hc : Hid (pc p.data.toList = c)) :
    Calls Try.prog 31 #[.string p] w fun e w' => e = .returned (.int .i64 c) ∧ Below w.heap.size w w' := by
  have := s_readDots p w
  rw [hc.out] at this
  exact this
end Go.Proofs.Ytbngkgfjhegkmaa
