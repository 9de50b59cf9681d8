
/- FnPlainCellsSpace: its walk. -/
import Derived.Test.YtabmeakjbhiklaaSpJ
import Derived.Deep.RegionHeld3
import Derived.Deep.AppendLies
namespace Go.Proofs.Ytabmeakjbhiklaa
open Go.RowKit

theorem own6 {w : World} {B : Nat} {v : Value} {zs : List Int} {n : Nat} (h : OwnInts w B v zs) (hn : Hid (zs.length = n)) : w.ownsRow B 3 1 v n (ints zs) := by
  have := h
  unfold OwnInts at this
  rw [hn.out] at this
  exact this
theorem snoc6 {w : World} {B : Nat} {v : Value} {zs : List Int} {n : Nat} {z : Int} (h : w.ownsRow B 3 1 v (n + 1) (ints zs ++ [.int .i64 z])) (hn : Hid (zs.length = n)) : OwnInts w B v (zs ++ [z]) := by
  rw [← hn.out] at h
  exact OwnInts.snoc h
theorem kept_one {w w' : World} {z : Int} (hb : Below (w.alloc (.cells #[.int .i64 z] 3)).heap.size (w.alloc (.cells #[.int .i64 z] 3)) w') : ∀ j u, [Value.int .i64 z][j]? = some u → w'.cell? ((⟨w.heap.size, 0, none⟩ : Addr).add j) = some u := by
  intro j u hj
  have h := new_one (w := w) (t := 3) (z := z) j u hj
  exact (hb.cell (World.block_lt_of_cell? _ _ h)).trans h
theorem below_b {w w6 w7 : World} {o : Obj} {v : Value} {zs : List Int} (hb : Below (w.drew.alloc o).heap.size (w.drew.alloc o) w6) (ho : OwnInts w6 (w.drew.alloc o).heap.size v zs) (hg : w6.grownBy w7 v.ownBlock) : Below w.heap.size w w7 := by
  have h0 : Below w.heap.size w (w.drew.alloc o) := (Below.refl w.heap.size w).drew.alloc (Nat.le_refl _) o
  have h1 := h0.trans (hb.mono h0.size)
  exact h1.grown hg h1.size (fun q hq => Nat.le_trans h0.size (ho.lt q hq).1)

set_option maxRecDepth 8000 in
set_option maxHeartbeats 8000000 in
theorem plainCellsSpace_walk (a : Option Addr) (len cap : Nat) (zs : List Int) (w : World) (h : RowIn .u8 w a len cap zs) :
    Calls Try.prog 6 #[.slice a len cap] w fun e w' => e = .returned (.bool true) ∧ Below w.heap.size w w' := by
  have hlen : len ≤ 9223372036854775807 := by
    obtain ⟨_, h2, h3⟩ := bytesAt_of_row h; unfold maxLen at h3; omega
  by_cases hbig : len ≤ 1048576
  · go_enter Try.func6, Try.ntmps6
    go_wp2_with fail
    refine (drawPlainCells_any w a len cap zs h).mono ?_
    rintro e w1 ⟨s, rfl, hs, hb1⟩
    clear h
    by_cases hv : ValidT s.data.toList
    · obtain ⟨D, hD⟩ : ∃ D, plainC s.data.toList = D := ⟨_, rfl⟩
      have HB := Lib.hid (decide_eq_true hv)
      have HI : Hid (∀ w, Calls Try.prog 12 #[.string s] w fun e w' => PlainYes D w e w') := fun w => (i_PlainCells s _ w (Txt.of s) rfl hv).mono fun _ _ h => by rw [hD] at h; exact plainYes_of h
      have HS : Hid (∀ w, Calls Try.prog 11 #[.string s] w fun e w' => PlainYes D w e w') := fun w => (s_PlainCells s _ w (Txt.of s) rfl hv).mono fun _ _ h => by rw [hD] at h; exact plainYes_of h
      have hzc := plain_zero hv
      rw [hD] at hzc
      obtain ⟨l, hL⟩ : ∃ l, s.data.toList = l := ⟨_, rfl⟩
      have hl := size_data s
      have hT := Txt.of s
      have hs60 : s.size ≤ 60 := by have := hv.1; rw [size_data] at this; exact this
      rw [hL] at hzc hT hl hv hD
      rw [hl] at hzc
      have HT := Lib.hid hT
      have HZ := Lib.hid hzc
      have HV : Hid (ValidT l) := hv
      have HD : Hid (plainC l = D) := hD
      have HL := Lib.hid hL
      clear hv hD hL hzc hT hl
      go_wp2_with fail
      refine (HI.out _).mono ?_
      rintro e w2 ⟨a2, n2, c2, rfl, ho2, hb2⟩
      have hB2 := below_next hb1 hb2
      have hx2 := ho2.at
      have hn2 : Hid (D.length = n2) := by obtain ⟨_, _, h, _⟩ := hx2; injection h with _ h2; exact h2.symm
      clear ho2
      go_wp2_with fail
      refine (HS.out _).mono ?_
      rintro e w3 ⟨a3, n3, c3, rfl, ho3, hb3⟩
      have hB3 := below_next hB2 hb3
      have hx3 := hx2.below hb3
      go_wp2_with fail
      refine (equalInts_same4 _ _ _ D hx3 ho3.at).mono ?_
      rintro e w4 ⟨rfl, hb4⟩
      have hB4 := below_next hB3 hb4
      have hx4 := hx3.below hb4
      clear ho3
      go_wp2_with fail
      refine (i_ValidText_v s true _ (by omega) HB).mono ?_
      rintro e w5 ⟨rfl, hb5⟩
      have hB5 := below_next hB4 hb5
      have hx5 := hx4.below hb5
      have hsw5 := hB5.size
      go_wp2_with fail
      go_loopw [5] (fun i wr => ∃ k : Nat, k ≤ s.size ∧ i = .int .i64 k ∧ IntsAt wr (.slice a2 n2 c2) D ∧ Below w.heap.size w wr) (fun i _ => s.size - (intOf i).toNat)
      case atStart => exact ⟨0, by omega, rfl, hx5, hB5⟩
      case round =>
        obtain ⟨k, hk, rfl, hxr, hbr⟩ := hrel
        have hsr := hbr.size
        by_cases hlt : k < s.size
        · obtain ⟨h2, hbk⟩ := HT.out.2 k hlt
          by_cases e : (s[k]).toNat = 32
          · have e1 : ((((s[k]'hlt).toNat : Nat) : Int) == 32) = true := by rw [e]; rfl
            have hps := plain_space h2 (by rw [hbk]; exact e)
            rw [HD.out] at hps
            have hv1 := valid_take HV.out k
            have hv2 := valid_drop HV.out (k + 1)
            have hq1 := plainC_le hv1
            have hq2 := plainC_le hv2
            obtain ⟨P1, hP1⟩ : ∃ P, plainC (l.take k) = P := ⟨_, rfl⟩
            obtain ⟨P2, hP2⟩ : ∃ P, plainC (l.drop (k + 1)) = P := ⟨_, rfl⟩
            rw [hP1] at hq1 hps
            rw [hP2] at hq2 hps
            have HPS := Lib.hid hps
            have hx1 : (s.extract 0 k).data.toList = l.take k := by rw [extract_list, HL.out]; simp [sub]
            have hx2 : (s.extract (k + 1) s.size).data.toList = l.drop (k + 1) := by
              rw [extract_list, HL.out, sub, List.take_of_length_le]
              rw [List.length_drop, HT.out.1]; omega
            have HA : Hid (∀ w, Calls Try.prog 12 #[.string (s.extract 0 k)] w fun e w' => PlainYes P1 w e w') := fun w => (i_PlainCells (s.extract 0 k) (l.take k) w (by rw [← hx1]; exact Txt.of _) hx1 hv1).mono fun _ _ h => by rw [hP1] at h; exact plainYes_of h
            have HB2 : Hid (∀ w, Calls Try.prog 12 #[.string (s.extract (k + 1) s.size)] w fun e w' => PlainYes P2 w e w') := fun w => (i_PlainCells (s.extract (k + 1) s.size) (l.drop (k + 1)) w (by rw [← hx2]; exact Txt.of _) hx2 hv2).mono fun _ _ h => by rw [hP2] at h; exact plainYes_of h
            have q1 : (0 : Int) ≤ (k : Int) := by omega
            have q2 : (k : Int) ≤ (s.size : Int) := by omega
            have q3 : (k : Int) + 1 ≤ (s.size : Int) := by omega
            have q4 : (k : Int) < (s.size : Int) := by omega
            have q0 : (0 : Int) ≤ (k : Int) + 1 := by omega
            have qw : IntKind.i64.wrap ((k : Int) + 1) = (k : Int) + 1 := IntWalk.i64_in _ (by omega)
            have qn : ((k : Int) + 1).toNat = k + 1 := by omega
            clear hps hv1 hv2 hP1 hP2 hx1 hx2 e hbk h2
            obtain ⟨i0, hi, hz0, hz1, hz2⟩ := info_parts infoInt
            have hj1 : (P1 ++ [0]).length ≤ 1000 := by simp; omega
            have hq2' : P2.length ≤ 1000 := by omega
            have hq6 : ∀ n : Nat, Hid (P1.length = n) → n ≤ 240 := fun n h => by have := h.out; omega
            go_wp2_with fail
            go_region_held3 (fun w' => True) (exact trivial) (first | (go_at_call 12; (with_reducible refine (HA.out _).mono ?_); rintro e w6 ⟨a6, n6, c6, rfl, ho6, hb6⟩; have hn6 : Hid (P1.length = n6) := by obtain ⟨_, _, h, _⟩ := ho6.at; injection h with _ h2; exact h2.symm) | (go_at_call 12; (with_reducible refine (HB2.out _).mono ?_); rintro e w8 ⟨a8, n8, c8, rfl, ho8, hb8⟩) | (go_at_call 21; refine (join_any _ wr.heap.size w7.heap.size g7 _ c7 a8 n8 c8 (P1 ++ [0]) P2 (ho7.below hb8) ho8 hj1 hq2').mono ?_; rintro e w9 ⟨v9, rfl, ho9, hb9, a9, n9, c9, rfl⟩; rw [← HPS.out] at ho9) | (go_at_call 17; refine (equalInts_same4 _ _ _ D (((hxr.below hb7).below hb8).below hb9) ho9.at).mono ?_; rintro e w10 ⟨rfl, hb10⟩) | ((rw [if_pos (by rfl)]); (refine wp_append_lies _ _ _ _ rfl wr.drew.heap.size 3 i0 (.int .i64 0) 1 8 Try.underlying22 hi hz0 hz1 hz2 rfl (by decide) (.slice a6 n6 c6) n6 (ints P1) (by rfl) (own6 (ho6.alloc _) hn6) ⟨w6.heap.size, 0, none⟩ 1 1 [.int .i64 0] (by rfl) (by rfl) new_one one_cell (by omega) (by have := hq6 _ hn6; unfold maxLen; omega) (by have := hq6 _ hn6; omega) (Nat.le_trans hb6.size (((Below.refl w6.heap.size w6).alloc (Nat.le_refl _) _).size)) _ rfl ?_); intro g7 c7 w7 hown7 hgrow7 _ _; have ho7 : OwnInts w7 wr.heap.size (.slice (some ⟨g7, 0, none⟩) (n6 + 1) c7) (P1 ++ [0]) := snoc6 hown7 hn6; have hb7 : Below wr.heap.size wr w7 := below_append ((Below.refl wr.heap.size wr).drew.trans hb6) hb6.size ho6 hgrow7) | ((rw [if_pos (by rfl)]); (refine wp_append_lies _ _ _ _ rfl (wr.drew.alloc (.cells #[.int .i64 0] 3)).heap.size 3 i0 (.int .i64 0) 1 8 Try.underlying22 hi hz0 hz1 hz2 rfl (by decide) (.slice a6 n6 c6) n6 (ints P1) (by rfl) (own6 ho6 hn6) ⟨wr.drew.heap.size, 0, none⟩ 1 1 [.int .i64 0] (by rfl) (by rfl) (kept_one hb6) one_cell (by omega) (by have := hq6 _ hn6; unfold maxLen; omega) (by have := hq6 _ hn6; omega) hb6.size _ rfl ?_); intro g7 c7 w7 hown7 hgrow7 _ _; have ho7 : OwnInts w7 wr.heap.size (.slice (some ⟨g7, 0, none⟩) (n6 + 1) c7) (P1 ++ [0]) := (snoc6 hown7 hn6).lower (((Below.refl wr.heap.size wr).drew.alloc (Nat.le_refl _) _).size); have hb7 : Below wr.heap.size wr w7 := below_b hb6 ho6 hgrow7))
            all_goals (
              have R1 := (((hxr.below hb7).below hb8).below hb9).below hb10
              have R2 := below_next (below_next (below_next (below_next hbr hb7) hb8) hb9) hb10
              go_wp2
              go_roundw
              case rel => exact ⟨k + 1, by omega, by go_num, R1, R2⟩
              case measure => simp [intOf]; omega)
          · have e1 : ((((s[k]'hlt).toNat : Nat) : Int) == 32) = false := by simp; omega
            have q1 : (0 : Int) ≤ (k : Int) := by omega
            have q2 : (k : Int) ≤ (s.size : Int) := by omega
            have q3 : (k : Int) + 1 ≤ (s.size : Int) := by omega
            have q4 : (k : Int) < (s.size : Int) := by omega
            clear e hbk h2
            go_wp2_with fail
            first | go_quiet (fail) | go_region | go_region_with (fail)
            all_goals (
              go_wp2
              go_roundw
              case rel => exact ⟨k + 1, by omega, by go_num, hxr, below_drewN hbr _⟩
              case measure => simp [intOf]; omega)
        · obtain ⟨m, hm⟩ : ∃ m, D.count 0 = m := ⟨_, rfl⟩
          obtain ⟨q, hq⟩ : ∃ q, nsC l s.size = q := ⟨_, rfl⟩
          have hmq : m + q = s.size := by rw [← hm, ← hq]; exact HZ.out
          have HM := Lib.hid hm
          have HQ := Lib.hid hq
          have e1 : ((m : Int) == (s.size : Int) - (q : Int)) = true := by simp; omega
          clear hm hq
          go_wp2_with fail
          refine (count_any _ _ D 0 m hxr HM).mono ?_
          rintro e w' ⟨rfl, rfl⟩
          go_wp2_with fail
          refine (nonSpaces_any s l _ q HT.out (by omega) HQ).mono ?_
          rintro e w' ⟨rfl, rfl⟩
          go_wp2
          go_ret
          exact ⟨rfl, hbr⟩

    · have HB := Lib.hid (decide_eq_false hv)
      have HI : Hid (∀ w, Calls Try.prog 12 #[.string s] w fun e w' => CellsNil w e w') := fun w => i_PlainCells_no s w (by omega) hv
      have HS : Hid (∀ w, Calls Try.prog 11 #[.string s] w fun e w' => CellsNil w e w') := fun w => s_PlainCells_no s w (by omega) hv
      clear hv
      go_wp2_with fail
      refine (HI.out _).mono ?_
      rintro e w2 ⟨rfl, hb2⟩
      have hB2 := below_next hb1 hb2
      go_wp2_with fail
      refine (HS.out _).mono ?_
      rintro e w3 ⟨rfl, hb3⟩
      have hB3 := below_next hB2 hb3
      go_wp2_with fail
      refine (equalInts_same4 _ _ _ [] (IntsAt.nil _) (IntsAt.nil _)).mono ?_
      rintro e w4 ⟨rfl, hb4⟩
      have hB4 := below_next hB3 hb4
      go_wp2_with fail
      refine (i_ValidText_v s false _ (by omega) HB).mono ?_
      rintro e w5 ⟨rfl, hb5⟩
      have hB5 := below_next hB4 hb5
      go_wp2_with fail
      refine (HS.out _).mono ?_
      rintro e w6 ⟨rfl, hb6⟩
      have hB6 := below_next hB5 hb6
      go_wp2_with fail
      refine (equalInts_same4 _ _ _ [] (IntsAt.nil _) (IntsAt.nil _)).mono ?_
      rintro e w7 ⟨rfl, hb7⟩
      go_wp2
      go_ret
      exact ⟨rfl, below_next hB6 hb7⟩
  · have hbig' : 1048576 < len := by omega
    go_enter Try.func6, Try.ntmps6
    go_wp2
    go_ret
    exact ⟨rfl, Below.refl _ _⟩
end Go.Proofs.Ytabmeakjbhiklaa
