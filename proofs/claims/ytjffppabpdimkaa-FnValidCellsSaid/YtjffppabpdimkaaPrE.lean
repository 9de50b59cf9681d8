/- FnValidCells: its walk. -/
import Derived.Test.YtjffppabpdimkaaPrD
import Derived.Test.YtjffppabpdimkaaVal
import Derived.Deep.RegionHeld3
namespace Go.Proofs.Ytjffppabpdimkaa
open Go.RowKit

theorem i_ValidCells_v (w : World) (u : Value) (zs : List Int) (b : Bool) (hx : IntsAt w u zs) (hb : Hid (decide (ValidL zs) = b)) :
    Calls Try.prog 16 #[u] w fun e w' => e = .returned (.bool b) ∧ w = w' := by
  have := i_ValidCells w u zs hx
  rw [hb.out] at this
  exact this
theorem s_ValidCells_v (w : World) (u : Value) (zs : List Int) (b : Bool) (hx : IntsAt w u zs) (hb : Hid (decide (ValidL zs) = b)) :
    Calls Try.prog 17 #[u] w fun e w' => e = .returned (.bool b) ∧ w = w' := by
  have := s_ValidCells w u zs hx
  rw [hb.out] at this
  exact this
theorem valid_take {zs : List Int} (h : ValidL zs) (k : Nat) : decide (ValidL (zs.take k)) = true :=
  decide_eq_true ⟨by have := h.1; simp; omega, fun z hz => h.2 z (List.mem_of_mem_take hz)⟩
theorem IntsAt.cut {w : World} {a : Option Addr} {n c k : Nat} {zs : List Int} (h : IntsAt w (.slice a n c) zs) (hk : k ≤ n) (hn : Hid (zs.length = n)) : IntsAt w (.slice a k c) (zs.take k) := by
  obtain ⟨a', c', hs, h1, h2, h3⟩ := h
  injection hs with e1 e2 e3
  subst e1 e3
  have hl : (zs.take k).length = k := by have := hn.out; simp; omega
  refine ⟨a, c, by rw [hl], by omega, h2, ?_⟩
  rcases h3 with rfl | ⟨g, off, h3, h4⟩
  · exact .inl (by simp)
  · refine .inr ⟨g, off, h3, fun i hi => ?_⟩
    rw [h4 i (by have := hn.out; omega), List.getD_eq_getElem?_getD, List.getD_eq_getElem?_getD, List.getElem?_take, if_pos (by omega)]

set_option maxHeartbeats 2000000 in
theorem validCells_walk (a : Option Addr) (len cap : Nat) (zs : List Int) (w : World) (h : RowIn .u8 w a len cap zs) :
    Calls Try.prog 3 #[.slice a len cap] w fun e w' => e = .returned (.bool true) ∧ Below w.heap.size w w' := by
  have hlen : len ≤ 9223372036854775807 := by
    obtain ⟨_, h2, h3⟩ := bytesAt_of_row h; unfold maxLen at h3; omega
  by_cases hbig : len ≤ 1048576
  · go_enter Try.func3, Try.ntmps3
    go_wp2_with fail
    refine (drawValidCells_any w a len cap zs h).mono ?_
    rintro e w1 ⟨a1, n, c1, xs, rfl, hx, hn, hbt, hn7, hb1⟩
    clear h
    obtain ⟨b, hb⟩ : ∃ b, decide (ValidL xs) = b := ⟨_, rfl⟩
    have HB := Lib.hid hb
    go_wp2_with fail
    refine (i_ValidCells_v _ _ xs b hx HB).mono ?_
    rintro e w' ⟨rfl, rfl⟩
    go_wp2_with fail
    refine (s_ValidCells_v _ _ xs b hx HB).mono ?_
    rintro e w' ⟨rfl, rfl⟩
    cases b with
    | false =>
      clear hb
      go_wp2_with fail
      refine (s_ValidCells_v _ _ xs false hx HB).mono ?_
      rintro e w' ⟨rfl, rfl⟩
      go_wp2
      go_ret
      exact ⟨rfl, hb1⟩
    | true =>
      have hv : ValidL xs := of_decide_eq_true hb
      have hn200 : n ≤ 200 := by have := hv.1; have := hn.out; omega
      have HV : Hid (ValidL xs) := hv
      obtain ⟨_, c1', hs1, hc1, hc2, _⟩ := id hx
      have hnc : n ≤ c1 := by injection hs1; have := hn.out; omega
      have hcc : c1 ≤ 9223372036854775807 := by injection hs1; omega
      clear hb hv hs1 hc1 hc2
      go_wp2_with fail
      go_loopw [5] (fun i wr => ∃ k : Nat, k ≤ n ∧ i = .int .i64 k ∧ Below w1.heap.size w1 wr) (fun i _ => n - (intOf i).toNat)
      case atStart => exact ⟨0, Nat.zero_le _, rfl, Below.refl _ _⟩
      case round =>
        obtain ⟨k, hk, rfl, hbr⟩ := hrel
        by_cases hlt : k < n
        · have hxr := hx.below hbr
          obtain ⟨_, _, hs, _, _, h3⟩ := id hxr
          rcases h3 with rfl | ⟨g, off, h3, h4⟩
          · exact absurd hn.out (by simp; omega)
          have hA : a1 = some ⟨g, off, none⟩ := by injection hs with e1; rw [e1, h3]
          have hcell := h4 k (by have := hn.out; omega)
          obtain ⟨z, hz⟩ : ∃ z, xs.getD k 0 = z := ⟨_, rfl⟩
          rw [hz] at hcell
          have hzm : z ∈ xs := by subst hz; exact getD_mem (by have := hn.out; omega)
          obtain ⟨hz0, hz1⟩ := HV.out.2 z hzm
          obtain ⟨m, rfl⟩ : ∃ m : Nat, z = m := ⟨z.toNat, by omega⟩
          have hm : m < 64 := by omega
          have F1 := Lib.hid (dots_facts m hm).1
          have HT := Lib.hid (valid_take HV.out k)
          have hxk : IntsAt wr (.slice a1 k c1) (xs.take k) := hxr.cut (by omega) hn
          subst hA
          have HX : Hid (IntsAt wr (.slice (some ⟨g, off, none⟩) k c1) (xs.take k)) := hxk
          have HB1 : Hid (Below wr.heap.size wr wr) := Below.refl _ _
          clear hs h3 h4 hz hzm hxk hxr hz0 hz1
          have b1 : (0 : Int) ≤ (k : Int) := by omega
          have b2 : (k : Int) ≤ (c1 : Int) := by omega
          have b3 : (k : Int) < (n : Int) := by omega
          go_wp2_with fail
          go_region_held3 (fun w' => w'.cell? ⟨g, off + k, none⟩ = some (.int .i64 (m : Int)) ∧ Below wr.heap.size wr w') (first | assumption | exact ⟨hcell, (Below.refl _ _).drew⟩ | exact ⟨((Below.drew (Below.refl _ _)).trans hb2).cell (p := ⟨g, off + k, none⟩) (World.block_lt_of_cell? wr _ hcell) |>.trans hcell, (Below.drew (Below.refl _ _)).trans hb2⟩) (first | (go_at_call 16; refine (i_ValidCells_v wr.drew _ (xs.take k) true (HX.out.below (Below.drew (Below.refl _ _))) HT).mono ?_; rintro e w' ⟨rfl, rfl⟩) | (go_at_call 19; refine (i_DotsOf_out m wr.drew hm).mono ?_; rintro e w2 ⟨v2, rfl, hv2, hb2, a2, n2, c2, rfl⟩) | (go_at_call 18; refine (i_cellOf_v _ _ _ m hv2 F1).mono ?_; rintro e w' ⟨rfl, rfl⟩))
          go_wp2
          go_roundw
          case rel => exact ⟨k + 1, by omega, by go_num, below_next hbr ((Below.drew (Below.refl _ _)).trans hb2)⟩
          case measure => simp [intOf]; omega
        · have b4 : decide ((n : Int) ≤ 200) = true := decide_eq_true (by omega)
          go_wp2
          go_ret
          exact ⟨rfl, below_next hb1 hbr⟩
  · have hbig' : 1048576 < len := by omega
    go_enter Try.func3, Try.ntmps3
    go_wp2
    go_ret
    exact ⟨rfl, Below.refl _ _⟩
end Go.Proofs.Ytjffppabpdimkaa
