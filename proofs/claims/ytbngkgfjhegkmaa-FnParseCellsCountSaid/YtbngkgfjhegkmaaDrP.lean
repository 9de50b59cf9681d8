
/- The draw of a text of cells. -/
import Derived.Test.YtbngkgfjhegkmaaDrS
import Derived.Test.YtbngkgfjhegkmaaTxtB
import Derived.Test.YtbngkgfjhegkmaaParS
import Derived.Deep.RegionHeld3
namespace Go.Proofs.Ytbngkgfjhegkmaa
open Go.RowKit

set_option maxHeartbeats 2000000 in
theorem s_showCells (w : World) (u : Value) (zs : List Int) (hx : IntsAt w u zs) (hv : ValidL zs) :
    Calls Try.prog 26 #[u] w fun e w' => TextOut (fmtUp zs zs.length) w e w' := by
  obtain ⟨a, c, hu, x1, x2, x3⟩ := id hx
  · have hlen := fmtUp_len zs hv.2
    have hn200 := hv.1
    obtain ⟨_, hcells⟩ := hv
    obtain ⟨n, hn⟩ : ∃ n, zs.length = n := ⟨_, rfl⟩
    rw [hn] at x1 x3 hlen hn200 hu ⊢
    have HN := Lib.hid hn
    subst hu
    clear hn
    go_enter Try.func26, Try.ntmps26
    clear hx
    go_wp2
    go_loopw [3, 4] (fun v i wr => ∃ k : Nat, k ≤ n ∧ i = .int .i64 k ∧ v = .string (bs (fmtUp zs k)) ∧ Below w.heap.size w wr) (fun _ i _ => n - (intOf i).toNat)
    case atStart => exact ⟨0, Nat.zero_le _, rfl, rfl, Below.refl _ _⟩
    case round =>
      obtain ⟨k, hk, rfl, rfl, hb⟩ := hrel
      by_cases hlt : k < n
      · rcases x3 with rfl | ⟨g, off, rfl, h4⟩
        · exact absurd HN.out (by simp; omega)
        have cx := (hb.cell (World.block_lt_of_cell? w _ (h4 k hlt))).trans (h4 k hlt)
        obtain ⟨y, hy⟩ : ∃ y, zs.getD k 0 = y := ⟨_, rfl⟩
        have hym := hcells y (by rw [← hy, List.getD_eq_getElem?_getD, List.getElem?_eq_getElem (by have := HN.out; omega), Option.getD_some]; exact List.getElem_mem _)
        obtain ⟨hy0, hy64⟩ := hym
        obtain ⟨m, rfl⟩ : ∃ m : Nat, y = m := ⟨y.toNat, by omega⟩
        have hm : m < 64 := by omega
        have hS : Hid (fmtUp zs (k + 1) = fmtUp zs k ++ (if k = 0 then [] else [45]) ++ cellT m) := by show fmtUp zs (k + 1) = _; rw [fmtUp, hy]; rfl
        rw [hy] at cx
        have hll := hlen k hk
        obtain ⟨hc1, hc6⟩ := cellT_len m hm
        obtain ⟨l, hl⟩ : ∃ l, fmtUp zs k = l := ⟨_, rfl⟩
        rw [hl] at hS hll ⊢
        have hz : (bs l).size ≤ 1400 := by rw [bs_size]; omega
        have hz2 : (bs (cellT m)).size ≤ 6 := by rw [bs_size]; exact hc6
        have hz3 : (bs l ++ bs [45]).size ≤ 1401 := by rw [bs_append, bs_size]; simp; omega
        clear hy h4 hl hlen hcells
        by_cases hk0 : k = 0
        · have hS2 : Hid (fmtUp zs (k + 1) = l ++ cellT m) := by show fmtUp zs (k + 1) = _; rw [hS.out, if_pos hk0]; simp
          have hk1 : (k : Int) < 1 := by omega
          clear hk0 hS
          go_wp2_with fail
          refine (s_showDots m _ hm).mono ?_
          rintro e w2 ⟨rfl, hb2⟩
          go_wp2
          go_roundw
          case rel => exact ⟨k + 1, by omega, by go_num, by rw [hS2.out, ← bs_append], hb.trans (hb2.mono hb.size)⟩
          case measure => simp [intOf]; omega
        · have hkp : (0 : Int) < (k : Int) := by omega
          have hS2 : Hid (fmtUp zs (k + 1) = l ++ [45] ++ cellT m) := by show fmtUp zs (k + 1) = _; rw [hS.out, if_neg hk0]
          have hq : (⟨#[45]⟩ : ByteArray) = bs [45] := rfl
          have hz4 : (bs [45]).size ≤ 1 := Nat.le_of_eq (bs_size _)
          clear hS hk0
          go_wp2_with fail
          refine (s_showDots m _ hm).mono ?_
          rintro e w2 ⟨rfl, hb2⟩
          go_wp2
          go_roundw
          case rel => exact ⟨k + 1, by omega, by go_num, by rw [hS2.out, ← bs_append, ← bs_append], hb.trans (hb2.mono hb.size)⟩
          case measure => simp [intOf]; omega
      · obtain rfl : k = n := by omega
        go_wp2
        go_ret
        exact ⟨rfl, hb⟩
end Go.Proofs.Ytbngkgfjhegkmaa
