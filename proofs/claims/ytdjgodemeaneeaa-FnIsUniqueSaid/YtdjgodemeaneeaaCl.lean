
/- The first rests of a code, in the model. -/
import Derived.Test.YtdjgodemeaneeaaCk
import Derived.Deep.RegionHeld3
namespace Go.Proofs.Ytdjgodemeaneeaa
open Go.RowKit

/-- a slice of a row's blocks keeps: what an element of the row reads as -/
theorem listOf {w : World} {v : Value} {L : List (List Int)} (h : ListsAt w v L) : ∃ a c, v = .slice a L.length c := by
  obtain ⟨a, c, h, _⟩ := h
  exact ⟨a, c, h⟩
def LsMade (R : List (List Int)) (w : World) (e : Ending) (w' : World) : Prop := ∃ v, e = .returned v ∧ OwnLs w' w.heap.size 0 v R ∧ Below w.heap.size w w' ∧ ∃ a n c, v = .slice a n c
set_option maxHeartbeats 4000000 in
theorem s_firstLeft (w : World) (v : Value) (L : List (List Int)) (hx : ListsAt w v L) (hv : Hid (ValidCd L)) :
    Calls Try.prog 95 #[v] w fun e w' => LsMade (putAll L L.length) w e w' := by
  have HX := Lib.hid hx
  obtain ⟨a, c, rfl, x1, x2, _⟩ := hx
  obtain ⟨n, hn⟩ : ∃ n, L.length = n := ⟨_, rfl⟩
  rw [hn] at x1 HX ⊢
  have HN := Lib.hid hn
  have hn8 : n ≤ 8 := by have := hv.out.1; omega
  clear hn
  have hO0 := OwnLs.made w w.heap.size 0 (Nat.zero_le _) (Nat.le_refl _)
  have hB0 : Below w.heap.size w (w.alloc (.cells #[] 31)) := (Below.refl _ _).alloc (Nat.le_refl _) _
  go_enter Try.func95, Try.ntmps95
  go_wp2_with fail
  generalize (w.alloc (.cells #[] 31)) = wA at hO0 hB0 ⊢
  go_loopw [3, 4] (fun o x wr => ∃ i : Nat, i ≤ n ∧ x = .int .i64 i ∧ OwnLs wr w.heap.size 0 o (putAll L i) ∧ Below w.heap.size w wr) (fun _ x _ => n - (intOf x).toNat)
  case atStart => exact ⟨0, Nat.zero_le _, rfl, hO0, hB0⟩
  case round =>
    clear hO0 hB0
    obtain ⟨i, hi, rfl, hO, hB⟩ := hrel
    obtain ⟨ao, no, co, hoo⟩ := hO.isSlice
    subst hoo
    by_cases hlt : i < n
    · obtain ⟨R, hR⟩ : ∃ R, putAll L i = R := ⟨_, rfl⟩
      have hR64 := putAll_len L i
      rw [hR] at hO hR64
      have HRR := Lib.hid hR
      have hR56 : R.length ≤ 56 := by
        rw [HN.out] at hR64
        have : i * n ≤ 7 * 8 := Nat.mul_le_mul (by omega) hn8
        omega
      obtain ⟨xs, hxs⟩ : ∃ xs, L.getD i [] = xs := ⟨_, rfl⟩
      have HXS := Lib.hid hxs
      have hwx : CodeW (L.getD i []) := hv.out.2.1 i (by rw [HN.out]; exact hlt)
      rw [hxs] at hwx
      have hxl := hwx.1
      clear hR hR64 hxs hwx
      have HO := keptC hO
      have HB := keptC hB
      clear hO hB
      go_wp2_with fail
      go_loopw [3, 5] (fun o x wx => ∃ k : Nat, k ≤ n ∧ x = .int .i64 k ∧ OwnLs wx w.heap.size 0 o (putRow L xs R k) ∧ Below w.heap.size w wx) (fun _ x _ => n - (intOf x).toNat)
      case atStart => exact ⟨0, Nat.zero_le _, rfl, HO.out, HB.out⟩
      case round =>
        clear HO HB
        obtain ⟨k, hk, rfl, hO, hB⟩ := hrel
        obtain ⟨ao, no, co, hoo⟩ := hO.isSlice
        subst hoo
        by_cases hlt2 : k < n
        · obtain ⟨g, off, u, rfl, c1, hu⟩ := (HX.out.below hB).someNth hlt
          obtain ⟨g2, off2, u2, e2, c2, hu2⟩ := (HX.out.below hB).someNth hlt2
          injection e2 with e2
          injection e2 with e3 e4 _
          subst e3 e4
          rw [HXS.out] at hu
          obtain ⟨ys, hys⟩ : ∃ ys, L.getD k [] = ys := ⟨_, rfl⟩
          rw [hys] at hu2
          have HYS := Lib.hid hys
          have hput : Hid (putRow L xs R (k + 1) = putL (putRow L xs R k) xs ys) := by
            show putL _ _ _ = _
            rw [hys]
          obtain ⟨Q, hQ⟩ : ∃ Q, putRow L xs R k = Q := ⟨_, rfl⟩
          have hQl := putRow_len L xs R k
          rw [hQ] at hO hput hQl
          clear hys hQ
          have HU : Hid (IntsAt wr.drew u xs) := (show IntsAt wr u xs from hu)
          have HU2 : Hid (IntsAt wr.drew u2 ys) := (show IntsAt wr u2 ys from hu2)
          obtain ⟨a3, c3, rfl, _, _, _⟩ := hu
          obtain ⟨a4, c4, rfl, _, _, _⟩ := hu2
          obtain ⟨lx, hlx⟩ : ∃ l, xs.length = l := ⟨_, rfl⟩
          obtain ⟨ly, hly⟩ : ∃ l, ys.length = l := ⟨_, rfl⟩
          rw [hlx] at c1 HU hxl
          rw [hly] at c2 HU2
          have HLX := Lib.hid hlx
          have HLY := Lib.hid hly
          clear hlx hly
          have HK : Hid (∀ wy, Below wr.heap.size wr wy → wy.cell? ⟨g, off + i, none⟩ = some (.slice a3 lx c3) ∧ wy.cell? ⟨g, off + k, none⟩ = some (.slice a4 ly c4)) := fun wy h =>
            ⟨(h.cell (World.block_lt_of_cell? wr _ c1)).trans c1, (h.cell (World.block_lt_of_cell? wr _ c2)).trans c2⟩
          have HO := keptC hO
          have HB := keptC hB
          have hszr := hB.size
          have b1 : (0 : Int) ≤ (i : Int) := by omega
          have b2 : (0 : Int) ≤ (k : Int) := by omega
          have b3 : (i : Int) < (n : Int) := by omega
          have b4 : (k : Int) < (n : Int) := by omega
          clear hO hB
          by_cases hp : Pre xs ys
          · have HP := keptC hp
            clear hp
            go_wp2_with fail
            go_region_held3 (fun wy => wy.cell? ⟨g, off + i, none⟩ = some (.slice a3 lx c3) ∧ wy.cell? ⟨g, off + k, none⟩ = some (.slice a4 ly c4)) (first | assumption | exact HK.out _ (Below.refl _ _).drew | exact HK.out _ ((Below.refl _ _).drew.trans hb5)) (first | (go_at_call 109; refine (s_rests_yes wr.drew _ _ xs ys HU.out HU2.out (by rw [HLX.out]; omega) HP).mono ?_; rintro e w5 ⟨a5, z5, c5, rfl, hO5, hb5⟩))
            all_goals
              have hb6 := (Below.refl wr.heap.size wr).drew.trans hb5
              have HI5 := keptC hO5.at
              have HE5 := keptC hO5
              have HO5 := keptC (HO.out.below hb6)
              have HB5 := keptC (below_next HB.out hb6)
              clear hb5 hb6 hO5
              by_cases hin : xs.drop ys.length ∈ Q
              · have HH : Hid (decide (xs.drop ys.length ∈ Q) = true) := decide_eq_true hin
                rw [putL_old hin] at hput
                clear hin
                go_wp2_with fail
                refine (s_hasList_b w5 _ _ Q (xs.drop ys.length) true HO5.out.at HI5.out HH).mono ?_
                rintro e w6 ⟨rfl, hb6⟩
                have HO6 := keptC (HO5.out.below hb6)
                have HB6 := keptC (below_next HB5.out hb6)
                clear hb6
                go_wp2
                go_roundw
                case rel => exact ⟨k + 1, by omega, by go_num, by rw [hput.out]; exact HO6.out, HB6.out⟩
                case measure => simp [intOf]; omega
              · have HH : Hid (decide (xs.drop ys.length ∈ Q) = false) := decide_eq_false hin
                rw [putL_new HP.out hin] at hput
                clear hin
                go_wp2_with fail
                refine (s_hasList_b w5 _ _ Q (xs.drop ys.length) false HO5.out.at HI5.out HH).mono ?_
                rintro e w6 ⟨rfl, hb6⟩
                have hB6 := below_next HB5.out hb6
                have hal : Below w6.heap.size w6 (w6.alloc (.cells #[.slice a5 z5 c5] 31)) := (Below.refl _ _).alloc (Nat.le_refl _) _
                have HO8 := keptC ((HO5.out.below hb6).below hal)
                have HE8 : Hid (ElOk (w6.alloc (.cells #[.slice a5 z5 c5] 31)) 0 (.slice a5 z5 c5) (xs.drop ys.length)) := ElOk.of_own ((HE5.out.below hb6).below hal)
                have HC8 : Hid ((w6.alloc (.cells #[.slice a5 z5 c5] 31)).cell? ⟨w6.heap.size, 0, none⟩ = some (.slice a5 z5 c5)) := by
                  show _ = _
                  rw [cell_of_row _ w6.heap.size 0 _ _ _ (heap_alloc_new w6 _)]; rfl
                have HS8 : Hid (Q.length ≤ 100000 ∧ w.heap.size ≤ (w6.alloc (.cells #[.slice a5 z5 c5] 31)).heap.size) := ⟨by omega, Nat.le_trans hB6.size hal.size⟩
                have hsz6 := hB6.size
                have HO6 := keptC (HO5.out.below hb6)
                have HB6 := keptC hB6
                clear hb6 hal hB6
                go_wp2_with (at_builtin; go_loud (refine wpList_append_ls rfl _ _ rfl w.heap.size 0 w6.heap.size (xs.drop ys.length) rfl rfl HO8.out HC8.out HE8.out rfl HS8.out.1 HS8.out.2 ?_))
                intro v' w7 hown' hgrow
                have HO7 := keptC hown'
                have HB7 := keptC (grown_ls HB6.out hsz6 HO6.out hgrow)
                clear hown' hgrow
                go_wp2
                go_roundw
                case rel => exact ⟨k + 1, by omega, by go_num, by rw [hput.out]; exact HO7.out, HB7.out⟩
                case measure => simp [intOf]; omega
          · have HP := keptC hp
            clear hp
            rw [putL_no HP.out] at hput
            go_wp2_with fail
            go_region_held3 (fun wy => wy.cell? ⟨g, off + i, none⟩ = some (.slice a3 lx c3) ∧ wy.cell? ⟨g, off + k, none⟩ = some (.slice a4 ly c4)) (first | assumption | exact HK.out _ (Below.refl _ _).drew | exact HK.out _ ((Below.refl _ _).drew.trans hb5)) (first | (go_at_call 109; refine (s_rests_no wr.drew _ _ xs ys HU.out HU2.out HP).mono ?_; rintro e w5 ⟨rfl, hb5⟩))
            all_goals
              have hb6 := (Below.refl wr.heap.size wr).drew.trans hb5
              have HO5 := keptC (HO.out.below hb6)
              have HB5 := keptC (below_next HB.out hb6)
              clear hb5 hb6
              go_wp2
              go_roundw
              case rel => exact ⟨k + 1, by omega, by go_num, by rw [hput.out]; exact HO5.out, HB5.out⟩
              case measure => simp [intOf]; omega
        · obtain rfl : k = n := by omega
          have hst : Hid (putAll L (i + 1) = putRow L xs R k) := by
            show putRow L (L.getD i []) (putAll L i) L.length = _
            rw [HXS.out, HRR.out, HN.out]
          have HO := keptC hO
          have HB := keptC hB
          clear hO hB
          go_wp2
          go_roundw
          case rel => exact ⟨i + 1, by omega, by go_num, by rw [hst.out]; exact HO.out, HB.out⟩
          case measure => simp [intOf]; omega
    · obtain rfl : i = n := by omega
      have HO := keptC hO
      have HB := keptC hB
      clear hO hB
      go_wp2
      go_ret
      exact ⟨_, rfl, HO.out, HB.out, _, _, _, rfl⟩
end Go.Proofs.Ytdjgodemeaneeaa
