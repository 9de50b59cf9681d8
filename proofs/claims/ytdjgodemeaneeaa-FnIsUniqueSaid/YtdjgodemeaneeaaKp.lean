
/- P43: unique codes are read in one way. -/
import Derived.Test.YtdjgodemeaneeaaKk
import Derived.Test.YtdjgodemeaneeaaKd
import Derived.Test.YtdjgodemeaneeaaCh
import Derived.Deep.RegionHeld3
namespace Go.Proofs.Ytdjgodemeaneeaa
open Go.RowKit

set_option maxHeartbeats 1000000 in
theorem join_el (w : World) (eb : Nat) (u v : Value) (xs ys : List Int) (hx : ElOk w eb u xs) (hy : ElOk w eb v ys) (hl : xs.length + ys.length ≤ 1000) :
    Calls Try.prog 32 #[u, v] w fun e w' => ∃ a n c, e = .returned (.slice a n c) ∧ OwnInts w' w.heap.size (.slice a n c) (xs ++ ys) ∧ Below w.heap.size w w' := by
  obtain ⟨a1, c1, hu, _⟩ := id hx.1
  obtain ⟨a2, c2, hv, _⟩ := id hy.1
  obtain ⟨n1, hn1⟩ : ∃ n, xs.length = n := ⟨_, rfl⟩
  obtain ⟨n2, hn2⟩ : ∃ n, ys.length = n := ⟨_, rfl⟩
  rw [hn1] at hu
  rw [hn2] at hv
  subst hu hv
  have HN : Hid (xs.length + ys.length ≤ 1000) := hl
  have hO0 : OwnInts (w.alloc (.cells #[] 3)) w.heap.size (.slice (some ⟨w.heap.size, 0, none⟩) 0 0) [] := OwnInts.made w w.heap.size (Nat.le_refl _)
  have hB0 : Below w.heap.size w (w.alloc (.cells #[] 3)) := (Below.refl _ _).alloc (Nat.le_refl _) _
  have HX := keptC (hx.below hB0)
  have HY := keptC hy
  have HO := keptC hO0
  have HB := keptC hB0
  clear hO0 hB0 hx hy hn1 hn2 hl
  go_enter Try.func32, Try.ntmps32
  go_wp2_with (at_builtin; go_loud (refine wpList_append_el rfl _ _ rfl w.heap.size eb (xs := []) (ys := xs) rfl rfl HO.out HX.out (by have := HN.out; simp; omega) HB.out.size ?_))
  intro v1 w1 hown1 hgrow1 _
  have hB1 : Below w.heap.size w w1 := HB.out.grown hgrow1 HB.out.size (fun k hk => (HO.out.lt k hk).1)
  obtain ⟨a3, c3, hv1, _⟩ := id hown1.at
  obtain ⟨n3, hn3⟩ : ∃ n, xs.length = n := ⟨_, rfl⟩
  rw [hn3] at hv1
  subst hv1
  have HO1 := keptC hown1
  have HB1 := keptC hB1
  have HY1 := keptC (HY.out.below hB1)
  clear hown1 hgrow1 hB1 hn3
  go_wp2_with (at_builtin; go_loud (refine wpList_append_el rfl _ _ rfl w.heap.size eb (xs := xs) (ys := ys) rfl rfl HO1.out HY1.out (by have := HN.out; omega) HB1.out.size ?_))
  intro v2 w2 hown2 hgrow2 _
  have hB2 : Below w.heap.size w w2 := HB1.out.grown hgrow2 HB1.out.size (fun k hk => (HO1.out.lt k hk).1)
  obtain ⟨a4, c4, hv2, _⟩ := id hown2.at
  obtain ⟨n4, hn4⟩ : ∃ n, (xs ++ ys).length = n := ⟨_, rfl⟩
  rw [hn4] at hv2
  subst hv2
  have HO2 := keptC hown2
  have HB2 := keptC hB2
  clear hown2 hgrow2 hB2 hn4
  go_wp2
  go_ret
  exact ⟨_, _, _, rfl, HO2.out, HB2.out⟩
theorem word_valid {L : List (List Int)} (hv : ValidCd L) {i : Nat} (hi : i < L.length) : (L.getD i []).length ≤ 4 ∧ ∀ z ∈ L.getD i [], 0 ≤ z ∧ z < 64 := ⟨(hv.2.1 i hi).1.2, (hv.2.1 i hi).2⟩
theorem cnt_uniq {L : List (List Int)} (hv : ValidCd L) (hu : Uniq L) {zs : List Int} (h : Rd L zs) : cnt L zs = 1 := by
  have h1 := cnt_of_rd hv h
  have h2 := cnt_one hv hu zs.length zs (Nat.le_refl _)
  omega
theorem fc_uniq {L : List (List Int)} (hv : ValidCd L) (hu : Uniq L) {zs : List Int} (h : Rd L zs) (hl : zs.length ≤ 24) (hz : ∀ z ∈ zs, 0 ≤ z ∧ z < 64) : fcOf L zs true = 1 := by
  have e : fcOf L zs true = fc L zs := if_pos ⟨rfl, ⟨by omega, hz⟩, hl⟩
  rw [e, fc_cnt hv hl, cnt_uniq hv hu h]; rfl
set_option maxRecDepth 20000 in
set_option maxHeartbeats 4000000 in
theorem isUnique_walk (a : Option Addr) (len cap : Nat) (zs : List Int) (w : World) (h : RowIn .u8 w a len cap zs) :
    Calls Try.prog 8 #[.slice a len cap] w fun e w' => e = .returned (.bool true) ∧ Below w.heap.size w w' := by
  have hlen : len ≤ 9223372036854775807 := by
    obtain ⟨_, h2, h3⟩ := bytesAt_of_row h; unfold maxLen at h3; omega
  by_cases hbig : len ≤ 1048576
  · go_enter Try.func8, Try.ntmps8
    go_wp2_with fail
    refine (drawIsUnique_any w a len cap zs h).mono ?_
    rintro e w1 ⟨S, a1, n1, c1, P, rfl, hO, hP, hL3, hb1⟩
    clear h
    have HX1 := keptC hO
    have HB1 := keptC hb1
    have HPN : Hid (P.length = n1) := by
      obtain ⟨_, _, e⟩ := listOf hO.at
      injection e with _ e2 _
      exact e2.symm
    have hn9 : n1 ≤ 9 := by have := HPN.out; omega
    clear hO hb1 hP hL3
    obtain ⟨b, hb⟩ := ValidCd.b P
    obtain ⟨u, hu⟩ := Uniq.b P
    have HB := keptC hb
    have HU := keptC hu
    clear hb hu
    obtain ⟨q, hq⟩ : ∃ q, (b && u) = q := ⟨_, rfl⟩
    have HI : Hid (∀ wx v, ListsAt wx v P → Calls Try.prog 29 #[v] wx fun e w' => e = .returned (.bool q) ∧ Below wx.heap.size wx w') := fun wx v h => by rw [← hq]; exact i_IsUnique wx v P b u h HB HU
    have HS : Hid (∀ wx v, ListsAt wx v P → Calls Try.prog 30 #[v] wx fun e w' => e = .returned (.bool q) ∧ Below wx.heap.size wx w') := fun wx v h => by rw [← hq]; exact s_IsUnique wx v P b u h HB HU
    have HQ := keptC hq
    clear hq
    go_wp2_with fail
    refine (HI.out w1 _ HX1.out.at).mono ?_
    rintro e w2 ⟨rfl, hb2⟩
    have HX2 := keptC (HX1.out.below hb2)
    have HB2 := keptC (below_next HB1.out hb2)
    clear hb2
    go_wp2_with fail
    refine (HS.out w2 _ HX2.out.at).mono ?_
    rintro e w3 ⟨rfl, hb3⟩
    have HX3 := keptC (HX2.out.below hb3)
    have HB3 := keptC (below_next HB2.out hb3)
    clear hb3
    cases q with
    | false =>
      go_wp2_with fail
      refine (HS.out w3 _ HX3.out.at).mono ?_
      rintro e w5 ⟨rfl, hb5⟩
      have FIN := keptC (below_next HB3.out hb5)
      clear hb5
      go_wp2
      go_ret
      exact ⟨rfl, FIN.out⟩
    | true =>
      have hbu : b = true ∧ u = true := by have := HQ.out; simpa using this
      have HVV : Hid (ValidCd P) := HB.out.1 hbu.1
      have HUU : Hid (Uniq P) := HU.out.1 hbu.2
      clear HB HU HI HS HQ hbu
      go_wp2_with fail
      go_loopw [5] (fun y wr => ∃ i : Nat, i ≤ n1 ∧ y = .int .i64 i ∧ Below w3.heap.size w3 wr) (fun y _ => n1 - (intOf y).toNat)
      case atStart => exact ⟨0, Nat.zero_le _, rfl, Below.refl _ _⟩
      case round =>
        obtain ⟨i, hi, rfl, hbr⟩ := hrel
        by_cases hlt : i < n1
        · have HB1 := keptC hbr
          clear hbr
          go_wp2_with fail
          go_loopw [6] (fun y wx => ∃ k : Nat, k ≤ n1 ∧ y = .int .i64 k ∧ Below w3.heap.size w3 wx) (fun y _ => n1 - (intOf y).toNat)
          case atStart => exact ⟨0, Nat.zero_le _, rfl, HB1.out⟩
          case round =>
            clear HB1
            obtain ⟨k, hk, rfl, hbr⟩ := hrel
            by_cases hlt2 : k < n1
            · have HB2 := keptC hbr
              clear hbr
              go_wp2_with fail
              go_loopw [7] (fun y wy => ∃ j : Nat, j ≤ n1 ∧ y = .int .i64 j ∧ Below w3.heap.size w3 wy) (fun y _ => n1 - (intOf y).toNat)
              case atStart => exact ⟨0, Nat.zero_le _, rfl, HB2.out⟩
              case round =>
                clear HB2
                obtain ⟨j, hj, rfl, hbr⟩ := hrel
                by_cases hlt3 : j < n1
                · have hO := HX3.out.below hbr
                  obtain ⟨g, ui, e1, ci, hEi, hx1⟩ := hO.nth hlt
                  obtain ⟨g', uk, e2, ck, hEk, hx2⟩ := hO.nth hlt2
                  obtain ⟨g'', uj, e3, cj, hEj, hx3⟩ := hO.nth hlt3
                  subst e1
                  injection e2 with e2
                  injection e2 with e2 _ _
                  injection e3 with e3
                  injection e3 with e3 _ _
                  subst e2 e3
                  clear hx1 hx2 hx3
                  have hvi := word_valid HVV.out (show i < P.length by rw [HPN.out]; exact hlt)
                  have hvk := word_valid HVV.out (show k < P.length by rw [HPN.out]; exact hlt2)
                  have hvj := word_valid HVV.out (show j < P.length by rw [HPN.out]; exact hlt3)
                  have rd2 : Rd P (P.getD i [] ++ P.getD k []) := by
                    have h := Rd.word (L := P) (k := i) (by rw [HPN.out]; exact hlt) (Rd.word (L := P) (k := k) (by rw [HPN.out]; exact hlt2) .nil)
                    rw [List.append_nil] at h; exact h
                  have rd3 : Rd P (P.getD i [] ++ P.getD k [] ++ P.getD j []) := by
                    have h := Rd.word (L := P) (k := i) (by rw [HPN.out]; exact hlt) (Rd.word (L := P) (k := k) (by rw [HPN.out]; exact hlt2) (Rd.word (L := P) (k := j) (by rw [HPN.out]; exact hlt3) .nil))
                    rw [List.append_nil, ← List.append_assoc] at h; exact h
                  obtain ⟨xi, hxi⟩ : ∃ x, P.getD i [] = x := ⟨_, rfl⟩
                  obtain ⟨xk, hxk⟩ : ∃ x, P.getD k [] = x := ⟨_, rfl⟩
                  obtain ⟨xj, hxj⟩ : ∃ x, P.getD j [] = x := ⟨_, rfl⟩
                  rw [hxi] at hEi hvi rd2 rd3
                  rw [hxk] at hEk hvk rd2 rd3
                  rw [hxj] at hEj hvj rd3
                  have fc2 := fc_uniq HVV.out HUU.out rd2 (by rw [List.length_append]; omega) (fun z hz => by
                    rcases List.mem_append.1 hz with h | h
                    · exact hvi.2 z h
                    · exact hvk.2 z h)
                  have fc3 := fc_uniq HVV.out HUU.out rd3 (by rw [List.length_append, List.length_append]; omega) (fun z hz => by
                    rcases List.mem_append.1 hz with h | h
                    · rcases List.mem_append.1 h with h | h
                      · exact hvi.2 z h
                      · exact hvk.2 z h
                    · exact hvj.2 z h)
                  obtain ⟨ai, cci, hui, _⟩ := id hEi.1
                  obtain ⟨ak, cck, huk, _⟩ := id hEk.1
                  obtain ⟨aj, ccj, huj, _⟩ := id hEj.1
                  obtain ⟨li, hli⟩ : ∃ l, xi.length = l := ⟨_, rfl⟩
                  obtain ⟨lk, hlk⟩ : ∃ l, xk.length = l := ⟨_, rfl⟩
                  obtain ⟨lj, hlj⟩ : ∃ l, xj.length = l := ⟨_, rfl⟩
                  rw [hli] at hui
                  rw [hlk] at huk
                  rw [hlj] at huj
                  subst hui huk huj
                  have HVB : Hid (true = true ↔ ValidCd P) := show _ ↔ _ from ⟨fun _ => HVV.out, fun _ => rfl⟩
                  have HJ : Hid (∀ wx, Below wr.heap.size wr wx → Calls Try.prog 32 #[.slice ai li cci, .slice ak lk cck] wx fun e w' => ∃ a n c, e = .returned (.slice a n c) ∧ OwnInts w' wx.heap.size (.slice a n c) (xi ++ xk) ∧ Below wx.heap.size wx w') := fun wx hb => join_el wx 0 _ _ xi xk (hEi.below hb) (hEk.below hb) (by omega)
                  have HJ3 : Hid (∀ wx a n c B, Below wr.heap.size wr wx → OwnInts wx B (.slice a n c) (xi ++ xk) → Calls Try.prog 32 #[.slice a n c, .slice aj lj ccj] wx fun e w' => ∃ a n c, e = .returned (.slice a n c) ∧ OwnInts w' wx.heap.size (.slice a n c) (xi ++ xk ++ xj) ∧ Below wx.heap.size wx w') := fun wx a n c B hb ho => join_el wx 0 _ _ (xi ++ xk) xj (ElOk.of_own ho) (hEj.below hb) (by rw [List.length_append]; omega)
                  have HF2 : Hid (∀ wx a n c B, Below wr.heap.size wr wx → OwnInts wx B (.slice a n c) (xi ++ xk) → Calls Try.prog 31 #[.slice (some ⟨g, 0, none⟩) n1 c1, .slice a n c] wx fun e w' => e = .returned (.int .i64 1) ∧ Below wx.heap.size wx w') := fun wx a n c B hb ho => by
                    have := i_FactorCount_any wx _ _ P (xi ++ xk) true (hO.below hb).at ho.at HVB
                    rw [fc2] at this; exact this
                  have HF3 : Hid (∀ wx a n c B, Below wr.heap.size wr wx → OwnInts wx B (.slice a n c) (xi ++ xk ++ xj) → Calls Try.prog 31 #[.slice (some ⟨g, 0, none⟩) n1 c1, .slice a n c] wx fun e w' => e = .returned (.int .i64 1) ∧ Below wx.heap.size wx w') := fun wx a n c B hb ho => by
                    have := i_FactorCount_any wx _ _ P (xi ++ xk ++ xj) true (hO.below hb).at ho.at HVB
                    rw [fc3] at this; exact this
                  have HK : Hid (∀ wy, Below wr.heap.size wr wy → wy.cell? ⟨g, i, none⟩ = some (.slice ai li cci) ∧ wy.cell? ⟨g, k, none⟩ = some (.slice ak lk cck) ∧ wy.cell? ⟨g, j, none⟩ = some (.slice aj lj ccj)) := fun wy h => ⟨(h.cell (World.block_lt_of_cell? wr _ ci)).trans ci, (h.cell (World.block_lt_of_cell? wr _ ck)).trans ck, (h.cell (World.block_lt_of_cell? wr _ cj)).trans cj⟩
                  have HBR := keptC hbr
                  have HD : Hid (Below wr.heap.size wr wr.drew) := keptC (Below.refl _ _).drew
                  have b1 : (0 : Int) ≤ (i : Int) := by omega
                  have b2 : (0 : Int) ≤ (k : Int) := by omega
                  have b3 : (0 : Int) ≤ (j : Int) := by omega
                  have b4 : (i : Int) < (n1 : Int) := by omega
                  have b5 : (k : Int) < (n1 : Int) := by omega
                  have b6 : (j : Int) < (n1 : Int) := by omega
                  clear hO hEi hEk hEj hvi hvk hvj rd2 rd3 fc2 fc3 hxi hxk hxj hli hlk hlj hbr ci ck cj
                  go_wp2_with fail
                  go_region_held3 (fun wy => wy.cell? ⟨g, i, none⟩ = some (.slice ai li cci) ∧ wy.cell? ⟨g, k, none⟩ = some (.slice ak lk cck) ∧ wy.cell? ⟨g, j, none⟩ = some (.slice aj lj ccj)) (first | assumption | exact HK.out _ HD.out | exact HK.out _ hb5 | exact HK.out _ hb6 | exact HK.out _ hb7 | exact HK.out _ hb8 | exact HK.out _ hb9) (first | (go_at_call 32; (with_reducible refine (HJ.out wr.drew HD.out).mono ?_); rintro e w5 ⟨a5, n5, c5, rfl, ho5, hb5'⟩; have hb5 := below_next HD.out hb5') | (go_at_call 31; (with_reducible refine (HF2.out w5 a5 n5 c5 _ hb5 ho5).mono ?_); rintro e w6 ⟨rfl, hb6'⟩; have hb6 := below_next hb5 hb6') | (go_at_call 32; (with_reducible refine (HJ.out w6 hb6).mono ?_); rintro e w7 ⟨a7, n7, c7, rfl, ho7, hb7'⟩; have hb7 := below_next hb6 hb7') | (go_at_call 32; (with_reducible refine (HJ3.out w7 a7 n7 c7 _ hb7 ho7).mono ?_); rintro e w8 ⟨a8, n8, c8, rfl, ho8, hb8'⟩; have hb8 := below_next hb7 hb8') | (go_at_call 31; (with_reducible refine (HF3.out w8 a8 n8 c8 _ hb8 ho8).mono ?_); rintro e w9 ⟨rfl, hb9'⟩; have hb9 := below_next hb8 hb9'))
                  all_goals
                    have FB := keptC (below_next HBR.out hb9)
                    clear hb5' hb6' hb7' hb8' hb9' hb5 hb6 hb7 hb8 hb9 ho5 ho7 ho8
                    go_wp2
                    go_roundw
                    case rel => exact ⟨j + 1, by omega, by go_num, FB.out⟩
                    case measure => simp [intOf]; omega
                · have FB := keptC hbr
                  clear hbr
                  go_wp2
                  go_roundw
                  case rel => exact ⟨k + 1, by omega, by go_num, FB.out⟩
                  case measure => simp [intOf]; omega
            · have FB := keptC hbr
              clear hbr
              go_wp2
              go_roundw
              case rel => exact ⟨i + 1, by omega, by go_num, FB.out⟩
              case measure => simp [intOf]; omega
        · have FIN := keptC (below_next HB3.out hbr)
          clear hbr
          go_wp2
          go_ret
          exact ⟨rfl, FIN.out⟩
  · have hbig' : 1048576 < len := by omega
    go_enter Try.func8, Try.ntmps8
    go_wp2
    go_ret
    exact ⟨rfl, Below.refl _ _⟩
end Go.Proofs.Ytdjgodemeaneeaa
