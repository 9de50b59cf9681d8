
/- Drawn words of lines. -/
import Derived.Test.YtnbppackijjohaaLj
namespace Go.Proofs.Ytnbppackijjohaa
open Go.RowKit

theorem ElOk.overRD {w w' : World} {B R L p : Nat} {u : Value} {zs : List Int} (h : ElOk w 0 u zs) (hg : w.grownBy w' (some R)) (hrd : RD w B R L p) : ElOk w' 0 u zs := by
  obtain ⟨vr, hR, _⟩ := hrd
  exact h.typed hg (fun k hk => by injection hk with hk; subst hk; exact ⟨_, _, by decide, hR⟩)
theorem alloc_el (w : World) (zs : List Int) (o : Obj) (n : Nat) (ho : o = .cells (ints zs).toArray 3) (hn : zs.length = n) (hz : n ≤ 1000) : ElOk (w.alloc o) 0 (.slice (some ⟨w.heap.size, 0, none⟩) n n) zs := by
  subst ho hn
  refine ⟨⟨_, _, rfl, Nat.le_refl _, by omega, .inr ⟨w.heap.size, 0, rfl, fun i hi => ?_⟩⟩, fun b hb => .inr ?_, .inr ⟨_, _, _, rfl⟩⟩
  · rw [Nat.zero_add, cell_of_row _ w.heap.size i _ _ _ (heap_alloc_new w _)]
    simp [ints, List.getD_eq_getElem?_getD, hi]
  · simp [Value.ownBlock] at hb
    subst hb
    exact ⟨_, heap_alloc_new w _⟩
def four (w : World) : World :=
  ((((w.alloc (.cells #[] 3)).alloc (.cells #[.int .i64 0] 3)).alloc (.cells #[.int .i64 1, .int .i64 0, .int .i64 1] 3)).alloc (.cells #[.int .i64 64] 3)).alloc
    (.cells #[.slice (some ⟨w.heap.size, 0, none⟩) 0 0, .slice (some ⟨w.heap.size + 1, 0, none⟩) 1 1, .slice (some ⟨w.heap.size + 1 + 1, 0, none⟩) 3 3, .slice (some ⟨w.heap.size + 1 + 1 + 1, 0, none⟩) 1 1] 28)
theorem four_rows (w : World) : Below w.heap.size w (four w) ∧ ∀ k, k < 4 → ∃ a n c zs, (four w).cell? ⟨w.heap.size + 1 + 1 + 1 + 1, k, none⟩ = some (.slice a n c) ∧ ElOk (four w) 0 (.slice a n c) zs := by
  have al : ∀ (x : World) (o : Obj), Below x.heap.size x (x.alloc o) := fun x o => (Below.refl _ _).alloc (Nat.le_refl _) _
  have e1 : ∃ w1, w.alloc (.cells #[] 3) = w1 := ⟨_, rfl⟩
  obtain ⟨w1, h1⟩ := e1
  obtain ⟨w2, h2⟩ : ∃ w2, w1.alloc (.cells #[.int .i64 0] 3) = w2 := ⟨_, rfl⟩
  obtain ⟨w3, h3⟩ : ∃ w3, w2.alloc (.cells #[.int .i64 1, .int .i64 0, .int .i64 1] 3) = w3 := ⟨_, rfl⟩
  obtain ⟨w4, h4⟩ : ∃ w4, w3.alloc (.cells #[.int .i64 64] 3) = w4 := ⟨_, rfl⟩
  have s1 : w1.heap.size = w.heap.size + 1 := by rw [← h1]; exact World.size_alloc _ _
  have s2 : w2.heap.size = w.heap.size + 1 + 1 := by rw [← h2, World.size_alloc, s1]
  have s3 : w3.heap.size = w.heap.size + 1 + 1 + 1 := by rw [← h3, World.size_alloc, s2]
  have s4 : w4.heap.size = w.heap.size + 1 + 1 + 1 + 1 := by rw [← h4, World.size_alloc, s3]
  have b1 := al w (.cells #[] 3)
  have b2 := al w1 (.cells #[.int .i64 0] 3)
  have b3 := al w2 (.cells #[.int .i64 1, .int .i64 0, .int .i64 1] 3)
  have b4 := al w3 (.cells #[.int .i64 64] 3)
  have E1 := alloc_el w [] (.cells #[] 3) 0 rfl rfl (by omega)
  have E2 := alloc_el w1 [0] (.cells #[.int .i64 0] 3) 1 rfl rfl (by omega)
  have E3 := alloc_el w2 [1, 0, 1] (.cells #[.int .i64 1, .int .i64 0, .int .i64 1] 3) 3 rfl rfl (by omega)
  have E4 := alloc_el w3 [64] (.cells #[.int .i64 64] 3) 1 rfl rfl (by omega)
  rw [h1] at b1 E1
  rw [h2] at b2 E2
  rw [h3] at b3 E3
  rw [h4] at b4 E4
  unfold four
  rw [h1, h2, h3, h4, ← s4, ← s3, ← s2, ← s1]
  obtain ⟨o, ho⟩ : ∃ o, (Obj.cells #[.slice (some ⟨w.heap.size, 0, none⟩) 0 0, .slice (some ⟨w1.heap.size, 0, none⟩) 1 1, .slice (some ⟨w2.heap.size, 0, none⟩) 3 3, .slice (some ⟨w3.heap.size, 0, none⟩) 1 1] 28) = o := ⟨_, rfl⟩
  rw [ho]
  have b5 := al w4 o
  have hn := heap_alloc_new w4 o
  rw [← ho] at hn
  refine ⟨below_next (below_next (below_next (below_next b1 b2) b3) b4) (by rw [← ho] at b5; rw [← ho]; exact b5), fun k hk => ?_⟩
  have F1 := (((E1.below b2).below b3).below b4).below b5
  have F2 := ((E2.below b3).below b4).below b5
  have F3 := (E3.below b4).below b5
  have F4 := E4.below b5
  rw [← ho] at F1 F2 F3 F4 ⊢
  match k, hk with
  | 0, _ => exact ⟨_, _, _, _, by rw [cell_of_row _ w4.heap.size 0 _ _ _ hn]; rfl, F1⟩
  | 1, _ => exact ⟨_, _, _, _, by rw [cell_of_row _ w4.heap.size 1 _ _ _ hn]; rfl, F2⟩
  | 2, _ => exact ⟨_, _, _, _, by rw [cell_of_row _ w4.heap.size 2 _ _ _ hn]; rfl, F3⟩
  | 3, _ => exact ⟨_, _, _, _, by rw [cell_of_row _ w4.heap.size 3 _ _ _ hn]; rfl, F4⟩
set_option maxRecDepth 20000 in
set_option maxHeartbeats 4000000 in
theorem drawFillLines_any (w : World) (a : Option Addr) (len cap : Nat) (zs : List Int) (h : RowIn .u8 w a len cap zs) :
    Calls Try.prog 15 #[.slice a len cap] w fun e w' => LwMade w e w' := by
  obtain ⟨h1, h2, h3⟩ := bytesAt_of_row h
  clear h
  go_enter Try.func15, Try.ntmps15
  go_wp2_with fail
  refine (newReader_any w _ a len cap h1 (Nat.le_refl _) h2 h3).mono ?_
  rintro e w1 ⟨L, rfl, hrd, hgr⟩
  have hl1 := hrd.lt
  go_wp2_with fail
  refine (one_any _ _ _ L 0 w1.heap.size 7 7 [8, 10, 6, 12, 20, 40, 9] (hrd.alloc _) (heap_alloc_new w1 _) (by omega) (Lib.hid rfl) (by omega) (by omega) (by omega)).mono ?_
  rintro e w2 ⟨z, rfl, hz, hrd2, hgr2⟩
  obtain ⟨W, rfl, hW6, hW⟩ : ∃ W : Nat, z = W ∧ 6 ≤ W ∧ W ≤ 40 := by
    refine ⟨z.toNat, ?_, ?_⟩ <;> (simp at hz; omega)
  have hG2 : w1.grownBy w2 (some w.heap.size) := grown_trans (World.grownBy_alloc w1 _ _) hgr2
  have hl2 := hrd2.lt
  clear hz hgr2 hrd
  -- the words
  have hO0 := OwnLs.made w2 w2.heap.size 0 (Nat.zero_le _) (Nat.le_refl _)
  have HG2 := keptL hG2
  have hG0 := World.grownBy_alloc w2 (.cells #[] 28) (some w.heap.size)
  have hrd0 := hrd2.alloc (.cells #[] 28)
  go_wp2_with fail
  have hsz0 : (w2.alloc (.cells #[] 28)).heap.size = w2.heap.size + 1 := World.size_alloc _ _
  obtain ⟨w0, hw0⟩ : ∃ w0, w2.alloc (.cells #[] 28) = w0 := ⟨_, rfl⟩
  rw [hw0] at hO0 hG0 hrd0 hsz0 ⊢
  clear hw0 hrd2 hG2
  refine (one_any (w0.alloc (.cells #[.int .i64 6, .int .i64 9, .int .i64 4, .int .i64 14, .int .i64 2, .int .i64 0] 3)) _ _ L 1 (w2.heap.size + 1) 6 6 [6, 9, 4, 14, 2, 0] (hrd0.alloc _) (by have hh := heap_alloc_new w0 (.cells #[.int .i64 6, .int .i64 9, .int .i64 4, .int .i64 14, .int .i64 2, .int .i64 0] 3); rw [hsz0] at hh; exact hh) (by omega) (Lib.hid rfl) (by omega) (by omega) (by omega)).mono ?_
  rintro e w3 ⟨z0, rfl, hz, hrd3, hgr3⟩
  obtain ⟨K, rfl, hK⟩ : ∃ K : Nat, z0 = K ∧ K ≤ 14 := by
    refine ⟨z0.toNat, ?_, ?_⟩ <;> (simp at hz; omega)
  have hO3 := (hO0.below ((Below.refl _ _).alloc (Nat.le_refl _) _)).overR hgr3 (hrd0.alloc _) hl2
  have hG3 := grown_trans hG0 (grown_trans (World.grownBy_alloc w0 _ _) hgr3)
  clear hz hgr3 hrd0 hO0 hG0 hsz0
  have HGR := keptL hgr
  clear hgr
  go_wp2_with fail
  go_loopw [6, 7] (fun o y wr => ∃ (k : Nat) (P : List (List Int)) (q : Nat), y = .int .i64 k ∧ k + P.length ≤ 14 ∧ OwnLs wr w2.heap.size 0 o P ∧ RD wr w.heap.size w.heap.size L q ∧ q ≤ 2 + 41 * P.length ∧ w2.grownBy wr (some w.heap.size)) (fun _ y _ => (intOf y).toNat)
  case atStart => exact ⟨K, [], 2, rfl, by simp; omega, hO3, hrd3, by simp, hG3⟩
  case round =>
    clear hO3 hrd3 hG3
    obtain ⟨k, P, q, rfl, hkP, hO, hrd, hq, hG⟩ := hrel
    obtain ⟨ao, no, co, hoo⟩ := hO.isSlice
    subst hoo
    have hsz := hG.size
    have HO := keptL hO
    have HG := keptL hG
    have fin : ∀ (v : Value) (w9 : World) (Q : List (List Int)) (X : Int), OwnLs w9 w2.heap.size 0 v Q → Q.length ≤ 14 → w2.grownBy w9 (some w.heap.size) → 0 ≤ X ∧ X ≤ 41 → LwMade w (.returned (.tuple #[v, .int .i64 X])) w9 := by
      intro v w9 Q X h1 h2 h3 h4
      obtain ⟨a9, n9, c9, rfl⟩ := h1.isSlice
      exact ⟨_, _, _, _, Q, X, rfl, h1, h2, h4, below_of_grown (grown_new HGR.out (grown_trans HG2.out h3) (Nat.le_refl _))⟩
    by_cases hlt : 0 < k
    · clear hO hG fin
      have d6 : (if (6 : Int) ≤ (W : Int) then (6 : Int) else W) = 6 := if_pos (by omega)
      go_wp2_with fail
      refine (someItem_any wr _ _ L q 6 hrd (by omega) (by omega) (by omega)).mono ?_
      rintro e w6 ⟨v6, zs6, q6, rfl, hI, _, hlz, hrd6, hq6, hg6, a6, n6, c6, rfl⟩
      have HO6 := keptL (HO.out.overR hg6 hrd hl2)
      have HG6 := keptL (grown_trans HG.out hg6)
      have HI6 := keptL hI
      have hsz6 := HG6.out.size
      clear hI hg6 hrd HO HG
      have hal : Below w6.heap.size w6 (w6.alloc (.cells #[.slice a6 n6 c6] 28)) := (Below.refl _ _).alloc (Nat.le_refl _) _
      have HO8 := keptL (HO6.out.below hal)
      have HE8 : Hid (ElOk (w6.alloc (.cells #[.slice a6 n6 c6] 28)) 0 (.slice a6 n6 c6) zs6) := ElOk.of_own (HI6.out.below hal)
      have HC8 : Hid ((w6.alloc (.cells #[.slice a6 n6 c6] 28)).cell? ⟨w6.heap.size, 0, none⟩ = some (.slice a6 n6 c6)) := by
        show _ = _
        rw [cell_of_row _ w6.heap.size 0 _ _ _ (heap_alloc_new w6 _)]; rfl
      have HS8 : Hid (P.length ≤ 100000 ∧ w2.heap.size ≤ (w6.alloc (.cells #[.slice a6 n6 c6] 28)).heap.size) := ⟨by omega, Nat.le_trans hsz6 hal.size⟩
      clear hal
      go_wp2_with (at_builtin; go_loud (refine wpList_append_ls rfl _ _ rfl w2.heap.size 0 w6.heap.size zs6 rfl rfl HO8.out HC8.out HE8.out rfl HS8.out.1 HS8.out.2 ?_))
      intro v9 w9 hown9 hgrow9
      have hrow9 := HO6.out.row
      have HO9 := keptL hown9
      have HR9 := keptL ((hrd6.alloc (.cells #[.slice a6 n6 c6] 28)).over hgrow9 (fun x hx => (hrow9 x hx).1) hl2)
      have HG9 := keptL (grown_own (grown_own HG6.out (World.grownBy_alloc w6 (.cells #[.slice a6 n6 c6] 28) none) (by simp)) hgrow9 (fun x hx => (hrow9 x hx).1))
      clear hown9 hgrow9 hrow9 hrd6
      go_wp2
      go_roundw
      case rel => exact ⟨k - 1, P ++ [zs6], q6, by go_num, by simp; omega, HO9.out, HR9.out, by simp; omega, HG9.out⟩
      case measure => simp [intOf]; omega
    · obtain rfl : k = 0 := by omega
      have hno : no = P.length := by
        obtain ⟨_, _, e, _⟩ := hO.at
        injection e with _ e2 _
      have hPl : P.length ≤ 14 := by omega
      have HFIN := keptL fin
      have HNO := keptL hno
      have hno14 : no ≤ 14 := by omega
      clear hO hG fin HGR HG2 hno
      by_cases hn0 : no = 0
      · subst hn0
        have hPQ : P.length ≤ 14 := hPl
        go_wp2_with fail
        refine (pick_any wr _ _ L q _ hrd (by omega) (by omega) (by omega)).mono ?_
        rintro e w7 ⟨k7, rfl, hk7, hrd7, hgr7⟩
        have HO7 := keptL (HO.out.overR hgr7 hrd hl2)
        have HG7 := keptL (grown_trans HG.out hgr7)
        clear hgr7 hrd HO HG
        by_cases h70 : k7 = 0
        · subst h70
          go_wp2_with fail
          refine (one_any _ _ _ L (q + 1) w7.heap.size 4 4 [0, 41, 3, 1] (hrd7.alloc _) (heap_alloc_new w7 _) (by have := hrd7.lt; omega) (Lib.hid rfl) (by omega) (by omega) (by omega)).mono ?_
          rintro e w8 ⟨z8, rfl, hz8, hrd8, hgr8⟩
          have hz8' : 0 ≤ z8 ∧ z8 ≤ 41 := by simp at hz8; omega
          have hgx := grown_trans (World.grownBy_alloc w7 _ _) hgr8
          have H8 := keptL (HFIN.out _ w8 P z8 (HO7.out.overR hgx hrd7 hl2) hPQ (grown_trans HG7.out hgx) hz8')
          clear hz8 hgr8 hgx hrd8 hrd7 HO7 HG7
          go_wp2
          refine bodyPost_ret (results_twoL rfl _ _ _) rfl ?_
          exact H8.out
        · have e7 : ((k7 : Int) == 0) = false := by simp; omega
          have H8 := keptL (HFIN.out _ w7 P W HO7.out hPQ HG7.out (by omega))
          clear hrd7 HO7 HG7
          go_wp2
          refine bodyPost_ret (results_twoL rfl _ _ _) rfl ?_
          exact H8.out
      · have d0 : decide (0 < (no : Int)) = true := decide_eq_true (by omega)
        go_wp2_with fail
        refine (pick_any wr _ _ L q _ hrd (by omega) (by omega) (by omega)).mono ?_
        rintro e w4 ⟨k4, rfl, hk4, hrd4, hgr4⟩
        have HO4 := keptL (HO.out.overR hgr4 hrd hl2)
        have HG4 := keptL (grown_trans HG.out hgr4)
        clear hgr4 hrd HO HG
        by_cases hk0 : k4 = 0
        · subst hk0
          obtain ⟨hb5, hr5⟩ := four_rows w4
          have HR5 := keptL hr5
          have hrd5 := hrd4.below hb5 hrd4.lt
          have hg5 : w4.grownBy (four w4) (some w.heap.size) := ⟨hb5.os, hb5.tape, hb5.output, hb5.size, fun k hk _ => hb5.block k hk⟩
          have HO5 := keptL (HO4.out.below hb5)
          have HG5 := keptL (grown_trans HG4.out hg5)
          have hs5 : (four w4).heap.size = w4.heap.size + 1 + 1 + 1 + 1 + 1 := by unfold four; simp only [World.size_alloc]
          have hl4 := hrd4.lt
          clear hr5 hb5 hg5 hrd4 HO4 HG4
          go_wp2_with fail
          obtain ⟨w5, hw5⟩ : ∃ w5, four w4 = w5 := ⟨_, rfl⟩
          rw [hw5] at HR5 hrd5 HO5 HG5 hs5
          unfold four at hw5
          rw [hw5]
          clear hw5
          refine (pick_any w5 _ _ L (q + 1) _ hrd5 (by omega) (by omega) (by omega)).mono ?_
          rintro e w6 ⟨k6, rfl, hk6, hrd6, hgr6⟩
          obtain ⟨a6, n6, c6, zs6, hc6, hE6⟩ := HR5.out k6 (by omega)
          have HE6 : Hid (ElOk w6 0 (.slice a6 n6 c6) zs6) := hE6.overRD hgr6 hrd5
          have hc6 : w6.cell? ⟨w4.heap.size + 1 + 1 + 1 + 1, k6, none⟩ = some (.slice a6 n6 c6) := by
            rw [World.cell?_of_block (a := ⟨w4.heap.size + 1 + 1 + 1 + 1, k6, none⟩) (hgr6.block (w4.heap.size + 1 + 1 + 1 + 1) (by omega) (by intro e; injection e with e; omega))]; exact hc6
          have hO6 := HO5.out.overR hgr6 hrd5 hl2
          have hG6 := grown_trans HG5.out hgr6
          obtain ⟨g, u1, rfl, c1, hE1, hnx⟩ := hO6.nth (i := 0) (by omega)
          clear hnx
          obtain ⟨a1, z1', hu1, _⟩ := id hE1.1
          obtain ⟨l1, hl1⟩ : ∃ l1, (P.getD 0 []).length = l1 := ⟨_, rfl⟩
          rw [hl1] at hu1
          subst hu1
          have hf1 := hO6.free 0
          have hx : ∀ x, some g = some x → w2.heap.size ≤ x := fun x hx => (hO6.row x (by rw [← hx]; rfl)).1
          have HO7 := keptL (hO6.set 0 HE6.out)
          have hg7 := grown_store w6 g 0 (.slice a6 n6 c6)
          have HG7 := keptL (grown_own hG6 hg7 hx)
          have hrd7 := hrd6.over hg7 hx hl2
          have hPQ : (P.set 0 zs6).length ≤ 14 := by rw [List.length_set]; exact hPl
          have b1 : (0 : Int) < (no : Int) := by omega
          have b2 : (k6 : Int) < 4 := by omega
          clear hE1 hl1 hO6 hG6 hg7 hx hrd6 HO5 HG5 HE6 hE6 hgr6 hrd5 HR5
          go_wp2_with fail
          obtain ⟨wz, hwz⟩ : ∃ wz, w6.setCell ⟨g, 0, none⟩ (.slice a6 n6 c6) = wz := ⟨_, rfl⟩
          rw [hwz] at HO7 HG7 hrd7 ⊢
          clear hwz
          have HO9 := keptL HO7.out
          have HG9 := keptL HG7.out
          clear HO7 HG7 c1 hc6 hf1
          go_wp2_with fail
          refine (pick_any wz _ _ L (q + 1 + 1) _ hrd7 (by omega) (by omega) (by omega)).mono ?_
          rintro e wy ⟨ky, rfl, hky, hrdy, hgry⟩
          have HOy := keptL (HO9.out.overR hgry hrd7 hl2)
          have HGy := keptL (grown_trans HG9.out hgry)
          clear hgry hrd7 HO9 HG9
          by_cases hy0 : ky = 0
          · subst hy0
            go_wp2_with fail
            refine (one_any _ _ _ L ((q + 1 + 1) + 1) wy.heap.size 4 4 [0, 41, 3, 1] (hrdy.alloc _) (heap_alloc_new wy _) (by have := hrdy.lt; omega) (Lib.hid rfl) (by omega) (by omega) (by omega)).mono ?_
            rintro e w8 ⟨z8, rfl, hz8, hrd8, hgr8⟩
            have hz8' : 0 ≤ z8 ∧ z8 ≤ 41 := by simp at hz8; omega
            have hgx := grown_trans (World.grownBy_alloc wy _ _) hgr8
            have H8 := keptL (HFIN.out _ w8 (P.set 0 zs6) z8 (HOy.out.overR hgx hrdy hl2) hPQ (grown_trans HGy.out hgx) hz8')
            clear hz8 hgr8 hgx hrd8 hrdy HOy HGy
            go_wp2
            refine bodyPost_ret (results_twoL rfl _ _ _) rfl ?_
            exact H8.out
          · have ey : ((ky : Int) == 0) = false := by simp; omega
            have H8 := keptL (HFIN.out _ wy (P.set 0 zs6) W HOy.out hPQ HGy.out (by omega))
            clear hrdy HOy HGy
            go_wp2
            refine bodyPost_ret (results_twoL rfl _ _ _) rfl ?_
            exact H8.out
        · have e1 : ((k4 : Int) == 0) = false := by simp; omega
          have hPQ : P.length ≤ 14 := hPl
          go_wp2_with fail
          refine (pick_any w4 _ _ L (q + 1) _ hrd4 (by omega) (by omega) (by omega)).mono ?_
          rintro e w7 ⟨k7, rfl, hk7, hrd7, hgr7⟩
          have HO7 := keptL (HO4.out.overR hgr7 hrd4 hl2)
          have HG7 := keptL (grown_trans HG4.out hgr7)
          clear hgr7 hrd4 HO4 HG4
          by_cases h70 : k7 = 0
          · subst h70
            go_wp2_with fail
            refine (one_any _ _ _ L ((q + 1) + 1) w7.heap.size 4 4 [0, 41, 3, 1] (hrd7.alloc _) (heap_alloc_new w7 _) (by have := hrd7.lt; omega) (Lib.hid rfl) (by omega) (by omega) (by omega)).mono ?_
            rintro e w8 ⟨z8, rfl, hz8, hrd8, hgr8⟩
            have hz8' : 0 ≤ z8 ∧ z8 ≤ 41 := by simp at hz8; omega
            have hgx := grown_trans (World.grownBy_alloc w7 _ _) hgr8
            have H8 := keptL (HFIN.out _ w8 P z8 (HO7.out.overR hgx hrd7 hl2) hPQ (grown_trans HG7.out hgx) hz8')
            clear hz8 hgr8 hgx hrd8 hrd7 HO7 HG7
            go_wp2
            refine bodyPost_ret (results_twoL rfl _ _ _) rfl ?_
            exact H8.out
          · have e7 : ((k7 : Int) == 0) = false := by simp; omega
            have H8 := keptL (HFIN.out _ w7 P W HO7.out hPQ HG7.out (by omega))
            clear hrd7 HO7 HG7
            go_wp2
            refine bodyPost_ret (results_twoL rfl _ _ _) rfl ?_
            exact H8.out
end Go.Proofs.Ytnbppackijjohaa
