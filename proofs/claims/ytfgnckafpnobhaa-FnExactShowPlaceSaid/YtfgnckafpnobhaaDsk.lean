
/- Displays that a call makes: copies, marks. -/
import Derived.Test.YtfgnckafpnobhaaDsj
namespace Go.Proofs.Ytfgnckafpnobhaa
open Go.RowKit

set_option maxHeartbeats 1000000 in
theorem markIntS_g (w : World) (base : Nat) (a : Option Addr) (n0 c : Nat) (zs : List Int) (s : Int) (hx : OwnInts w base (.slice a n0 c) zs) (h0 : 0 ≤ s) (h1 : s ≤ 1000000000000000000) (hl : zs.length ≤ 4000000000000000000) :
    Calls Try.prog 42 #[.slice a n0 c, .int .i64 s] w fun e w' => e = .returned (.int .i64 (s + zs.length)) ∧ OwnInts w' base (.slice a n0 c) (countUp s zs.length) ∧ w.grownBy w' (Value.slice a n0 c).ownBlock := by
  obtain ⟨n, hn⟩ : ∃ n, zs.length = n := ⟨_, rfl⟩
  have hnn : n = n0 := by obtain ⟨_, _, e, _⟩ := hx.at; injection e with _ e _; omega
  subst hnn
  by_cases hn0 : n = 0
  · subst hn0
    obtain rfl : zs = [] := List.length_eq_zero_iff.1 hn
    clear hn
    go_enter Try.func42, Try.ntmps42
    go_wp2
    refine wp_loop_rounds 1 ?_
    rw [rounds_succ]
    go_wp2
    go_ret
    exact ⟨by simp, hx, World.grownBy.refl w _⟩
  · obtain ⟨g, cap, hv, hbg⟩ := hx.shape (by omega)
    injection hv with e1 e2 e3
    subst e1 e3
    clear e2
    have hO0 : OwnInts w base (.slice (some ⟨g, 0, none⟩) n c) (marked zs s 0) := by rw [marked_zero]; exact hx
    clear hx
    rw [hn] at hl ⊢
    have HN := Lib.hid hn
    clear hn
    go_enter Try.func42, Try.ntmps42
    go_wp2
    go_loopw [1, 5] (fun m i wr => ∃ k : Nat, k ≤ n ∧ i = .int .i64 k ∧ m = .int .i64 (s + k) ∧ OwnInts wr base (.slice (some ⟨g, 0, none⟩) n c) (marked zs s k) ∧ w.grownBy wr (some g)) (fun _ i _ => n - (intOf i).toNat)
    case atStart => exact ⟨0, Nat.zero_le _, rfl, by simp, hO0, World.grownBy.refl w _⟩
    case round =>
      clear hO0
      obtain ⟨k, hk, rfl, rfl, hO, hB⟩ := hrel
      by_cases hlt : k < n
      · have hml : (marked zs s k).length = n := by rw [marked_length zs s k (by have := HN.out; omega), HN.out]
        have hO2 := hO.store hml k (s + k)
        rw [marked_set zs s k (by have := HN.out; omega)] at hO2
        have hB2 : w.grownBy (wr.setCell ⟨g, k, none⟩ (.int .i64 (s + k))) (some g) := by
          have h := (hO.stored' hml k (.int .i64 (s + k)))
          exact ⟨h.os.trans hB.os, h.tape.trans hB.tape, h.output.trans hB.output, Nat.le_trans hB.size h.size, fun i hi hne => (h.block i (Nat.lt_of_lt_of_le hi hB.size) hne).trans (hB.block i hi hne)⟩
        have hc := hO.cell hml hlt
        have hf := hO.free hml k
        clear hO hB hml
        go_wp2
        go_roundw
        case rel => exact ⟨k + 1, by omega, by go_num, by go_num, hO2, hB2⟩
        case measure => simp [intOf]; omega
      · go_wp2
        go_ret
        obtain rfl : k = n := by omega
        have h := HN.out
        subst h
        rw [marked_all] at hO
        exact ⟨rfl, hO, hB⟩
/-- two rows of numbers that a call made, one behind the other -/
def DspOwn (w : World) (B S : Nat) (c p : Value) (C P : List Int) : Prop := OwnInts w B c C ∧ (∀ k, c.ownBlock = some k → k < S) ∧ OwnInts w S p P ∧ B ≤ S ∧ S ≤ w.heap.size
theorem DspOwn.below {w w' : World} {B S : Nat} {c p : Value} {C P : List Int} (h : DspOwn w B S c p C P) (hb : Below w.heap.size w w') : DspOwn w' B S c p C P :=
  ⟨h.1.below hb, h.2.1, h.2.2.1.below hb, h.2.2.2.1, Nat.le_trans h.2.2.2.2 hb.size⟩
theorem DspOwn.of_block {w w' : World} {B S : Nat} {c p : Value} {C P : List Int} (h : DspOwn w B S c p C P) (hs : w.heap.size ≤ w'.heap.size) (hk : ∀ k, B ≤ k → k < w.heap.size → w'.heap[k]? = w.heap[k]?) : DspOwn w' B S c p C P :=
  ⟨h.1.of_blockE (fun k hv => hk k (World.ownsRow.lt h.1 k hv).1 (World.ownsRow.lt h.1 k hv).2), h.2.1, h.2.2.1.of_blockE (fun k hv => hk k (Nat.le_trans h.2.2.2.1 (World.ownsRow.lt h.2.2.1 k hv).1) (World.ownsRow.lt h.2.2.1 k hv).2), h.2.2.2.1, Nat.le_trans h.2.2.2.2 hs⟩
theorem DspOwn.mono {w : World} {B B' S : Nat} {c p : Value} {C P : List Int} (h : DspOwn w B S c p C P) (hb : B' ≤ B) : DspOwn w B' S c p C P :=
  ⟨World.ownsRow.mono h.1 hb, h.2.1, h.2.2.1, Nat.le_trans hb h.2.2.2.1, h.2.2.2.2⟩
/-- a call's answer is a display of its own -/
def DspOut (C P : List Int) (s t : Int) (w : World) (e : Ending) (w' : World) : Prop :=
  ∃ S a n c b m d, e = .returned (dspV (.slice a n c) (.slice b m d) s t) ∧ DspOwn w' w.heap.size S (.slice a n c) (.slice b m d) C P ∧ Below w.heap.size w w'
set_option maxHeartbeats 1000000 in
theorem markDisplay_own (w : World) (B S : Nat) (a : Option Addr) (n c : Nat) (b : Option Addr) (m d : Nat) (C P : List Int) (s t : Int) (h : DspOwn w B S (.slice a n c) (.slice b m d) C P) (hn : Hid (C.length = n)) (hm : Hid (P.length = m)) (h1 : n ≤ 1048576) (h2 : m ≤ 1048576) :
    Calls Try.prog 41 #[dspV (.slice a n c) (.slice b m d) s t, .int .i64 1] w fun e w' => e = .returned (.int .i64 (1 + (n : Int) + (m : Int))) ∧ DspOwn w' B S (.slice a n c) (.slice b m d) (countUp 1 n) (countUp (1 + (n : Int)) m) ∧ Below B w w' ∧ (∀ i, i < w.heap.size → (Value.slice a n c).ownBlock ≠ some i → (Value.slice b m d).ownBlock ≠ some i → w'.heap[i]? = w.heap[i]?) := by
  obtain ⟨hB, hbx⟩ := dbox w (.slice a n c) (.slice b m d) s t
  have HH := keptI (h.below hbx)
  have hBS := h.2.2.2.1
  have hSz := h.2.2.2.2
  have hsz := hB.lt
  have hlc : Hid (∀ k, (Value.slice a n c).ownBlock = some k → k < w.heap.size) := fun k hk => (World.ownsRow.lt h.1 k hk).2
  have hlp : Hid (∀ k, (Value.slice b m d).ownBlock = some k → k < w.heap.size) := fun k hk => (World.ownsRow.lt h.2.2.1 k hk).2
  clear h
  go_enter Try.func41, Try.ntmps41
  go_wp2_with fail
  generalize w.alloc (.cells #[.slice a n c, .slice b m d, .int .i64 s, .int .i64 t] 25) = wA at hB hbx HH hsz ⊢
  obtain ⟨c0, c1, c2, c3⟩ := hB.cells
  refine (markIntS_g wA B a n c C 1 HH.out.1 (by omega) (by omega) (by have := hn.out; omega)).mono ?_
  rintro e w1 ⟨rfl, hO1, hg⟩
  replace hB : BoxD w1 w.heap.size _ _ s t := (hg.block w.heap.size hsz (fun e => by have := hlc.out _ e.symm; omega)).trans hB
  have hP1 := HH.out.2.2.1.of_blockE (fun k hk => hg.block k (World.ownsRow.lt HH.out.2.2.1 k hk).2 (fun e => by have := HH.out.2.1 _ e.symm; have := (World.ownsRow.lt HH.out.2.2.1 k hk).1; omega))
  have HO1 := keptI hO1
  have HP1 := keptI hP1
  have HG := keptI hg
  rw [hn.out]
  clear c0 c1 c2 c3 hO1 hP1 hg
  obtain ⟨c0, c1, c2, c3⟩ := hB.cells
  go_wp2_with fail
  refine (markIntS_g w1 S b m d P (1 + (n : Int)) HP1.out (by omega) (by omega) (by have := hm.out; omega)).mono ?_
  rintro e w2 ⟨rfl, hO2, hg2⟩
  rw [hm.out] at hO2 ⊢
  have hO1 := HO1.out.of_blockE (fun k hk => hg2.block k (World.ownsRow.lt HO1.out k hk).2 (fun e => by have := HH.out.2.1 k hk; have := (World.ownsRow.lt HP1.out k e.symm).1; omega))
  rw [hn.out] at hO1
  have hs1 := HG.out.size
  have hs2 := hg2.size
  have hsA := hbx.size
  have hbe : Below B w w2 := ((hbx.mono (by omega)).grown HG.out (by omega) (fun k hk => (World.ownsRow.lt HH.out.1 k hk).1)).grown hg2 (by omega) (fun k hk => Nat.le_trans hBS (World.ownsRow.lt HP1.out k hk).1)
  have hsame : ∀ i, i < w.heap.size → (Value.slice a n c).ownBlock ≠ some i → (Value.slice b m d).ownBlock ≠ some i → w2.heap[i]? = w.heap[i]? := fun i hi e1 e2 => (hg2.block i (by omega) (fun e => e2 e.symm)).trans ((HG.out.block i (by omega) (fun e => e1 e.symm)).trans (hbx.block i hi))
  have FIN := keptI (And.intro hO1 (And.intro hO2 (And.intro hbe hsame)))
  clear hO1 hO2 hbe hsame hg2 hbx hB c0 c1 c2 c3
  go_wp2
  go_ret
  exact ⟨rfl, ⟨FIN.out.1, HH.out.2.1, FIN.out.2.1, hBS, by omega⟩, FIN.out.2.2⟩
set_option maxHeartbeats 1000000 in
theorem heldDisplay_own (w : World) (B S : Nat) (a : Option Addr) (n c : Nat) (b : Option Addr) (m d : Nat) (s t : Int) (h : DspOwn w B S (.slice a n c) (.slice b m d) (countUp 1 n) (countUp (1 + (n : Int)) m)) (h1 : n ≤ 1048576) (h2 : m ≤ 1048576) :
    Calls Try.prog 44 #[dspV (.slice a n c) (.slice b m d) s t, .int .i64 1] w fun e w' => e = .returned (.int .i64 (1 + (n : Int) + (m : Int))) ∧ Below w.heap.size w w' := by
  obtain ⟨hB, hbx⟩ := dbox w (.slice a n c) (.slice b m d) s t
  have HH := keptI (h.below hbx)
  have d1 : decide (1 + (n : Int) < 0) = false := decide_eq_false (by omega)
  have d2 : decide (1 + (n : Int) + (m : Int) < 0) = false := decide_eq_false (by omega)
  clear h
  go_enter Try.func44, Try.ntmps44
  go_wp2_with fail
  generalize w.alloc (.cells #[.slice a n c, .slice b m d, .int .i64 s, .int .i64 t] 25) = wA at hB hbx HH ⊢
  obtain ⟨c0, c1, c2, c3⟩ := hB.cells
  refine (heldIntS_any wA _ n 1 HH.out.1.at (by omega) (by omega) (by omega)).mono ?_
  rintro e w' ⟨rfl, rfl⟩
  go_wp2_with fail
  refine (heldIntS_any wA _ m (1 + (n : Int)) HH.out.2.2.1.at (by omega) (by omega) (by omega)).mono ?_
  rintro e w' ⟨rfl, rfl⟩
  go_wp2
  go_ret
  exact ⟨rfl, hbx⟩
set_option maxRecDepth 20000 in
set_option maxHeartbeats 4000000 in
theorem i_displayAt (w : World) (g n h m : Nat) (s t k : Int) (C P : List Int) (hC : IntsAt w (.slice (some ⟨g, 0, none⟩) n n) C) (hP : IntsAt w (.slice (some ⟨h, 0, none⟩) m m) P) (h1 : n ≤ 1048576) (h2 : m ≤ 1048576) :
    Calls Try.prog 55 #[dspV (.slice (some ⟨g, 0, none⟩) n n) (.slice (some ⟨h, 0, none⟩) m m) s t, .int .i64 k] w fun e w' => DspOut C P k t w e w' := by
  have hn : C.length = n := by obtain ⟨_, _, e, _⟩ := hC; injection e with _ e _; exact e.symm
  have hm : P.length = m := by obtain ⟨_, _, e, _⟩ := hP; injection e with _ e _; exact e.symm
  obtain ⟨hB, hbx⟩ := dbox w (.slice (some ⟨g, 0, none⟩) n n) (.slice (some ⟨h, 0, none⟩) m m) s t
  obtain ⟨hD, hbx1⟩ := dbox (w.alloc (dspO (.slice (some ⟨g, 0, none⟩) n n) (.slice (some ⟨h, 0, none⟩) m m) s t)) (.slice none 0 0) (.slice none 0 0) 0 0
  have hB := hB.alloc (dspO (.slice none 0 0) (.slice none 0 0) 0 0)
  have hbb := below_next hbx hbx1
  rw [World.size_alloc] at hD
  have HC := keptI (hC.below hbb)
  have HP := keptI (hP.below hbb)
  have HB := keptI hbb
  have HBX := keptI hB
  have HDX := keptI hD
  clear hC hP hbx hbx1 hbb hB hD
  go_enter Try.func55, Try.ntmps55
  go_wp2_with fail
  generalize (w.alloc (.cells #[.slice (some ⟨g, 0, none⟩) n n, .slice (some ⟨h, 0, none⟩) m m, .int .i64 s, .int .i64 t] 25)).alloc (.cells #[.slice none 0 0, .slice none 0 0, .int .i64 0, .int .i64 0] 25) = wA at HC HP HB HBX HDX ⊢
  have hszA := HDX.out.lt
  have HD0 : Hid (Below wA.heap.size wA wA.drew) := (Below.refl _ _).drew
  have HS : Hid (∀ wy, Below wA.heap.size wA wy → (wy.cell? ⟨w.heap.size, 0, none⟩ = some (.slice (some ⟨g, 0, none⟩) n n) ∧ wy.cell? ⟨w.heap.size, 1, none⟩ = some (.slice (some ⟨h, 0, none⟩) m m) ∧ wy.cell? ⟨w.heap.size, 2, none⟩ = some (.int .i64 s) ∧ wy.cell? ⟨w.heap.size, 3, none⟩ = some (.int .i64 t))) := fun wy hb => (HBX.out.below hb HBX.out.lt).cells
  have HX : Hid (∀ wy, Below wA.heap.size wA wy → BoxD wy (w.heap.size + 1) (.slice none 0 0) (.slice none 0 0) 0 0) := fun wy hb => HDX.out.below hb HDX.out.lt
  have HQ : Hid (∀ wy c' p' (s' t' : Int), Below wA.heap.size wA wy → BoxD ((((wy.setCell ⟨w.heap.size + 1, 0, none⟩ c').setCell ⟨w.heap.size + 1, 1, none⟩ p').setCell ⟨w.heap.size + 1, 2, none⟩ (.int .i64 s')).setCell ⟨w.heap.size + 1, 3, none⟩ (.int .i64 t')) w.heap.size (.slice (some ⟨g, 0, none⟩) n n) (.slice (some ⟨h, 0, none⟩) m m) s t) := fun wy c' p' s' t' hb => (((((HBX.out.below hb HBX.out.lt).other (w.heap.size + 1) 0 c' (by omega)).other (w.heap.size + 1) 1 p' (by omega)).other (w.heap.size + 1) 2 (.int .i64 s') (by omega)).other (w.heap.size + 1) 3 (.int .i64 t') (by omega))
  have H1 : Hid (∀ wy, Below wA.heap.size wA wy → Calls Try.prog 68 #[.slice (some ⟨g, 0, none⟩) n n] wy fun e w' => WidOut C wy e w') := fun wy hb => i_copyOf_z wy _ C (HC.out.below hb) (by omega) (.inl ⟨_, _, _, _, rfl⟩)
  have H2 : Hid (∀ wy, Below wA.heap.size wA wy → Calls Try.prog 68 #[.slice (some ⟨h, 0, none⟩) m m] wy fun e w' => WidOut P wy e w') := fun wy hb => i_copyOf_z wy _ P (HP.out.below hb) (by omega) (.inl ⟨_, _, _, _, rfl⟩)
  go_region_held3 (fun wy => (wy.cell? ⟨w.heap.size, 0, none⟩ = some (.slice (some ⟨g, 0, none⟩) n n) ∧ wy.cell? ⟨w.heap.size, 1, none⟩ = some (.slice (some ⟨h, 0, none⟩) m m) ∧ wy.cell? ⟨w.heap.size, 2, none⟩ = some (.int .i64 s) ∧ wy.cell? ⟨w.heap.size, 3, none⟩ = some (.int .i64 t))) (first | assumption | exact HS.out _ HD0.out | exact HS.out _ HA5.out | exact HS.out _ HA6.out | exact (HQ.out _ _ _ _ _ HA6.out).cells) (first | (go_at_call 68; (with_reducible refine (H1.out _ HD0.out).mono ?_); rintro e w5 ⟨a5, n5, c5, rfl, hO5, hb5⟩; have HA5 := keptI (below_next HD0.out hb5); have hs5 := hb5.size; have HO5 := keptI hO5; clear hO5 hb5) | (go_at_call 68; (with_reducible refine (H2.out _ HA5.out).mono ?_); rintro e w6 ⟨a6, n6, c6, rfl, hO6, hb6⟩; have HA6 := keptI (below_next HA5.out hb6); have hs6 := hb6.size; have HO56 := keptI (HO5.out.below hb6); have HO6 := keptI hO6; obtain ⟨f0, f1, f2, f3⟩ := (HX.out w6 HA6.out).cells; have z0 := (HX.out w6 HA6.out).free 0; have z1 := (HX.out w6 HA6.out).free 1; have z2 := (HX.out w6 HA6.out).free 2; have z3 := (HX.out w6 HA6.out).free 3; clear hO6 hb6))
  all_goals
    have hk := ((((HX.out w6 HA6.out).set0 (.slice a5 n5 c5)).set1 (.slice a6 n6 c6)).set2 (k)).set3 t
    have hsd : wA.drew.heap.size = wA.heap.size := rfl
    have hA9 := (((HO56.out.otherD (w.heap.size + 1) 0 (.slice a5 n5 c5) (by omega)).otherD (w.heap.size + 1) 1 (.slice a6 n6 c6) (by omega)).otherD (w.heap.size + 1) 2 (.int .i64 (k)) (by omega)).otherD (w.heap.size + 1) 3 (.int .i64 t) (by omega)
    have hB9 := (((HO6.out.otherD (w.heap.size + 1) 0 (.slice a5 n5 c5) (by omega)).otherD (w.heap.size + 1) 1 (.slice a6 n6 c6) (by omega)).otherD (w.heap.size + 1) 2 (.int .i64 (k)) (by omega)).otherD (w.heap.size + 1) 3 (.int .i64 t) (by omega)
    have q1 : w.heap.size ≤ w.heap.size + 1 := by omega
    have h9 := ((((HB.out.trans (HA6.out.mono HB.out.size)).setCell (p := ⟨w.heap.size + 1, 0, none⟩) q1 (.slice a5 n5 c5)).setCell (p := ⟨w.heap.size + 1, 1, none⟩) q1 (.slice a6 n6 c6)).setCell (p := ⟨w.heap.size + 1, 2, none⟩) q1 (.int .i64 (k))).setCell (p := ⟨w.heap.size + 1, 3, none⟩) q1 (.int .i64 t)
    have hlt5 : ∀ k, (Value.slice a5 n5 c5).ownBlock = some k → k < w5.heap.size := fun k hk => (World.ownsRow.lt HO5.out k hk).2
    have FIN := keptI (And.intro hk (And.intro hA9 (And.intro hB9 (And.intro h9 hlt5))))
    clear hk hA9 hB9 h9 hlt5
    go_wp2
    refine bodyPost_ret (results_cell_row rfl _ _ (w.heap.size + 1) _ _ _ _ rfl FIN.out.1 Try.underlying25 rfl (by kernel_rfl)) rfl ?_
    exact ⟨w5.heap.size, a5, n5, c5, a6, n6, c6, rfl, ⟨World.ownsRow.mono FIN.out.2.1 (by omega), FIN.out.2.2.2.2, FIN.out.2.2.1, by omega, by simp [World.setCell]; omega⟩, FIN.out.2.2.2.1⟩
set_option maxRecDepth 20000 in
set_option maxHeartbeats 4000000 in
theorem s_copyDisplay (w : World) (g n h m : Nat) (s t : Int) (C P : List Int) (hC : IntsAt w (.slice (some ⟨g, 0, none⟩) n n) C) (hP : IntsAt w (.slice (some ⟨h, 0, none⟩) m m) P) (h1 : n ≤ 1048576) (h2 : m ≤ 1048576) :
    Calls Try.prog 56 #[dspV (.slice (some ⟨g, 0, none⟩) n n) (.slice (some ⟨h, 0, none⟩) m m) s t] w fun e w' => DspOut C P s t w e w' := by
  have hn : C.length = n := by obtain ⟨_, _, e, _⟩ := hC; injection e with _ e _; exact e.symm
  have hm : P.length = m := by obtain ⟨_, _, e, _⟩ := hP; injection e with _ e _; exact e.symm
  obtain ⟨hB, hbx⟩ := dbox w (.slice (some ⟨g, 0, none⟩) n n) (.slice (some ⟨h, 0, none⟩) m m) s t
  obtain ⟨hD, hbx1⟩ := dbox (w.alloc (dspO (.slice (some ⟨g, 0, none⟩) n n) (.slice (some ⟨h, 0, none⟩) m m) s t)) (.slice none 0 0) (.slice none 0 0) 0 0
  have hB := hB.alloc (dspO (.slice none 0 0) (.slice none 0 0) 0 0)
  have hbb := below_next hbx hbx1
  rw [World.size_alloc] at hD
  have HC := keptI (hC.below hbb)
  have HP := keptI (hP.below hbb)
  have HB := keptI hbb
  have HBX := keptI hB
  have HDX := keptI hD
  clear hC hP hbx hbx1 hbb hB hD
  go_enter Try.func56, Try.ntmps56
  go_wp2_with fail
  generalize (w.alloc (.cells #[.slice (some ⟨g, 0, none⟩) n n, .slice (some ⟨h, 0, none⟩) m m, .int .i64 s, .int .i64 t] 25)).alloc (.cells #[.slice none 0 0, .slice none 0 0, .int .i64 0, .int .i64 0] 25) = wA at HC HP HB HBX HDX ⊢
  have hszA := HDX.out.lt
  have HD0 : Hid (Below wA.heap.size wA wA.drew) := (Below.refl _ _).drew
  have HS : Hid (∀ wy, Below wA.heap.size wA wy → (wy.cell? ⟨w.heap.size, 0, none⟩ = some (.slice (some ⟨g, 0, none⟩) n n) ∧ wy.cell? ⟨w.heap.size, 1, none⟩ = some (.slice (some ⟨h, 0, none⟩) m m) ∧ wy.cell? ⟨w.heap.size, 2, none⟩ = some (.int .i64 s) ∧ wy.cell? ⟨w.heap.size, 3, none⟩ = some (.int .i64 t))) := fun wy hb => (HBX.out.below hb HBX.out.lt).cells
  have HX : Hid (∀ wy, Below wA.heap.size wA wy → BoxD wy (w.heap.size + 1) (.slice none 0 0) (.slice none 0 0) 0 0) := fun wy hb => HDX.out.below hb HDX.out.lt
  have HQ : Hid (∀ wy c' p' (s' t' : Int), Below wA.heap.size wA wy → BoxD ((((wy.setCell ⟨w.heap.size + 1, 0, none⟩ c').setCell ⟨w.heap.size + 1, 1, none⟩ p').setCell ⟨w.heap.size + 1, 2, none⟩ (.int .i64 s')).setCell ⟨w.heap.size + 1, 3, none⟩ (.int .i64 t')) w.heap.size (.slice (some ⟨g, 0, none⟩) n n) (.slice (some ⟨h, 0, none⟩) m m) s t) := fun wy c' p' s' t' hb => (((((HBX.out.below hb HBX.out.lt).other (w.heap.size + 1) 0 c' (by omega)).other (w.heap.size + 1) 1 p' (by omega)).other (w.heap.size + 1) 2 (.int .i64 s') (by omega)).other (w.heap.size + 1) 3 (.int .i64 t') (by omega))
  have H1 : Hid (∀ wy, Below wA.heap.size wA wy → Calls Try.prog 53 #[.slice (some ⟨g, 0, none⟩) n n] wy fun e w' => WidOut C wy e w') := fun wy hb => (s_copyInts_d wy _ C (HC.out.below hb) (by omega) (.inl ⟨_, _, _, _, rfl⟩)).mono fun _ _ ⟨g9, c9, e1, e2, e3⟩ => ⟨_, _, _, e1, e2, e3⟩
  have H2 : Hid (∀ wy, Below wA.heap.size wA wy → Calls Try.prog 53 #[.slice (some ⟨h, 0, none⟩) m m] wy fun e w' => WidOut P wy e w') := fun wy hb => (s_copyInts_d wy _ P (HP.out.below hb) (by omega) (.inl ⟨_, _, _, _, rfl⟩)).mono fun _ _ ⟨g9, c9, e1, e2, e3⟩ => ⟨_, _, _, e1, e2, e3⟩
  go_region_held3 (fun wy => (wy.cell? ⟨w.heap.size, 0, none⟩ = some (.slice (some ⟨g, 0, none⟩) n n) ∧ wy.cell? ⟨w.heap.size, 1, none⟩ = some (.slice (some ⟨h, 0, none⟩) m m) ∧ wy.cell? ⟨w.heap.size, 2, none⟩ = some (.int .i64 s) ∧ wy.cell? ⟨w.heap.size, 3, none⟩ = some (.int .i64 t))) (first | assumption | exact HS.out _ HD0.out | exact HS.out _ HA5.out | exact HS.out _ HA6.out | exact (HQ.out _ _ _ _ _ HA6.out).cells) (first | (go_at_call 53; (with_reducible refine (H1.out _ HD0.out).mono ?_); rintro e w5 ⟨a5, n5, c5, rfl, hO5, hb5⟩; have HA5 := keptI (below_next HD0.out hb5); have hs5 := hb5.size; have HO5 := keptI hO5; clear hO5 hb5) | (go_at_call 53; (with_reducible refine (H2.out _ HA5.out).mono ?_); rintro e w6 ⟨a6, n6, c6, rfl, hO6, hb6⟩; have HA6 := keptI (below_next HA5.out hb6); have hs6 := hb6.size; have HO56 := keptI (HO5.out.below hb6); have HO6 := keptI hO6; obtain ⟨f0, f1, f2, f3⟩ := (HX.out w6 HA6.out).cells; have z0 := (HX.out w6 HA6.out).free 0; have z1 := (HX.out w6 HA6.out).free 1; have z2 := (HX.out w6 HA6.out).free 2; have z3 := (HX.out w6 HA6.out).free 3; clear hO6 hb6))
  all_goals
    have hk := ((((HX.out w6 HA6.out).set0 (.slice a5 n5 c5)).set1 (.slice a6 n6 c6)).set2 (s)).set3 t
    have hsd : wA.drew.heap.size = wA.heap.size := rfl
    have hA9 := (((HO56.out.otherD (w.heap.size + 1) 0 (.slice a5 n5 c5) (by omega)).otherD (w.heap.size + 1) 1 (.slice a6 n6 c6) (by omega)).otherD (w.heap.size + 1) 2 (.int .i64 (s)) (by omega)).otherD (w.heap.size + 1) 3 (.int .i64 t) (by omega)
    have hB9 := (((HO6.out.otherD (w.heap.size + 1) 0 (.slice a5 n5 c5) (by omega)).otherD (w.heap.size + 1) 1 (.slice a6 n6 c6) (by omega)).otherD (w.heap.size + 1) 2 (.int .i64 (s)) (by omega)).otherD (w.heap.size + 1) 3 (.int .i64 t) (by omega)
    have q1 : w.heap.size ≤ w.heap.size + 1 := by omega
    have h9 := ((((HB.out.trans (HA6.out.mono HB.out.size)).setCell (p := ⟨w.heap.size + 1, 0, none⟩) q1 (.slice a5 n5 c5)).setCell (p := ⟨w.heap.size + 1, 1, none⟩) q1 (.slice a6 n6 c6)).setCell (p := ⟨w.heap.size + 1, 2, none⟩) q1 (.int .i64 (s))).setCell (p := ⟨w.heap.size + 1, 3, none⟩) q1 (.int .i64 t)
    have hlt5 : ∀ k, (Value.slice a5 n5 c5).ownBlock = some k → k < w5.heap.size := fun k hk => (World.ownsRow.lt HO5.out k hk).2
    have FIN := keptI (And.intro hk (And.intro hA9 (And.intro hB9 (And.intro h9 hlt5))))
    clear hk hA9 hB9 h9 hlt5
    go_wp2
    refine bodyPost_ret (results_cell_row rfl _ _ (w.heap.size + 1) _ _ _ _ rfl FIN.out.1 Try.underlying25 rfl (by kernel_rfl)) rfl ?_
    exact ⟨w5.heap.size, a5, n5, c5, a6, n6, c6, rfl, ⟨World.ownsRow.mono FIN.out.2.1 (by omega), FIN.out.2.2.2.2, FIN.out.2.2.1, by omega, by simp [World.setCell]; omega⟩, FIN.out.2.2.2.1⟩
end Go.Proofs.Ytfgnckafpnobhaa
