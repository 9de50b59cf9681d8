
/- KeysOf of both sides. -/
import Derived.Test.YtjedkmhmkipkdaaBg
import Derived.Test.YtjedkmhmkipkdaaEb
import Derived.Test.YtjedkmhmkipkdaaOwnS
namespace Go.Proofs.Ytjedkmhmkipkdaa
open Go.RowKit

/-- the events of codes -/
def keysL (zs : List Int) : List Int := if CodesOk zs then evL zs else []
theorem keysL_len (zs : List Int) : (keysL zs).length ≤ 1000000 := by
  unfold keysL
  split
  · rename_i h
    have := evL_le zs
    have := h.1
    omega
  · simp
theorem evL_take {zs : List Int} {k : Nat} {y : Int} (h : k < zs.length) (hy : zs.getD k 0 = y) : evL (zs.take (k + 1)) = evL (zs.take k) ++ (keysUp y.toNat 7 ++ relUp y.toNat 7) := by
  rw [take_snoc h, hy, evL_append]
  simp [evL, codeEv]
/-- the first k codes are in range -/
def CdUp (zs : List Int) (k : Nat) : Prop := ∀ i, i < k → 1 ≤ zs.getD i 0 ∧ zs.getD i 0 ≤ 127
theorem CdUp.zero (zs : List Int) : CdUp zs 0 := fun i h => absurd h (by omega)
theorem CdUp.succ {zs : List Int} {k : Nat} (h : CdUp zs k) (e : 1 ≤ zs.getD k 0 ∧ zs.getD k 0 ≤ 127) : CdUp zs (k + 1) := fun i hi => by
  by_cases hik : i = k
  · subst hik; exact e
  · exact h i (by omega)
theorem CdUp.all {zs : List Int} {n : Nat} (h : CdUp zs n) (hn : zs.length = n) : ∀ z ∈ zs, 1 ≤ z ∧ z ≤ 127 := by
  intro z hz
  obtain ⟨i, hi, rfl⟩ := List.getElem_of_mem hz
  have := h i (by omega)
  simpa [List.getD_eq_getElem?_getD, hi] using this
theorem not_codes {zs : List Int} {k n : Nat} {y : Int} (hn : zs.length = n) (hk : k < n) (hy : zs.getD k 0 = y) (e : y < 1 ∨ 127 < y) : ¬ CodesOk zs := by
  rintro ⟨_, h⟩
  have hm : y ∈ zs := by rw [← hy]; exact mem_atB (by omega)
  have := h y hm
  omega
set_option maxHeartbeats 1000000 in
theorem i_areCodes (w : World) (u : Value) (zs : List Int) (b : Bool) (hx : IntsAt w u zs) (hb : Hid (decide (CodesOk zs) = b)) :
    Calls Try.prog 41 #[u] w fun e w' => e = .returned (.bool b) ∧ w = w' := by
  obtain ⟨a, c, rfl, x1, x2, x3⟩ := hx
  obtain ⟨n, hn⟩ : ∃ n, zs.length = n := ⟨_, rfl⟩
  rw [hn] at x1 x3 ⊢
  have HN := Lib.hid hn
  clear hn
  by_cases hbig : n ≤ 20
  · go_enter Try.func41, Try.ntmps41
    go_wp2
    go_loop [10] (fun i => ∃ k : Nat, k ≤ n ∧ i = .int .i64 k ∧ Hid (CdUp zs k)) (fun i => n - (intOf i).toNat)
    case atStart => exact ⟨0, Nat.zero_le _, rfl, CdUp.zero _⟩
    case round =>
      obtain ⟨k, hk, rfl, hs⟩ := hrel
      by_cases hlt : k < n
      · rcases x3 with rfl | ⟨g, off, rfl, x3⟩
        · exact absurd HN.out (by simp; omega)
        have cx := x3 k hlt
        obtain ⟨y, hy⟩ : ∃ y, zs.getD k 0 = y := ⟨_, rfl⟩
        rw [hy] at cx
        have HY := Lib.hid hy
        clear hy x3
        by_cases e : 1 ≤ y ∧ y ≤ 127
        · obtain ⟨e1, e2⟩ := e
          have hs' : Hid (CdUp zs (k + 1)) := hs.out.succ (by rw [HY.out]; exact ⟨e1, e2⟩)
          have d1 : decide (y < 1) = false := decide_eq_false (by omega)
          have d2 : decide (127 < y) = false := decide_eq_false (by omega)
          go_wp2
          go_round
          case rel => exact ⟨k + 1, by omega, by go_num, hs'⟩
          case measure => simp [intOf]; omega
        · have e' : y < 1 ∨ 127 < y := by omega
          have HF : Hid (b = false) := by show _ = _; rw [← hb.out]; exact decide_eq_false (not_codes HN.out hlt HY.out e')
          clear e
          rcases e' with e' | e'
          · have d1 : decide (y < 1) = true := decide_eq_true e'
            go_wp2
            go_ret
            exact ⟨ret_bool HF.out.symm, rfl⟩
          · have d1 : decide (y < 1) = false := decide_eq_false (by omega)
            have d2 : decide (127 < y) = true := decide_eq_true e'
            go_wp2
            go_ret
            exact ⟨ret_bool HF.out.symm, rfl⟩
      · obtain rfl : k = n := by omega
        have HT : Hid (b = true) := by show _ = _; rw [← hb.out]; exact decide_eq_true ⟨by rw [HN.out]; exact hbig, hs.out.all HN.out⟩
        go_wp2
        go_ret
        exact ⟨ret_bool HT.out.symm, rfl⟩
  · have hbig' : 20 < n := by omega
    have HF : Hid (b = false) := by show _ = _; rw [← hb.out]; exact decide_eq_false (fun h => hbig (by have := h.1; rw [HN.out] at this; exact this))
    go_enter Try.func41, Try.ntmps41
    go_wp2
    go_ret
    exact ⟨ret_bool HF.out.symm, rfl⟩
theorem div_tab : ∀ c : Nat, c < 128 → ∀ k : Nat, k < 7 → (c &&& kb ((k : Int) + 1) = 0 ↔ ¬ c / 2 ^ k % 2 = 1) := by decide +kernel
theorem kb_pow (k : Nat) : kb ((k : Int) + 1) = 2 ^ k := by unfold kb; congr 1; omega
set_option maxHeartbeats 1000000 in
theorem i_keysIn (c : Nat) (w : World) (hc : c < 128) :
    Calls Try.prog 42 #[.int .i64 c] w fun e w' => ∃ a n cp, e = .returned (.slice a n cp) ∧ OwnInts w' w.heap.size (.slice a n cp) (keysUp c 7) ∧ Below w.heap.size w w' := by
  obtain ⟨i0, hi, hz0, hz1, hz2⟩ := info_parts infoInt
  go_enter Try.func42, Try.ntmps42
  go_wp2
  go_loopw [3, 4] (fun v i wr => ∃ k : Nat, k ≤ 7 ∧ i = .int .i64 ((k : Int) + 1) ∧ OwnInts wr w.heap.size v (keysUp c k) ∧ Below w.heap.size w wr) (fun _ i _ => 9 - (intOf i).toNat)
  case atStart => exact ⟨0, by omega, rfl, OwnInts.nil _ _, Below.refl _ _⟩
  case round =>
    obtain ⟨k, hk, rfl, hown, hb⟩ := hrel
    have hsz := hb.size
    by_cases hlt : k < 7
    · have hle := keysUp_le c k
      have hd := div_tab c hc k hlt
      have ha := bne_of_beq (and_kb c hc k hlt)
      obtain ⟨v, hv⟩ : ∃ v : Int, ((kb ((k : Int) + 1) : Nat) : Int) = v := ⟨_, rfl⟩
      rw [hv] at ha
      have HV := Lib.hid hv
      obtain ⟨D, hD⟩ : ∃ D, keysUp c k = D := ⟨_, rfl⟩
      rw [hD] at hown hle
      have HD := Lib.hid hD
      clear hD hv
      by_cases hbit : c / 2 ^ k % 2 = 1
      · have hS : Hid (keysUp c (k + 1) = D ++ [(k : Int) + 1]) := by show keysUp c (k + 1) = _; rw [keysUp, if_pos hbit, HD.out]
        rw [decide_eq_false (fun h => hd.1 h hbit)] at ha
        clear hd hbit
        go_wp2_with (first | (go_at_call 54; refine (i_keyBit _ v _ (by omega) (by omega) HV).mono ?_; rintro e w' ⟨rfl, rfl⟩) | (at_builtin; refine wpList_append_own _ rfl _ _ 23 rfl w.heap.size 3 i0 (.int .i64 0) 1 8 Try.underlying23 hi hz0 hz1 hz2 rfl (by decide) _ _ _ rfl (hown.alloc _) ⟨wr.heap.size, 0, none⟩ 1 1 [.int .i64 ((k : Int) + 1)] rfl rfl new_one one_cell (by unfold maxLen; omega) (by omega) (by simp; omega) ?_))
        intro v' w1 hown' hgrow _
        have R1 := OwnInts.snoc hown'
        have R2 := below_append hb hsz hown hgrow
        clear hown' hgrow hown hb
        go_wp2
        go_roundw
        case rel => exact ⟨k + 1, by omega, by go_num, by rw [hS.out]; exact R1, R2⟩
        case measure => simp [intOf]; omega
      · have hS : Hid (keysUp c (k + 1) = D) := by show keysUp c (k + 1) = _; rw [keysUp, if_neg hbit, HD.out]
        rw [decide_eq_true (hd.2 hbit)] at ha
        clear hd hbit
        go_wp2_with (go_at_call 54; refine (i_keyBit _ v _ (by omega) (by omega) HV).mono ?_; rintro e w' ⟨rfl, rfl⟩)
        go_roundw
        case rel => exact ⟨k + 1, by omega, by go_num, by rw [hS.out]; exact hown, hb⟩
        case measure => simp [intOf]; omega
    · obtain rfl : k = 7 := by omega
      obtain ⟨_, _, _, rfl⟩ := hown.isSliceB
      go_wp2
      go_ret
      exact ⟨_, _, _, rfl, hown, hb⟩
theorem keysUp_getD_mem {c k : Nat} (h : k < (keysUp c 7).length) : 1 ≤ (keysUp c 7).getD k 0 ∧ (keysUp c 7).getD k 0 ≤ 7 := by
  have key : ∀ j, ∀ z ∈ keysUp c j, 1 ≤ z ∧ z ≤ j := by
    intro j
    induction j with
    | zero => intro z hz; simp [keysUp] at hz
    | succ j ih =>
      intro z hz
      simp only [keysUp] at hz
      split at hz
      · rcases List.mem_append.1 hz with hz | hz
        · have := ih z hz; omega
        · simp at hz; omega
      · have := ih z hz; omega
  exact key 7 _ (mem_atB h)
theorem keysUp_ne : ∀ m : Nat, m < 128 → 1 ≤ m → 1 ≤ (keysUp m 7).length := by decide +kernel
set_option maxHeartbeats 2000000 in
theorem i_KeysOf (w : World) (u : Value) (zs L : List Int) (hx : IntsAt w u zs) (_hf : Fits zs) (hL : Hid (keysL zs = L)) :
    Calls Try.prog 25 #[u] w fun e w' => ∃ a n c, e = .returned (.slice a n c) ∧ OwnInts w' w.heap.size (.slice a n c) L ∧ Below w.heap.size w w' := by
  obtain ⟨i0, hi, hz0, hz1, hz2⟩ := info_parts infoInt
  have HX := Lib.hid hx
  obtain ⟨a, c, rfl, x1, x2, x3⟩ := hx
  obtain ⟨n, hn⟩ : ∃ n, zs.length = n := ⟨_, rfl⟩
  rw [hn] at x1 x3 HX ⊢
  have HN := Lib.hid hn
  clear hn _hf
  by_cases hc : CodesOk zs
  · have HB := Lib.hid (decide_eq_true hc)
    have hLe : Hid (L = evL zs) := by show _ = _; rw [← hL.out]; exact if_pos hc
    have hn20 : n ≤ 20 := by have := hc.1; have := HN.out; omega
    have HC : Hid (∀ z ∈ zs, 1 ≤ z ∧ z ≤ 127) := hc.2
    clear hc hL
    go_enter Try.func25, Try.ntmps25
    go_wp2_with (go_at_call 41; refine (i_areCodes _ _ zs true HX.out HB).mono ?_; rintro e w' ⟨rfl, rfl⟩)
    go_loopw [3, 14] (fun v i wr => ∃ k : Nat, k ≤ n ∧ i = .int .i64 k ∧ Hid (OwnInts wr w.heap.size v (evL (zs.take k))) ∧ Hid (Below w.heap.size w wr)) (fun _ i _ => n - (intOf i).toNat)
    case atStart => exact ⟨0, Nat.zero_le _, rfl, OwnInts.nil _ _, Below.refl _ _⟩
    case round =>
      obtain ⟨wo, rfl⟩ : ∃ wo, wo = wr := ⟨wr, rfl⟩
      obtain ⟨k, hk, rfl, hown, hb⟩ := hrel
      obtain ⟨ao, no, co, hoo⟩ := hown.out.isSliceB
      subst hoo
      have hsz := hb.out.size
      by_cases hlt : k < n
      · rcases x3 with rfl | ⟨g, off, rfl, x3⟩
        · exact absurd HN.out (by simp; omega)
        have cx := (hb.out.cell (World.block_lt_of_cell? w _ (x3 k hlt))).trans (x3 k hlt)
        obtain ⟨y, hy⟩ : ∃ y, zs.getD k 0 = y := ⟨_, rfl⟩
        have hkl : k < zs.length := by rw [HN.out]; exact hlt
        have hyb := HC.out y (by rw [← hy]; exact mem_atB hkl)
        have HST := Lib.hid (evL_take hkl hy)
        rw [hy] at cx
        obtain ⟨m, rfl⟩ : ∃ m : Nat, y = m := ⟨y.toNat, by omega⟩
        rw [Int.toNat_natCast] at HST
        have hm : m < 128 := by omega
        have hEl : (evL (zs.take k)).length ≤ 280 := by have := evL_le (zs.take k); rw [List.length_take] at this; omega
        obtain ⟨E, hE⟩ : ∃ E, evL (zs.take k) = E := ⟨_, rfl⟩
        rw [hE] at hown HST hEl
        clear hy hkl hE x3
        go_wp2_with fail
        refine (i_keysIn m _ hm).mono ?_
        rintro e w1 ⟨a1, n1, c1, rfl, hO1, hb1⟩
        have hKl := keysUp_le m 7
        have hKne := keysUp_ne m hm (by omega)
        have hKm : Hid (∀ k, k < (keysUp m 7).length → 1 ≤ (keysUp m 7).getD k 0 ∧ (keysUp m 7).getD k 0 ≤ 7) := fun k h => keysUp_getD_mem h
        have HRL := Lib.hid (relUp_map m 7)
        obtain ⟨K, hK⟩ : ∃ K, keysUp m 7 = K := ⟨_, rfl⟩
        rw [hK] at hO1 HST hKl hKm HRL hKne
        have hown1 := keptE (hown.out.below hb1)
        have hB1 := keptE (hb.out.trans (hb1.mono hsz))
        have hs1 := hB1.out.size
        have HN1 : Hid (K.length = n1) := by obtain ⟨_, _, e, _⟩ := hO1.at; injection e with _ e2 _; exact e2.symm
        have hn17 : n1 ≤ 7 := by rw [← HN1.out]; exact hKl
        have hn10 : 1 ≤ n1 := by rw [← HN1.out]; exact hKne
        obtain ⟨g1, c1', hg1, hgb⟩ := hO1.shape (by rw [HN1.out]; exact hn10)
        injection hg1 with hga hgn hgc
        subst hga hgc
        have hg1s := (hO1.lt g1 rfl).2
        have HO1 := keptE hO1
        have HV0 : Hid (∀ b, (Value.slice ao no co).ownBlock = some b → b < wo.heap.size) := fun b hb' => (World.ownsRow.lt hown.out b hb').2
        have hl1 : Hid ((ints K).length = n1 * 1) := by show _ = _; rw [ints_length, HN1.out, Nat.mul_one]
        have HNW := keptE hO1.at.newsB
        clear hO1 hb1 hown hb hK hKl hgn hKne
        go_wp2_with (at_builtin; refine wpList_append_own_at _ rfl _ _ 23 rfl w.heap.size 3 i0 (.int .i64 0) 1 8 Try.underlying23 hi hz0 hz1 hz2 rfl (by decide) _ _ _ rfl hown1.out ⟨g1, 0, none⟩ n1 c1 (ints K) rfl hl1.out HNW.out (ints_oneE K) (by unfold maxLen; omega) (by omega) hs1 ?_)
        intro v2 w2 hown2 hgrow2 hnil2 hblk2
        have hB2 := keptE (hB1.out.grown hgrow2 hs1 (fun q hq => (hown1.out.lt q hq).1))
        have HK2 : Hid (OwnInts w2 wo.heap.size (.slice (some ⟨g1, 0, none⟩) n1 c1) K) := HO1.out.beside hgrow2 (fun e => by have := HV0.out g1 e; omega)
        have hO2 := keptE (OwnInts.addAllE hown2 (by rw [HN1.out]))
        have HV2 : Hid (∀ b, v2.ownBlock = some b → b ≠ g1) := fun b hb' e => by
          subst e
          rcases hblk2 with h | h
          · rw [h] at hb'; have := HV0.out b hb'; omega
          · rw [h] at hb'; injection hb' with hb'; omega
        obtain ⟨a2, n2, c2, rfl⟩ := hO2.out.isSliceB
        have HRLN : Hid ((relUp m 7).length = n1) := by show _ = _; rw [HRL.out, List.length_map, HN1.out]
        have hE2 : E.length + K.length ≤ 287 := by rw [HN1.out]; omega
        have HEK : Hid (evL (zs.take (k + 1)) = E ++ K ++ (relUp m 7).take n1) := by show _ = _; rw [HST.out, show (relUp m 7).take n1 = relUp m 7 from List.take_of_length_le (by rw [HRLN.out]; exact Nat.le_refl _), List.append_assoc]
        have HKR : Hid (∀ j, j < n1 → (relUp m 7).getD j 0 = -(K.getD j 0)) := fun j hj => by
          rw [HRL.out, List.getD_eq_getElem?_getD, List.getElem?_map, List.getD_eq_getElem?_getD, List.getElem?_eq_getElem (by rw [HN1.out]; exact hj)]
          rfl
        clear hown2 hgrow2 hblk2 hown1 hB1 HNW hnil2 HO1 HST hs1 hg1s
        go_wp2_with fail
        go_loopw [3, 25] (fun v y wr => ∃ j : Nat, j ≤ n1 ∧ y = .int .i64 j ∧ Hid (OwnInts wr w.heap.size v (E ++ K ++ (relUp m 7).take j)) ∧ Hid (Below w.heap.size w wr) ∧ Hid (OwnInts wr wo.heap.size (.slice (some ⟨g1, 0, none⟩) n1 c1) K) ∧ Hid (∀ b, v.ownBlock = some b → b ≠ g1)) (fun _ y _ => n1 - (intOf y).toNat)
        case atStart => exact ⟨0, Nat.zero_le _, rfl, by simpa using hO2, hB2, HK2, HV2⟩
        case round =>
          clear hO2 hB2 HK2 HV2
          obtain ⟨j, hj, rfl, hO, hB, hKo, hV⟩ := hrel
          have hsj := hB.out.size
          by_cases hlj : j < n1
          · have hc := hKo.out.cell HN1.out hlj
            have hkm := hKm.out j (by rw [HN1.out]; exact hlj)
            have hRj := HKR.out j hlj
            obtain ⟨x, hx⟩ : ∃ x, K.getD j 0 = x := ⟨_, rfl⟩
            rw [hx] at hc hkm hRj
            have HSJ : Hid (E ++ K ++ (relUp m 7).take (j + 1) = (E ++ K ++ (relUp m 7).take j) ++ [-x]) := by
              show _ = _
              rw [take_snoc (by rw [HRLN.out]; exact hlj), hRj, ← List.append_assoc]
            have hlen : (E ++ K ++ (relUp m 7).take j).length ≤ 300 := by rw [List.length_append, List.length_append, List.length_take]; omega
            obtain ⟨Z, hZ⟩ : ∃ Z, E ++ K ++ (relUp m 7).take j = Z := ⟨_, rfl⟩
            rw [hZ] at hO HSJ hlen
            have hgs : Hid (g1 < wr.heap.size) := (hKo.out.lt g1 rfl).2
            have uw : IntKind.i64.wrap (-x) = -x := IntWalk.i64_in _ (by omega)
            have hO' := hO.out
            clear hx hZ hRj
            go_wp2_with (at_builtin; refine wpList_append_own_at _ rfl _ _ 23 rfl w.heap.size 3 i0 (.int .i64 0) 1 8 Try.underlying23 hi hz0 hz1 hz2 rfl (by decide) _ _ _ rfl (hO'.alloc _) ⟨wr.heap.size, 0, none⟩ 1 1 [.int .i64 (-x)] rfl rfl new_one one_cell (by unfold maxLen; omega) (by omega) (by simp; omega) ?_)
            intro v' w6 hown' hgrow _ hblk
            have HO6 := keptE (OwnInts.snoc hown')
            have HB6 := keptE (below_append hB.out hsj hO.out hgrow)
            have HK6 : Hid (OwnInts w6 wo.heap.size (.slice (some ⟨g1, 0, none⟩) n1 c1) K) := OwnInts.beside (hKo.out.alloc _) hgrow (fun e => hV.out g1 e rfl)
            have HV6 : Hid (∀ b, v'.ownBlock = some b → b ≠ g1) := fun b hb' e => by
              subst e
              have := hgs.out
              rcases hblk with h | h
              · rw [h] at hb'; exact hV.out b hb' rfl
              · rw [h] at hb'; injection hb' with hb'; omega
            clear hown' hgrow hblk hO' hO hB hKo hV
            go_wp2
            go_roundw
            case rel => exact ⟨j + 1, by omega, by go_num, keptE (by rw [HSJ.out]; exact HO6.out), HB6, HK6, HV6⟩
            case measure => simp [intOf]; omega
          · obtain rfl : j = n1 := by omega
            have HO9 : Hid (OwnInts wr w.heap.size _ (evL (zs.take (k + 1)))) := keptE (by rw [HEK.out]; exact hO.out)
            have HB9 := hB
            clear hO hKo hV hB
            go_wp2
            go_roundw
            case rel => exact ⟨k + 1, by omega, by go_num, HO9, HB9⟩
            case measure => simp [intOf]; omega
      · obtain rfl : k = n := by omega
        have HF : Hid (OwnInts wo w.heap.size (.slice ao no co) L) := by
          have h := hown.out
          rw [List.take_of_length_le (by rw [HN.out]; exact Nat.le_refl _), ← hLe.out] at h
          exact h
        clear hown
        go_wp2
        go_ret
        exact ⟨_, _, _, rfl, HF.out, hb.out⟩
  · have HB := Lib.hid (decide_eq_false hc)
    have hLe : Hid (L = []) := by show _ = _; rw [← hL.out]; exact if_neg hc
    clear hc hL
    go_enter Try.func25, Try.ntmps25
    go_wp2_with (go_at_call 41; refine (i_areCodes _ _ zs false HX.out HB).mono ?_; rintro e w' ⟨rfl, rfl⟩)
    go_ret
    exact ⟨_, _, _, rfl, by rw [hLe.out]; exact OwnInts.nil _ _, Below.refl _ _⟩
end Go.Proofs.Ytjedkmhmkipkdaa
