
/- costs of the model. -/
import Derived.Test.YtekchmbbafjmmaaPdg
import Derived.StillTailTactics
namespace Go.Proofs.Ytekchmbbafjmmaa
open Go.RowKit

set_option maxRecDepth 20000 in
set_option maxHeartbeats 8000000 in
theorem s_costs (w : World) (u v : Value) (A B : List Int) (hA : IntsAt w u A) (hB : IntsAt w v B) (ha30 : A.length ≤ 30) (hb30 : B.length ≤ 30) (hcA : ∀ z ∈ A, Cl z) (hcB : ∀ z ∈ B, Cl z) :
    Calls Try.prog 62 #[u, v] w fun e w' => PlOut (gridOf (A.length + 1) (B.length + 1) (dF A B)) w e w' := by
  obtain ⟨i0, hi, hz0, hz1, hz2⟩ := info_parts infoInt
  have HA := keptI hA
  have HB := keptI hB
  have HCA := keptI hcA
  have HCB := keptI hcB
  obtain ⟨a, n, ca, rfl, hn, xa1, xa2, xa3⟩ := hA.partsI
  obtain ⟨b, m, cb, rfl, hm, xb1, xb2, xb3⟩ := hB.partsI
  have HN := Lib.hid hn
  have HM := Lib.hid hm
  rw [hn] at ha30
  rw [hm] at hb30
  obtain ⟨n1, hn1⟩ : ∃ n1, n + 1 = n1 := ⟨_, rfl⟩
  obtain ⟨m1, hm1⟩ : ∃ m1, m + 1 = m1 := ⟨_, rfl⟩
  obtain ⟨f, hf⟩ : ∃ f, dF A B = f := ⟨_, rfl⟩
  have HF := Lib.hid hf
  have HN1 := Lib.hid hn1
  have HM1 := Lib.hid hm1
  rw [hn, hm, hn1, hm1, hf]
  have u2 : IntKind.i64.wrap ((m : Int) + 1) = (m1 : Int) := by rw [show ((m : Int) + 1) = (m1 : Int) from by omega]; exact IntWalk.i64_in _ (by omega)
  have bn1 : 1 ≤ n1 ∧ n1 ≤ 31 := by omega
  have bm1 : 1 ≤ m1 ∧ m1 ≤ 31 := by omega
  have XA := keptI xa3
  have XB := keptI xb3
  have hO0 : OwnLL (w.alloc (.cells #[] 28)) w.heap.size (w.heap.size + 1) (.slice (some ⟨w.heap.size, 0, none⟩) 0 0) (gridOf 0 m1 fun _ _ => 0) := by rw [← World.size_alloc w (.cells #[] 28)]; exact OwnLL.madeI w w.heap.size (Nat.le_refl _)
  have hB0 : Below w.heap.size w (w.alloc (.cells #[] 28)) := (Below.refl _ _).alloc (Nat.le_refl _) _
  have hs0 : (w.alloc (.cells #[] 28)).heap.size = w.heap.size + 1 := World.size_alloc _ _
  rw [← hs0] at hO0
  clear hA hB hcA hcB hn hm hn1 hm1 hf xa3 xb3 hs0
  go_enter Try.func62, Try.ntmps62
  go_wp2
  have HO0 := keptI hO0
  have HB0 := keptI hB0
  clear hO0 hB0
  go_loopw [5, 6] (fun o i wr => ∃ k : Nat, k ≤ n1 ∧ i = .int .i64 k ∧ OwnLL wr w.heap.size wr.heap.size o (gridOf k m1 fun _ _ => 0) ∧ Below w.heap.size w wr) (fun _ i _ => n1 - (intOf i).toNat)
  case atStart => exact ⟨0, Nat.zero_le _, rfl, HO0.out, HB0.out⟩
  case round =>
    clear HO0 HB0
    obtain ⟨k, hk, rfl, hO, hB⟩ := hrel
    have hsz := hB.size
    have HO := keptI hO
    have HBr := keptI hB
    obtain ⟨ao, no, co, hoo⟩ := hO.ls.isSlice
    subst hoo
    have hl := gridOf_len k m1 fun _ _ => 0
    obtain ⟨P, hP⟩ : ∃ P, gridOf k m1 (fun _ _ => 0) = P := ⟨_, rfl⟩
    have HP := Lib.hid hP
    rw [hP] at HO hl
    clear hO hB hP
    by_cases hlt : k < n1
    · have hkn : (k : Int) ≤ (n : Int) := by have := HN1.out; omega
      have dkn : decide ((k : Int) ≤ (n : Int)) = true := decide_eq_true hkn
      have dkn2 : k ≤ n := by omega
      have hl8 : P.length ≤ 100000 := by omega
      have HPL := Lib.hid hl
      clear hl
      go_wp2_with (at_make; refine wpList_make_full _ rfl _ _ 28 rfl wr.heap.size 3 i0 (.int .i64 0) 1 Try.underlying28 hi hz0 hz1 .i64 .i64 m1 m1 m1 rfl rfl rfl rfl (by rw [hz2]; omega) (by unfold maxLen; omega) (Nat.le_refl _) ?_)
      intro w1 hown hgr
      rw [made_ints, ints_rep] at hown
      have HI1 : Hid (OwnInts w1 wr.heap.size (.slice (some ⟨wr.heap.size, 0, none⟩) m1 m1) (rowOf m1 fun _ => 0)) := by
        show w1.ownsRow _ _ _ _ _ _; rw [rowOf_len]; exact hown
      have hB1 : Below wr.heap.size wr w1 := ⟨hgr.os, hgr.tape, hgr.output, hgr.size, fun k hk => hgr.block k hk (by simp)⟩
      have HB1 := keptI (HBr.out.trans (hB1.mono hsz))
      have HO1 := keptI (HO.out.below hB1 (Nat.le_refl _))
      have hs1 := hB1.size
      clear hown hgr hB1
      have hal : Below w1.heap.size w1 (w1.alloc (.cells #[.slice (some ⟨wr.heap.size, 0, none⟩) m1 m1] 28)) := (Below.refl _ _).alloc (Nat.le_refl _) _
      have HO8 := keptI (HO1.out.below hal hs1)
      have HE8 := keptI (HI1.out.below hal)
      have HC8 : Hid ((w1.alloc (.cells #[.slice (some ⟨wr.heap.size, 0, none⟩) m1 m1] 28)).cell? ⟨w1.heap.size, 0, none⟩ = some (.slice (some ⟨wr.heap.size, 0, none⟩) m1 m1)) := by
        show _ = _
        rw [cell_of_row _ w1.heap.size 0 _ _ _ (heap_alloc_new w1 _)]; rfl
      clear hal
      go_wp2_with (at_builtin; refine wpList_append_ll rfl _ _ rfl w.heap.size wr.heap.size w1.heap.size wr.heap.size m1 m1 (rowOf m1 fun _ => 0) rfl rfl HO8.out HC8.out HE8.out (rowOf_len _ _) hl8 hsz ?_)
      intro v9 w9 hown9 hgrow9
      have HO9 : Hid (OwnLL w9 w.heap.size w9.heap.size v9 (gridOf (k + 1) m1 fun _ _ => 0)) := by show OwnLL _ _ _ _ _; rw [gridOf_succ, HP.out]; exact hown9
      have HB9 := keptI (grown_llI HB1.out (by omega) HO1.out hgrow9)
      clear hown9 hgrow9
      go_wp2
      go_roundw
      case rel => exact ⟨k + 1, by omega, by go_num, HO9.out, HB9.out⟩
      case measure => simp [intOf]; omega
    · obtain rfl : k = n1 := by omega
      have dkn : decide ((k : Int) ≤ (n : Int)) = false := decide_eq_false (by have := HN1.out; omega)
      have dkn2 : decide (k ≤ n) = false := decide_eq_false (by have := HN1.out; omega)
      have HOx : Hid (OwnLL wr w.heap.size wr.heap.size (.slice ao no co) (gridOf k m1 (dnTo f k m1))) := by
        show OwnLL _ _ _ _ _
        rw [dn_none, HP.out]; exact HO.out
      clear HO HP hl
      rename World => w1
      have hO1 := HOx.out
      obtain ⟨hn2, g1, _, _, ha1, _⟩ := hO1.dot (y := 0) (x := 0) (by omega) (by omega)
      obtain rfl : no = k := hn2
      subst ha1
      have HO1 := keptI hO1
      have HB1 := keptI HBr.out
      have hs1 := hsz
      clear hO1 HOx HBr u2
      go_wp2
      go_loopw [7] (fun i wr => ∃ (k : Nat) (ii : Int), k ≤ no ∧ i = .int .i64 ii ∧ Hid (ii = (k : Int) - 1) ∧ OwnLL wr w.heap.size w1.heap.size (.slice (some ⟨g1, 0, none⟩) no co) (gridOf no m1 (dnTo f k m1)) ∧ Below w.heap.size w wr) (fun i _ => (intOf i + 1).toNat)
      case atStart => exact ⟨no, n, Nat.le_refl _, rfl, by show _ = _; have := HN1.out; omega, HO1.out, HB1.out⟩
      case round =>
        clear HO1 HB1
        obtain ⟨k, ii, hk, rfl, hii, hO, hB⟩ := hrel
        rename World => wo
        have hsz := hB.size
        have HO := keptI hO
        have HBo := keptI hB
        clear hO hB
        by_cases hk0 : k = 0
        · subst hk0
          have d0 : decide (0 ≤ ii) = false := decide_eq_false (by have := hii.out; omega)
          go_wp2
          go_ret
          exact ⟨_, _, _, rfl, by have h9 := HO.out; rw [dn_all] at h9; exact h9.top h9.1 (Nat.le_refl _), HBo.out⟩
        · obtain ⟨y, rfl⟩ : ∃ y, k = y + 1 := ⟨k - 1, by omega⟩
          obtain rfl : ii = (y : Int) := by have := hii.out; omega
          clear hii
          go_wp2
          go_loopw [8] (fun j wx => ∃ (q : Nat) (jj : Int), q ≤ m1 ∧ j = .int .i64 jj ∧ Hid (jj = (q : Int) - 1) ∧ OwnLL wx w.heap.size w1.heap.size (.slice (some ⟨g1, 0, none⟩) no co) (gridOf no m1 (dnTo f (y + 1) q)) ∧ Below w.heap.size w wx) (fun j _ => (intOf j + 1).toNat)
          case atStart => exact ⟨m1, m, Nat.le_refl _, rfl, by show _ = _; have := HM1.out; omega, HO.out, HBo.out⟩
          case round =>
            clear HO HBo
            obtain ⟨q, jj, hq, rfl, hjj, hO, hB⟩ := hrel
            have HO := keptI hO
            have HBx := keptI hB
            have hszr := hB.size
            by_cases hq0 : q = 0
            · subst hq0
              have d0 : decide (0 ≤ jj) = false := decide_eq_false (by have := hjj.out; omega)
              clear hO hB
              go_wp2
              go_roundw
              case rel => exact ⟨y, (y : Int) - 1, by omega, by go_num, rfl, by have h9 := HO.out; rw [dn_row] at h9; exact h9, HBx.out⟩
              case measure => simp [intOf]
            · obtain ⟨x, rfl⟩ : ∃ x, q = x + 1 := ⟨q - 1, by omega⟩
              obtain rfl : jj = (x : Int) := by have := hjj.out; omega
              clear hjj
              have hy : y < no := by omega
              have hx : x < m1 := by omega
              obtain ⟨_, hp⟩ := hO.pic (by omega) (by omega)
              obtain ⟨V, hV⟩ : ∃ V, f y x = V := ⟨_, rfl⟩
              obtain ⟨_, g2, b2, d2, e2, hb1, hb2, k1, k2, k3, k4, k5, kset⟩ := hO.dot hy hx
              injection e2 with e2
              injection e2 with e2 _
              subst e2
              have hall : ∀ wy, Below wr.heap.size wr wy → wy.cell? ⟨g1, y, none⟩ = some (.slice (some ⟨b2, 0, none⟩) m1 d2) ∧ wy.cell? ⟨b2, x, none⟩ = some (.int .i64 (dnTo f (y + 1) (x + 1) y x)) ∧ wy.frozen? ⟨b2, x, none⟩ = false ∧ OwnLL (wy.setCell ⟨b2, x, none⟩ (.int .i64 V)) w.heap.size w1.heap.size (.slice (some ⟨g1, 0, none⟩) no co) (gridOf no m1 (dnTo f (y + 1) x)) := fun wy hb => by
                have hO2 := hO.below hb hO.1
                obtain ⟨_, g3, b3, d3, e3, _, _, k1', k2', k3', _, _, kset'⟩ := hO2.dot hy hx
                injection e3 with e3
                injection e3 with e3 _
                subst e3
                have e4 := (hb.cell (World.block_lt_of_cell? wr _ k1)).trans k1
                rw [k1'] at e4
                injection e4 with e4
                injection e4 with e4 _ _
                injection e4 with e4
                injection e4 with e4 _ _
                subst e4
                refine ⟨(hb.cell (World.block_lt_of_cell? wr _ k1)).trans k1, k2', k3', ?_⟩
                have h9 := (kset' V).1
                rw [← hV, dn_upd] at h9
                rw [← hV]; exact h9
              have HALL := keptI hall
              obtain ⟨Q, hQ⟩ : ∃ Q, dnTo f (y + 1) (x + 1) y x = Q := ⟨_, rfl⟩
              rw [hQ] at HALL
              have hb2w := hb1
              have q1 : (0 : Int) ≤ (y : Int) := by omega
              have q2 : (y : Int) < (no : Int) := by omega
              have q3 : (0 : Int) ≤ (x : Int) := by omega
              have q4 : (x : Int) < (m1 : Int) := by omega
              have hgb : g1 ≠ b2 := hO.ne hy rfl k1
              have HV := Lib.hid hV
              have bd := dF_bd A B y x
              rw [HF.out, hV] at bd
              have hln := HN.out
              have hlm := HM.out
              have hn1 := HN1.out
              have hm1 := HM1.out
              obtain ⟨_, k2w, k3w, ksw⟩ := hall wr (Below.refl _ _)
              by_cases hyn : y = n
              · have HE : Hid (4 * ((m : Int) - (x : Int)) = V) := by
                  show _ = _
                  rw [← hV, ← HF.out, hyn, ← hln]
                  rcases dF_endA (A := A) (B := B) (j := x) with h | h
                  · rw [h, hlm]
                  · omega
                have dA : ((y : Int) == (n : Int)) = true := by simp; omega
                have e1 : IntKind.i64.wrap ((m : Int) - (x : Int)) = (m : Int) - (x : Int) := IntWalk.i64_in _ (by omega)
                have e2 : IntKind.i64.wrap (4 * ((m : Int) - (x : Int))) = V := by rw [HE.out]; exact IntWalk.i64_in _ (by omega)
                have HS6 := keptI ksw
                have HB6 : Hid (Below w.heap.size w (wr.setCell ⟨b2, x, none⟩ (.int .i64 V))) := HBx.out.setCell (p := ⟨b2, x, none⟩) hb1 _
                have hve := HE.out
                clear hall kset k2 k3 hQ HALL HO hO hB hV hp hgb ksw HE hyn hln hlm hn1 hm1 xa1 xb1
                subst hve
                go_wp2
                go_roundw
                case rel => exact ⟨x, (x : Int) - 1, by omega, by go_num, rfl, HS6.out, HB6.out⟩
                case measure => simp [intOf]
              have dA : ((y : Int) == (n : Int)) = false := by simp; omega
              by_cases hxm : x = m
              · have HE : Hid (4 * ((n : Int) - (y : Int)) = V) := by
                  show _ = _
                  rw [← hV, ← HF.out, hxm, ← hlm]
                  rcases dF_endB (A := A) (B := B) (i := y) with h | h
                  · rw [h, hln]
                  · omega
                have dB : ((x : Int) == (m : Int)) = true := by simp; omega
                have e1 : IntKind.i64.wrap ((n : Int) - (y : Int)) = (n : Int) - (y : Int) := IntWalk.i64_in _ (by omega)
                have e2 : IntKind.i64.wrap (4 * ((n : Int) - (y : Int))) = V := by rw [HE.out]; exact IntWalk.i64_in _ (by omega)
                have HS6 := keptI ksw
                have HB6 : Hid (Below w.heap.size w (wr.setCell ⟨b2, x, none⟩ (.int .i64 V))) := HBx.out.setCell (p := ⟨b2, x, none⟩) hb1 _
                have hve := HE.out
                clear hall kset k2 k3 hQ HALL HO hO hB hV hp hgb ksw HE hyn hxm hln hlm hn1 hm1 xa1 xb1
                subst hve
                go_wp2
                go_roundw
                case rel => exact ⟨x, (x : Int) - 1, by omega, by go_num, rfl, HS6.out, HB6.out⟩
                case measure => simp [intOf]
              have dB : ((x : Int) == (m : Int)) = false := by simp; omega
              have hst := dF_step (A := A) (B := B) (i := y) (j := x) (by omega) (by omega)
              have bd1 := dF_bd A B (y + 1) x
              have bd2 := dF_bd A B y (x + 1)
              have bd3 := dF_bd A B (y + 1) (x + 1)
              obtain ⟨y1, hy1⟩ : ∃ y1, y + 1 = y1 := ⟨_, rfl⟩
              obtain ⟨x1, hx1⟩ : ∃ x1, x + 1 = x1 := ⟨_, rfl⟩
              obtain ⟨_, _, gg, off, hgg, hrow⟩ := hp
              injection hgg with hgg
              injection hgg with hgg hoff _
              subst hgg
              subst hoff
              obtain ⟨b1', o1, d1', r1, _, _, r4⟩ := hrow y1 (by omega)
              obtain ⟨b0, o0, d0, s1, _, _, s4⟩ := hrow y (by omega)
              have t1 := r4 x (by omega)
              have t2 := r4 x1 (by omega)
              have t3 := s4 x1 (by omega)
              rw [Nat.zero_add] at r1 s1
              rw [k1] at s1
              injection s1 with s1
              injection s1 with s1 _ _
              injection s1 with s1
              injection s1 with s1 so _
              subst s1
              subst so
              rw [Nat.zero_add] at t3
              unfold dnTo at t1 t2 t3
              rw [if_pos (by omega)] at t1 t2 t3
              rw [← HF.out, ← hy1] at t1 t2
              rw [← HF.out, ← hx1] at t3
              rw [← hx1] at t2
              have hVd : dF A B y x = V := by rw [HF.out]; exact hV
              rw [hVd] at hst
              obtain ⟨ga, oa, rfl, xa3⟩ : ∃ ga oa, a = some ⟨ga, oa, none⟩ ∧ ∀ i, i < n → w.cell? ⟨ga, oa + i, none⟩ = some (.int .i64 (A.getD i 0)) := by
                rcases XA.out with h | h
                · omega
                · exact h
              obtain ⟨gb, ob, rfl, xb3⟩ : ∃ gb ob, b = some ⟨gb, ob, none⟩ ∧ ∀ i, i < m → w.cell? ⟨gb, ob + i, none⟩ = some (.int .i64 (B.getD i 0)) := by
                rcases XB.out with h | h
                · omega
                · exact h
              have ea := (hB.cell (World.block_lt_of_cell? w _ (xa3 y (by omega)))).trans (xa3 y (by omega))
              have eb := (hB.cell (World.block_lt_of_cell? w _ (xb3 x (by omega)))).trans (xb3 x (by omega))
              have hAm : A.getD y 0 ∈ A := by rw [List.getD_eq_getElem?_getD, List.getElem?_eq_getElem (by omega)]; exact List.getElem_mem _
              have hBm : B.getD x 0 ∈ B := by rw [List.getD_eq_getElem?_getD, List.getElem?_eq_getElem (by omega)]; exact List.getElem_mem _
              obtain ⟨p, hp⟩ : ∃ p : Nat, A.getD y 0 = p := ⟨(A.getD y 0).toNat, by have := (HCA.out _ hAm).1; omega⟩
              obtain ⟨q, hq⟩ : ∃ q : Nat, B.getD x 0 = q := ⟨(B.getD x 0).toNat, by have := (HCB.out _ hBm).1; omega⟩
              have hp64 : p < 64 := by have := (HCA.out _ hAm).2; omega
              have hq64 : q < 64 := by have := (HCB.out _ hBm).2; omega
              rw [hp] at ea hst
              rw [hq] at eb hst
              obtain ⟨c, hc⟩ : ∃ c, sw (p : Int) (q : Int) = c := ⟨_, rfl⟩
              have hc6 := sw_le (p : Int) (q : Int)
              rw [hc] at hst hc6
              have HSW : Hid (∀ n, Calls Try.prog 76 #[.int .i64 p, .int .i64 q] (wr.drewN n) fun e w' => e = .returned (.int .i64 (c : Int)) ∧ w' = wr.drewN n) := fun n => by
                rw [← hc]; exact (s_dotsDiffer p q _ hp64 hq64).mono fun _ _ h => ⟨h.1, h.2.symm⟩
              obtain ⟨X, hX⟩ : ∃ X, dF A B (y + 1) x = X := ⟨_, rfl⟩
              obtain ⟨Y, hY⟩ : ∃ Y, dF A B y (x + 1) = Y := ⟨_, rfl⟩
              obtain ⟨Z, hZ⟩ : ∃ Z, dF A B (y + 1) (x + 1) = Z := ⟨_, rfl⟩
              rw [hX] at bd1 t1 hst
              rw [hY] at bd2 t3 hst
              rw [hZ] at bd3 t2 hst
              rw [hx1] at t2 t3
              have v1 : IntKind.i64.wrap ((y : Int) + 1) = (y1 : Int) := by rw [show ((y : Int) + 1) = (y1 : Int) from by omega]; exact IntWalk.i64_in _ (by omega)
              have v2 : IntKind.i64.wrap ((x : Int) + 1) = (x1 : Int) := by rw [show ((x : Int) + 1) = (x1 : Int) from by omega]; exact IntWalk.i64_in _ (by omega)
              have v3 : IntKind.i64.wrap (Z + (c : Int)) = Z + (c : Int) := IntWalk.i64_in _ (by omega)
              obtain ⟨M, hM⟩ : ∃ M, min X Y = M := ⟨_, rfl⟩
              have hMb : 0 ≤ M ∧ M ≤ 240 := by omega
              have v4 : IntKind.i64.wrap (M + 4) = M + 4 := IntWalk.i64_in _ (by omega)
              have z1 : (if Y < X then Y else X) = M := by rw [← hM]; split <;> omega
              have z2 : (if M + 4 < Z + (c : Int) then M + 4 else Z + (c : Int)) = V := by rw [hst, ← hM]; split <;> omega
              have q5 : (y1 : Int) < (no : Int) := by omega
              have q6 : (x1 : Int) < (m1 : Int) := by omega
              have q7 : (y : Int) < (n : Int) := by omega
              have q8 : (x : Int) < (m : Int) := by omega
              have n1' : y1 < no := by omega
              have n2' : x1 < m1 := by omega
              have n3' : y < n := by omega
              have n4' : x < m := by omega
              have p1 : (0 : Int) ≤ (y1 : Int) := by omega
              have p2 : (0 : Int) ≤ (x1 : Int) := by omega
              obtain ⟨_, f4, f5, f6⟩ := hall wr.drew (Below.refl _ _).drew
              have HS6 := keptI f6
              have HB6 : Hid (Below w.heap.size w (wr.drew.setCell ⟨b2, x, none⟩ (.int .i64 V))) := HBx.out.drew.setCell (p := ⟨b2, x, none⟩) hb1 _
              have k1d : wr.drew.cell? ⟨g1, y, none⟩ = some (.slice (some ⟨b2, 0, none⟩) m1 d2) := k1
              clear hall kset k2 k3 hQ HALL HO hO hB hV hp hgb ksw hyn hxm hln hlm hn1 hm1 xa1 xb1 f6 hrow r4 s4 xa3 xb3 hAm hBm hq hc hX hY hZ hM hst hy1 hx1 bd bd1 bd2 bd3
              go_wp2_with fail
              go_still_tail 44, (by kernel_rfl)
              still_call (HSW.out _)
              repeat still_step
              refine wpStill_nil ?_
              change wpList _ _ _ _ _ wr.drew
              go_wp2
              go_roundw
              case rel => exact ⟨x, (x : Int) - 1, by omega, by go_num, rfl, HS6.out, HB6.out⟩
              case measure => simp [intOf]
end Go.Proofs.Ytekchmbbafjmmaa
