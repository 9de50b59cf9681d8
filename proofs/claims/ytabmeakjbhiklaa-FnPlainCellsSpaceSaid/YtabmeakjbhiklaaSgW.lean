
/- FnPlainCellsSigns: its walk. -/
import Derived.Test.YtabmeakjbhiklaaSgM
import Derived.Test.YtabmeakjbhiklaaPrK
namespace Go.Proofs.Ytabmeakjbhiklaa
open Go.RowKit

theorem count_take_z {zs : List Int} {z : Int} {k : Nat} (h : k < zs.length) : (zs.take (k + 1)).count z = (zs.take k).count z + if zs.getD k 0 = z then 1 else 0 := by
  rw [List.take_succ_eq_append_getElem h, List.count_append, List.getD_eq_getElem?_getD, List.getElem?_eq_getElem h, Option.getD_some]
  by_cases e : zs[k] = z
  · rw [if_pos e, e]; simp
  · rw [if_neg e, List.count_singleton]; simp [e]

set_option maxHeartbeats 1000000 in
theorem count_any (w : World) (u : Value) (zs : List Int) (z : Int) (c : Nat) (hx : IntsAt w u zs) (hc : Hid (zs.count z = c)) :
    Calls Try.prog 22 #[u, .int .i64 z] w fun e w' => e = .returned (.int .i64 c) ∧ w = w' := by
  obtain ⟨a, cp, rfl, x1, x2, x3⟩ := hx
  obtain ⟨n, hn⟩ : ∃ n, zs.length = n := ⟨_, rfl⟩
  rw [hn] at x1 x3 ⊢
  have HN := Lib.hid hn
  clear hn
  go_enter Try.func22, Try.ntmps22
  go_wp2
  go_loop [5, 6] (fun m i => ∃ k q : Nat, k ≤ n ∧ i = .int .i64 k ∧ m = .int .i64 q ∧ q ≤ k ∧ Hid ((zs.take k).count z = q)) (fun _ i => n - (intOf i).toNat)
  case atStart => exact ⟨0, 0, Nat.zero_le _, rfl, rfl, by omega, rfl⟩
  case round =>
    obtain ⟨k, q, hk, rfl, rfl, hqk, hq⟩ := hrel
    by_cases hlt : k < n
    · rcases x3 with rfl | ⟨g, off, rfl, x3⟩
      · exact absurd HN.out (by simp; omega)
      have cx := x3 k hlt
      have hct := count_take_z (zs := zs) (z := z) (k := k) (by rw [HN.out]; exact hlt)
      obtain ⟨y, hy⟩ : ∃ y, zs.getD k 0 = y := ⟨_, rfl⟩
      rw [hy] at cx hct
      clear hy x3
      by_cases e : y = z
      · have e1 : (y == z) = true := by simpa using e
        have hq' : Hid ((zs.take (k + 1)).count z = q + 1) := by show _ = _; rw [hct, if_pos e, hq.out]
        clear e hct
        go_wp2
        go_round
        case rel => exact ⟨k + 1, q + 1, by omega, by go_num, by go_num, by omega, hq'⟩
        case measure => simp [intOf]; omega
      · have e1 : (y == z) = false := by simpa using e
        have hq' : Hid ((zs.take (k + 1)).count z = q) := by show _ = _; rw [hct, if_neg e, hq.out]; rfl
        clear e hct
        go_wp2
        go_round
        case rel => exact ⟨k + 1, q, by omega, by go_num, rfl, by omega, hq'⟩
        case measure => simp [intOf]; omega
    · have hqc : q = c := by rw [← hq.out, ← hc.out, List.take_of_length_le (by have := HN.out; omega)]
      clear hc
      subst hqc
      go_wp2
      go_ret
      exact ⟨rfl, rfl⟩

set_option maxHeartbeats 8000000 in
theorem plainCellsSigns_walk (a : Option Addr) (len cap : Nat) (zs : List Int) (w : World) (h : RowIn .u8 w a len cap zs) :
    Calls Try.prog 7 #[.slice a len cap] w fun e w' => e = .returned (.bool true) ∧ Below w.heap.size w w' := by
  have hlen : len ≤ 9223372036854775807 := by
    obtain ⟨_, h2, h3⟩ := bytesAt_of_row h; unfold maxLen at h3; omega
  by_cases hbig : len ≤ 1048576
  · go_enter Try.func7, Try.ntmps7
    go_wp2_with fail
    refine (drawPlainCells_any w a len cap zs h).mono ?_
    rintro e w1 ⟨s, rfl, hs, hb1⟩
    clear h
    by_cases hv : ValidT s.data.toList
    · obtain ⟨D, hD⟩ : ∃ D, plainC s.data.toList = D := ⟨_, rfl⟩
      have HB := Lib.hid (decide_eq_true hv)
      have HI : Hid (∀ w, Calls Try.prog 12 #[.string s] w fun e w' => PlainYes D w e w') := fun w => (i_PlainCells s _ w (Txt.of s) rfl hv).mono fun _ _ h => by rw [hD] at h; exact plainYes_of h
      have HS : Hid (∀ w, Calls Try.prog 11 #[.string s] w fun e w' => PlainYes D w e w') := fun w => (s_PlainCells s _ w (Txt.of s) rfl hv).mono fun _ _ h => by rw [hD] at h; exact plainYes_of h
      have hct := plain_count hv
      have hcp := plain_cap hv
      rw [hD] at hct hcp
      obtain ⟨l, hL⟩ : ∃ l, s.data.toList = l := ⟨_, rfl⟩
      have hl := size_data s
      have hT := Txt.of s
      have hs60 : s.size ≤ 60 := by have := hv.1; rw [size_data] at this; exact this
      rw [hL] at hct hcp hT hl
      rw [hl] at hct hcp
      have HT := Lib.hid hT
      have HCT := Lib.hid hct
      have HCP := Lib.hid hcp
      clear hv hD hL hct hcp hT hl
      go_wp2_with fail
      refine (HI.out _).mono ?_
      rintro e w2 ⟨a2, n2, c2, rfl, ho2, hb2⟩
      have hB2 := below_next hb1 hb2
      have hx2 := ho2.at
      have hn2 : Hid (D.length = n2) := by obtain ⟨_, _, h, _⟩ := hx2; injection h with _ h2; exact h2.symm
      clear ho2
      go_wp2_with fail
      refine (HS.out _).mono ?_
      rintro e w3 ⟨a3, n3, c3, rfl, ho3, hb3⟩
      have hB3 := below_next hB2 hb3
      have hx3 := hx2.below hb3
      go_wp2_with fail
      refine (equalInts_same4 _ _ _ D hx3 ho3.at).mono ?_
      rintro e w4 ⟨rfl, hb4⟩
      have hB4 := below_next hB3 hb4
      have hx4 := hx3.below hb4
      clear ho3
      go_wp2_with fail
      refine (i_ValidText_v s true _ (by omega) HB).mono ?_
      rintro e w5 ⟨rfl, hb5⟩
      have hB5 := below_next hB4 hb5
      have hx5 := hx4.below hb5
      go_wp2_with fail
      go_loop [5, 6, 7] (fun n c i => ∃ (k q : Nat) (cb : Bool), k ≤ s.size ∧ i = .int .i64 k ∧ n = .int .i64 q ∧ c = .bool cb ∧ q ≤ k ∧ Hid (stC l k = q) ∧ Hid (cpC l k = cb)) (fun _ _ i => s.size - (intOf i).toNat)
      case atStart => exact ⟨0, 0, false, by omega, rfl, rfl, rfl, by omega, rfl, rfl⟩
      case round =>
        obtain ⟨k, q, cb, hk, rfl, rfl, rfl, hqk, hn, hc⟩ := hrel
        by_cases hlt : k < s.size
        · obtain ⟨h2, hbk⟩ := HT.out.2 k hlt
          by_cases hdc : 48 ≤ (s[k]).toNat ∧ (s[k]).toNat ≤ 57
          · have hdg : digBt (s[k]).toNat = true := by exact decide_eq_true (by omega)
            cases k with
            | zero =>
              cases cb with
              | true =>
                have d1 : decide ((48 : Int) ≤ (((s[0]'hlt).toNat : Nat) : Int)) = true := decide_eq_true (by omega)
                have d2 : decide ((((s[0]'hlt).toNat : Nat) : Int) ≤ 57) = true := decide_eq_true (by omega)
                have d3 : decide ((65 : Int) ≤ (((s[0]'hlt).toNat : Nat) : Int)) = false := decide_eq_false (by omega)
                have hcap : capB (s[0]).toNat = false := by unfold capB; exact decide_eq_false (by omega)
                have hst : stB l 0 = true := by rw [stB, getD_at h2, hbk, hdg]; rfl
                have hn' : Hid (stC l (0 + 1) = q + 1) := by show _ = _; rw [stC, hst, hn.out]; rfl
                have hc' : Hid (cpC l (0 + 1) = true) := by show _ = _; rw [cpC, hc.out, getD_at h2, hbk, hcap]; rfl
                clear hst hcap hbk
                go_wp2
                go_round
                case rel => exact ⟨0 + 1, q + 1, true, by omega, by go_num, by go_num, rfl, by omega, hn', hc'⟩
                case measure => simp [intOf]; omega
              | false =>
                have d1 : decide ((48 : Int) ≤ (((s[0]'hlt).toNat : Nat) : Int)) = true := decide_eq_true (by omega)
                have d2 : decide ((((s[0]'hlt).toNat : Nat) : Int) ≤ 57) = true := decide_eq_true (by omega)
                have d3 : decide ((65 : Int) ≤ (((s[0]'hlt).toNat : Nat) : Int)) = false := decide_eq_false (by omega)
                have hcap : capB (s[0]).toNat = false := by unfold capB; exact decide_eq_false (by omega)
                have hst : stB l 0 = true := by rw [stB, getD_at h2, hbk, hdg]; rfl
                have hn' : Hid (stC l (0 + 1) = q + 1) := by show _ = _; rw [stC, hst, hn.out]; rfl
                have hc' : Hid (cpC l (0 + 1) = false) := by show _ = _; rw [cpC, hc.out, getD_at h2, hbk, hcap]; rfl
                clear hst hcap hbk
                go_wp2
                go_round
                case rel => exact ⟨0 + 1, q + 1, false, by omega, by go_num, by go_num, rfl, by omega, hn', hc'⟩
                case measure => simp [intOf]; omega
            | succ j =>
              have hj : j < s.size := by omega
              obtain ⟨hj2, hbj⟩ := HT.out.2 j hj
              have e0 : (((j + 1 : Nat) : Int) == 0) = false := by simp; omega
              by_cases p1 : (s[j]).toNat < 48
              · cases cb with
                | true =>
                  have d1 : decide ((48 : Int) ≤ (((s[(j + 1)]'hlt).toNat : Nat) : Int)) = true := decide_eq_true (by omega)
                  have d2 : decide ((((s[(j + 1)]'hlt).toNat : Nat) : Int) ≤ 57) = true := decide_eq_true (by omega)
                  have d3 : decide ((65 : Int) ≤ (((s[(j + 1)]'hlt).toNat : Nat) : Int)) = false := decide_eq_false (by omega)
                  have hcap : capB (s[(j + 1)]).toNat = false := by unfold capB; exact decide_eq_false (by omega)
                  have f1 : decide ((((s[j]'hj).toNat : Nat) : Int) < 48) = true := decide_eq_true (by omega)
                  have hst : stB l (j + 1) = true := by rw [stB, getD_at h2, hbk, hdg, dB, getD_at hj2, hbj, show digBt (s[j]).toNat = false from decide_eq_false (by omega)]; rfl
                  clear hbj hj2 hdg
                  have hn' : Hid (stC l ((j + 1) + 1) = q + 1) := by show _ = _; rw [stC, hst, hn.out]; rfl
                  have hc' : Hid (cpC l ((j + 1) + 1) = true) := by show _ = _; rw [cpC, hc.out, getD_at h2, hbk, hcap]; rfl
                  clear hst hcap hbk
                  go_wp2
                  go_round
                  case rel => exact ⟨(j + 1) + 1, q + 1, true, by omega, by go_num, by go_num, rfl, by omega, hn', hc'⟩
                  case measure => simp [intOf]; omega
                | false =>
                  have d1 : decide ((48 : Int) ≤ (((s[(j + 1)]'hlt).toNat : Nat) : Int)) = true := decide_eq_true (by omega)
                  have d2 : decide ((((s[(j + 1)]'hlt).toNat : Nat) : Int) ≤ 57) = true := decide_eq_true (by omega)
                  have d3 : decide ((65 : Int) ≤ (((s[(j + 1)]'hlt).toNat : Nat) : Int)) = false := decide_eq_false (by omega)
                  have hcap : capB (s[(j + 1)]).toNat = false := by unfold capB; exact decide_eq_false (by omega)
                  have f1 : decide ((((s[j]'hj).toNat : Nat) : Int) < 48) = true := decide_eq_true (by omega)
                  have hst : stB l (j + 1) = true := by rw [stB, getD_at h2, hbk, hdg, dB, getD_at hj2, hbj, show digBt (s[j]).toNat = false from decide_eq_false (by omega)]; rfl
                  clear hbj hj2 hdg
                  have hn' : Hid (stC l ((j + 1) + 1) = q + 1) := by show _ = _; rw [stC, hst, hn.out]; rfl
                  have hc' : Hid (cpC l ((j + 1) + 1) = false) := by show _ = _; rw [cpC, hc.out, getD_at h2, hbk, hcap]; rfl
                  clear hst hcap hbk
                  go_wp2
                  go_round
                  case rel => exact ⟨(j + 1) + 1, q + 1, false, by omega, by go_num, by go_num, rfl, by omega, hn', hc'⟩
                  case measure => simp [intOf]; omega
              · by_cases p2 : 57 < (s[j]).toNat
                · cases cb with
                  | true =>
                    have d1 : decide ((48 : Int) ≤ (((s[(j + 1)]'hlt).toNat : Nat) : Int)) = true := decide_eq_true (by omega)
                    have d2 : decide ((((s[(j + 1)]'hlt).toNat : Nat) : Int) ≤ 57) = true := decide_eq_true (by omega)
                    have d3 : decide ((65 : Int) ≤ (((s[(j + 1)]'hlt).toNat : Nat) : Int)) = false := decide_eq_false (by omega)
                    have hcap : capB (s[(j + 1)]).toNat = false := by unfold capB; exact decide_eq_false (by omega)
                    have f1 : decide ((((s[j]'hj).toNat : Nat) : Int) < 48) = false := decide_eq_false (by omega)
                    have f2 : decide ((57 : Int) < (((s[j]'hj).toNat : Nat) : Int)) = true := decide_eq_true (by omega)
                    have hst : stB l (j + 1) = true := by rw [stB, getD_at h2, hbk, hdg, dB, getD_at hj2, hbj, show digBt (s[j]).toNat = false from decide_eq_false (by omega)]; rfl
                    clear hbj hj2 hdg
                    have hn' : Hid (stC l ((j + 1) + 1) = q + 1) := by show _ = _; rw [stC, hst, hn.out]; rfl
                    have hc' : Hid (cpC l ((j + 1) + 1) = true) := by show _ = _; rw [cpC, hc.out, getD_at h2, hbk, hcap]; rfl
                    clear hst hcap hbk
                    go_wp2
                    go_round
                    case rel => exact ⟨(j + 1) + 1, q + 1, true, by omega, by go_num, by go_num, rfl, by omega, hn', hc'⟩
                    case measure => simp [intOf]; omega
                  | false =>
                    have d1 : decide ((48 : Int) ≤ (((s[(j + 1)]'hlt).toNat : Nat) : Int)) = true := decide_eq_true (by omega)
                    have d2 : decide ((((s[(j + 1)]'hlt).toNat : Nat) : Int) ≤ 57) = true := decide_eq_true (by omega)
                    have d3 : decide ((65 : Int) ≤ (((s[(j + 1)]'hlt).toNat : Nat) : Int)) = false := decide_eq_false (by omega)
                    have hcap : capB (s[(j + 1)]).toNat = false := by unfold capB; exact decide_eq_false (by omega)
                    have f1 : decide ((((s[j]'hj).toNat : Nat) : Int) < 48) = false := decide_eq_false (by omega)
                    have f2 : decide ((57 : Int) < (((s[j]'hj).toNat : Nat) : Int)) = true := decide_eq_true (by omega)
                    have hst : stB l (j + 1) = true := by rw [stB, getD_at h2, hbk, hdg, dB, getD_at hj2, hbj, show digBt (s[j]).toNat = false from decide_eq_false (by omega)]; rfl
                    clear hbj hj2 hdg
                    have hn' : Hid (stC l ((j + 1) + 1) = q + 1) := by show _ = _; rw [stC, hst, hn.out]; rfl
                    have hc' : Hid (cpC l ((j + 1) + 1) = false) := by show _ = _; rw [cpC, hc.out, getD_at h2, hbk, hcap]; rfl
                    clear hst hcap hbk
                    go_wp2
                    go_round
                    case rel => exact ⟨(j + 1) + 1, q + 1, false, by omega, by go_num, by go_num, rfl, by omega, hn', hc'⟩
                    case measure => simp [intOf]; omega
                · cases cb with
                  | true =>
                    have d1 : decide ((48 : Int) ≤ (((s[(j + 1)]'hlt).toNat : Nat) : Int)) = true := decide_eq_true (by omega)
                    have d2 : decide ((((s[(j + 1)]'hlt).toNat : Nat) : Int) ≤ 57) = true := decide_eq_true (by omega)
                    have d3 : decide ((65 : Int) ≤ (((s[(j + 1)]'hlt).toNat : Nat) : Int)) = false := decide_eq_false (by omega)
                    have hcap : capB (s[(j + 1)]).toNat = false := by unfold capB; exact decide_eq_false (by omega)
                    have f1 : decide ((((s[j]'hj).toNat : Nat) : Int) < 48) = false := decide_eq_false (by omega)
                    have f2 : decide ((57 : Int) < (((s[j]'hj).toNat : Nat) : Int)) = false := decide_eq_false (by omega)
                    have hst : stB l (j + 1) = false := by rw [stB, getD_at h2, hbk, hdg, dB, getD_at hj2, hbj, show digBt (s[j]).toNat = true from decide_eq_true (by omega)]; rfl
                    clear hbj hj2 hdg
                    have hn' : Hid (stC l ((j + 1) + 1) = q) := by show _ = _; rw [stC, hst, hn.out]; rfl
                    have hc' : Hid (cpC l ((j + 1) + 1) = true) := by show _ = _; rw [cpC, hc.out, getD_at h2, hbk, hcap]; rfl
                    clear hst hcap hbk
                    go_wp2
                    go_round
                    case rel => exact ⟨(j + 1) + 1, q, true, by omega, by go_num, by go_num, rfl, by omega, hn', hc'⟩
                    case measure => simp [intOf]; omega
                  | false =>
                    have d1 : decide ((48 : Int) ≤ (((s[(j + 1)]'hlt).toNat : Nat) : Int)) = true := decide_eq_true (by omega)
                    have d2 : decide ((((s[(j + 1)]'hlt).toNat : Nat) : Int) ≤ 57) = true := decide_eq_true (by omega)
                    have d3 : decide ((65 : Int) ≤ (((s[(j + 1)]'hlt).toNat : Nat) : Int)) = false := decide_eq_false (by omega)
                    have hcap : capB (s[(j + 1)]).toNat = false := by unfold capB; exact decide_eq_false (by omega)
                    have f1 : decide ((((s[j]'hj).toNat : Nat) : Int) < 48) = false := decide_eq_false (by omega)
                    have f2 : decide ((57 : Int) < (((s[j]'hj).toNat : Nat) : Int)) = false := decide_eq_false (by omega)
                    have hst : stB l (j + 1) = false := by rw [stB, getD_at h2, hbk, hdg, dB, getD_at hj2, hbj, show digBt (s[j]).toNat = true from decide_eq_true (by omega)]; rfl
                    clear hbj hj2 hdg
                    have hn' : Hid (stC l ((j + 1) + 1) = q) := by show _ = _; rw [stC, hst, hn.out]; rfl
                    have hc' : Hid (cpC l ((j + 1) + 1) = false) := by show _ = _; rw [cpC, hc.out, getD_at h2, hbk, hcap]; rfl
                    clear hst hcap hbk
                    go_wp2
                    go_round
                    case rel => exact ⟨(j + 1) + 1, q, false, by omega, by go_num, by go_num, rfl, by omega, hn', hc'⟩
                    case measure => simp [intOf]; omega
          · by_cases q0 : (s[k]).toNat < 48
            · cases cb with
              | true =>
                have d1 : decide ((48 : Int) ≤ (((s[k]'hlt).toNat : Nat) : Int)) = false := decide_eq_false (by omega)
                have d3 : decide ((65 : Int) ≤ (((s[k]'hlt).toNat : Nat) : Int)) = false := decide_eq_false (by omega)
                have hcap : capB (s[k]).toNat = false := by unfold capB; exact decide_eq_false (by omega)
                have hst : stB l k = false := by rw [stB, getD_at h2, hbk, show digBt (s[k]).toNat = false from decide_eq_false (by omega)]; rfl
                have hn' : Hid (stC l (k + 1) = q) := by show _ = _; rw [stC, hst, hn.out]; rfl
                have hc' : Hid (cpC l (k + 1) = true) := by show _ = _; rw [cpC, hc.out, getD_at h2, hbk, hcap]; rfl
                clear hst hcap hbk
                go_wp2
                go_round
                case rel => exact ⟨k + 1, q, true, by omega, by go_num, by go_num, rfl, by omega, hn', hc'⟩
                case measure => simp [intOf]; omega
              | false =>
                have d1 : decide ((48 : Int) ≤ (((s[k]'hlt).toNat : Nat) : Int)) = false := decide_eq_false (by omega)
                have d3 : decide ((65 : Int) ≤ (((s[k]'hlt).toNat : Nat) : Int)) = false := decide_eq_false (by omega)
                have hcap : capB (s[k]).toNat = false := by unfold capB; exact decide_eq_false (by omega)
                have hst : stB l k = false := by rw [stB, getD_at h2, hbk, show digBt (s[k]).toNat = false from decide_eq_false (by omega)]; rfl
                have hn' : Hid (stC l (k + 1) = q) := by show _ = _; rw [stC, hst, hn.out]; rfl
                have hc' : Hid (cpC l (k + 1) = false) := by show _ = _; rw [cpC, hc.out, getD_at h2, hbk, hcap]; rfl
                clear hst hcap hbk
                go_wp2
                go_round
                case rel => exact ⟨k + 1, q, false, by omega, by go_num, by go_num, rfl, by omega, hn', hc'⟩
                case measure => simp [intOf]; omega
            · by_cases q1 : (s[k]).toNat < 65
              · cases cb with
                | true =>
                  have d1 : decide ((48 : Int) ≤ (((s[k]'hlt).toNat : Nat) : Int)) = true := decide_eq_true (by omega)
                  have d2 : decide ((((s[k]'hlt).toNat : Nat) : Int) ≤ 57) = false := decide_eq_false (by omega)
                  have d3 : decide ((65 : Int) ≤ (((s[k]'hlt).toNat : Nat) : Int)) = false := decide_eq_false (by omega)
                  have hcap : capB (s[k]).toNat = false := by unfold capB; exact decide_eq_false (by omega)
                  have hst : stB l k = false := by rw [stB, getD_at h2, hbk, show digBt (s[k]).toNat = false from decide_eq_false (by omega)]; rfl
                  have hn' : Hid (stC l (k + 1) = q) := by show _ = _; rw [stC, hst, hn.out]; rfl
                  have hc' : Hid (cpC l (k + 1) = true) := by show _ = _; rw [cpC, hc.out, getD_at h2, hbk, hcap]; rfl
                  clear hst hcap hbk
                  go_wp2
                  go_round
                  case rel => exact ⟨k + 1, q, true, by omega, by go_num, by go_num, rfl, by omega, hn', hc'⟩
                  case measure => simp [intOf]; omega
                | false =>
                  have d1 : decide ((48 : Int) ≤ (((s[k]'hlt).toNat : Nat) : Int)) = true := decide_eq_true (by omega)
                  have d2 : decide ((((s[k]'hlt).toNat : Nat) : Int) ≤ 57) = false := decide_eq_false (by omega)
                  have d3 : decide ((65 : Int) ≤ (((s[k]'hlt).toNat : Nat) : Int)) = false := decide_eq_false (by omega)
                  have hcap : capB (s[k]).toNat = false := by unfold capB; exact decide_eq_false (by omega)
                  have hst : stB l k = false := by rw [stB, getD_at h2, hbk, show digBt (s[k]).toNat = false from decide_eq_false (by omega)]; rfl
                  have hn' : Hid (stC l (k + 1) = q) := by show _ = _; rw [stC, hst, hn.out]; rfl
                  have hc' : Hid (cpC l (k + 1) = false) := by show _ = _; rw [cpC, hc.out, getD_at h2, hbk, hcap]; rfl
                  clear hst hcap hbk
                  go_wp2
                  go_round
                  case rel => exact ⟨k + 1, q, false, by omega, by go_num, by go_num, rfl, by omega, hn', hc'⟩
                  case measure => simp [intOf]; omega
              · by_cases q2 : (s[k]).toNat ≤ 90
                · cases cb with
                  | true =>
                    have d1 : decide ((48 : Int) ≤ (((s[k]'hlt).toNat : Nat) : Int)) = true := decide_eq_true (by omega)
                    have d2 : decide ((((s[k]'hlt).toNat : Nat) : Int) ≤ 57) = false := decide_eq_false (by omega)
                    have d3 : decide ((65 : Int) ≤ (((s[k]'hlt).toNat : Nat) : Int)) = true := decide_eq_true (by omega)
                    have d4 : decide ((((s[k]'hlt).toNat : Nat) : Int) ≤ 90) = true := decide_eq_true (by omega)
                    have hcap : capB (s[k]).toNat = true := by unfold capB; exact decide_eq_true (by omega)
                    have hst : stB l k = false := by rw [stB, getD_at h2, hbk, show digBt (s[k]).toNat = false from decide_eq_false (by omega)]; rfl
                    have hn' : Hid (stC l (k + 1) = q) := by show _ = _; rw [stC, hst, hn.out]; rfl
                    have hc' : Hid (cpC l (k + 1) = true) := by show _ = _; rw [cpC, hc.out, getD_at h2, hbk, hcap]; rfl
                    clear hst hcap hbk
                    go_wp2
                    go_round
                    case rel => exact ⟨k + 1, q, true, by omega, by go_num, by go_num, rfl, by omega, hn', hc'⟩
                    case measure => simp [intOf]; omega
                  | false =>
                    have d1 : decide ((48 : Int) ≤ (((s[k]'hlt).toNat : Nat) : Int)) = true := decide_eq_true (by omega)
                    have d2 : decide ((((s[k]'hlt).toNat : Nat) : Int) ≤ 57) = false := decide_eq_false (by omega)
                    have d3 : decide ((65 : Int) ≤ (((s[k]'hlt).toNat : Nat) : Int)) = true := decide_eq_true (by omega)
                    have d4 : decide ((((s[k]'hlt).toNat : Nat) : Int) ≤ 90) = true := decide_eq_true (by omega)
                    have hcap : capB (s[k]).toNat = true := by unfold capB; exact decide_eq_true (by omega)
                    have hst : stB l k = false := by rw [stB, getD_at h2, hbk, show digBt (s[k]).toNat = false from decide_eq_false (by omega)]; rfl
                    have hn' : Hid (stC l (k + 1) = q) := by show _ = _; rw [stC, hst, hn.out]; rfl
                    have hc' : Hid (cpC l (k + 1) = true) := by show _ = _; rw [cpC, hc.out, getD_at h2, hbk, hcap]; rfl
                    clear hst hcap hbk
                    go_wp2
                    go_round
                    case rel => exact ⟨k + 1, q, true, by omega, by go_num, by go_num, rfl, by omega, hn', hc'⟩
                    case measure => simp [intOf]; omega
                · cases cb with
                  | true =>
                    have d1 : decide ((48 : Int) ≤ (((s[k]'hlt).toNat : Nat) : Int)) = true := decide_eq_true (by omega)
                    have d2 : decide ((((s[k]'hlt).toNat : Nat) : Int) ≤ 57) = false := decide_eq_false (by omega)
                    have d3 : decide ((65 : Int) ≤ (((s[k]'hlt).toNat : Nat) : Int)) = true := decide_eq_true (by omega)
                    have d4 : decide ((((s[k]'hlt).toNat : Nat) : Int) ≤ 90) = false := decide_eq_false (by omega)
                    have hcap : capB (s[k]).toNat = false := by unfold capB; exact decide_eq_false (by omega)
                    have hst : stB l k = false := by rw [stB, getD_at h2, hbk, show digBt (s[k]).toNat = false from decide_eq_false (by omega)]; rfl
                    have hn' : Hid (stC l (k + 1) = q) := by show _ = _; rw [stC, hst, hn.out]; rfl
                    have hc' : Hid (cpC l (k + 1) = true) := by show _ = _; rw [cpC, hc.out, getD_at h2, hbk, hcap]; rfl
                    clear hst hcap hbk
                    go_wp2
                    go_round
                    case rel => exact ⟨k + 1, q, true, by omega, by go_num, by go_num, rfl, by omega, hn', hc'⟩
                    case measure => simp [intOf]; omega
                  | false =>
                    have d1 : decide ((48 : Int) ≤ (((s[k]'hlt).toNat : Nat) : Int)) = true := decide_eq_true (by omega)
                    have d2 : decide ((((s[k]'hlt).toNat : Nat) : Int) ≤ 57) = false := decide_eq_false (by omega)
                    have d3 : decide ((65 : Int) ≤ (((s[k]'hlt).toNat : Nat) : Int)) = true := decide_eq_true (by omega)
                    have d4 : decide ((((s[k]'hlt).toNat : Nat) : Int) ≤ 90) = false := decide_eq_false (by omega)
                    have hcap : capB (s[k]).toNat = false := by unfold capB; exact decide_eq_false (by omega)
                    have hst : stB l k = false := by rw [stB, getD_at h2, hbk, show digBt (s[k]).toNat = false from decide_eq_false (by omega)]; rfl
                    have hn' : Hid (stC l (k + 1) = q) := by show _ = _; rw [stC, hst, hn.out]; rfl
                    have hc' : Hid (cpC l (k + 1) = false) := by show _ = _; rw [cpC, hc.out, getD_at h2, hbk, hcap]; rfl
                    clear hst hcap hbk
                    go_wp2
                    go_round
                    case rel => exact ⟨k + 1, q, false, by omega, by go_num, by go_num, rfl, by omega, hn', hc'⟩
                    case measure => simp [intOf]; omega
        · have hke : k = s.size := by omega
          have hq : Hid (D.count 60 = q) := by show _ = _; rw [HCT.out, ← hn.out, hke]
          have hcb : Hid (decide (0 < D.count 32) = cb) := by show _ = _; rw [HCP.out, ← hc.out, hke]
          clear hke
          go_wp2_with fail
          refine (count_any _ _ D 60 q hx5 hq).mono ?_
          rintro e w' ⟨rfl, rfl⟩
          have e1 : ((q : Int) == (q : Int)) = true := by simp
          obtain ⟨m, hm⟩ : ∃ m, D.count 32 = m := ⟨_, rfl⟩
          rw [hm] at hcb
          have HM := Lib.hid hm
          clear hm
          cases cb with
          | true =>
            have e2 : decide ((0 : Int) < (m : Int)) = true := decide_eq_true (by have := of_decide_eq_true hcb.out; omega)
            go_wp2_with fail
            refine (count_any _ _ D 32 m hx5 HM).mono ?_
            rintro e w' ⟨rfl, rfl⟩
            go_wp2
            go_ret
            have hm0 : 0 < m := of_decide_eq_true hcb.out
            exact ⟨ret_bool (by simp; omega), hB5⟩
          | false =>
            have e2 : decide ((0 : Int) < (m : Int)) = false := decide_eq_false (by have := of_decide_eq_false hcb.out; omega)
            go_wp2_with fail
            refine (count_any _ _ D 32 m hx5 HM).mono ?_
            rintro e w' ⟨rfl, rfl⟩
            go_wp2
            go_ret
            have hm0 : ¬ 0 < m := of_decide_eq_false hcb.out
            exact ⟨ret_bool (by simp; omega), hB5⟩

    · have HB := Lib.hid (decide_eq_false hv)
      have HI : Hid (∀ w, Calls Try.prog 12 #[.string s] w fun e w' => CellsNil w e w') := fun w => i_PlainCells_no s w (by omega) hv
      have HS : Hid (∀ w, Calls Try.prog 11 #[.string s] w fun e w' => CellsNil w e w') := fun w => s_PlainCells_no s w (by omega) hv
      clear hv
      go_wp2_with fail
      refine (HI.out _).mono ?_
      rintro e w2 ⟨rfl, hb2⟩
      have hB2 := below_next hb1 hb2
      go_wp2_with fail
      refine (HS.out _).mono ?_
      rintro e w3 ⟨rfl, hb3⟩
      have hB3 := below_next hB2 hb3
      go_wp2_with fail
      refine (equalInts_same4 _ _ _ [] (IntsAt.nil _) (IntsAt.nil _)).mono ?_
      rintro e w4 ⟨rfl, hb4⟩
      have hB4 := below_next hB3 hb4
      go_wp2_with fail
      refine (i_ValidText_v s false _ (by omega) HB).mono ?_
      rintro e w5 ⟨rfl, hb5⟩
      have hB5 := below_next hB4 hb5
      go_wp2_with fail
      refine (HS.out _).mono ?_
      rintro e w6 ⟨rfl, hb6⟩
      have hB6 := below_next hB5 hb6
      go_wp2_with fail
      refine (equalInts_same4 _ _ _ [] (IntsAt.nil _) (IntsAt.nil _)).mono ?_
      rintro e w7 ⟨rfl, hb7⟩
      go_wp2
      go_ret
      exact ⟨rfl, below_next hB6 hb7⟩
  · have hbig' : 1048576 < len := by omega
    go_enter Try.func7, Try.ntmps7
    go_wp2
    go_ret
    exact ⟨rfl, Below.refl _ _⟩
end Go.Proofs.Ytabmeakjbhiklaa
