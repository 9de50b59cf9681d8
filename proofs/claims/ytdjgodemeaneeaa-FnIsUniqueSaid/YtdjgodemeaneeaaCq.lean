
/- All rests of a code, in the program. -/
import Derived.Test.YtdjgodemeaneeaaCp
namespace Go.Proofs.Ytdjgodemeaneeaa
open Go.RowKit

theorem code_word {w : World} {a : Option Addr} {n c : Nat} {L : List (List Int)} (h : ListsAt w (.slice a n c) L) (hv : ValidCd L) (hn : L.length = n) {k : Nat} (hk : k < n) :
    ∃ g off ax lx cx, a = some ⟨g, off, none⟩ ∧ w.cell? ⟨g, off + k, none⟩ = some (.slice ax lx cx) ∧ ElOk w w.heap.size (.slice ax lx cx) (L.getD k []) ∧ CodeW (L.getD k []) := by
  obtain ⟨g, off, u, e, c1, hu⟩ := h.someNth hk
  have hw := hv.2.1 k (by omega)
  have hE := ElOk.old hu (by have := hw.1.1; omega)
  obtain ⟨ax, cx, rfl, _⟩ := hu
  exact ⟨g, off, ax, _, cx, e, c1, hE, hw⟩
theorem stepW_len (L : List (List Int)) (x : List Int) (R : List (List Int)) (k : Nat) : (stepW L x R k).length ≤ R.length + 2 * k := by
  induction k with
  | zero => exact Nat.le_refl _
  | succ k ih =>
    have h1 := putL_len (stepW L x R k) (L.getD k []) x
    have h2 := putL_len (putL (stepW L x R k) (L.getD k []) x) x (L.getD k [])
    show (putL (putL _ _ _) _ _).length ≤ _
    omega
theorem stepW_pre (L : List (List Int)) (x : List Int) (R : List (List Int)) (k : Nat) : R <+: stepW L x R k := by
  rw [stepW_fol]; exact foldl_pre _ _
theorem putL_pre (R : List (List Int)) (xs ys : List Int) : R <+: putL R xs ys := by
  rw [putL_candi]; exact foldl_pre _ _
set_option maxHeartbeats 4000000 in
theorem i_restsOf (w : World) (v : Value) (L : List (List Int)) (hx : ListsAt w v L) (hv : Hid (ValidCd L)) :
    Calls Try.prog 58 #[v] w fun e w' => ∃ N, Fin L N ∧ RowMade (restN L N) w.heap.size w.heap.size w e w' := by
  have HX := Lib.hid hx
  obtain ⟨a, c, rfl, x1, x2, _⟩ := hx
  obtain ⟨n, hn⟩ : ∃ n, L.length = n := ⟨_, rfl⟩
  rw [hn] at x1 HX ⊢
  have HN := Lib.hid hn
  have hn8 : n ≤ 8 := by have := hv.out.1; omega
  clear hn
  go_enter Try.func58, Try.ntmps58
  go_wp2_with fail
  go_loopw [3, 13] (fun o x wr => ∃ i : Nat, i ≤ n ∧ x = .int .i64 i ∧ OwnLs wr w.heap.size w.heap.size o (putAll L i) ∧ Below w.heap.size w wr) (fun _ x _ => n - (intOf x).toNat)
  case atStart => exact ⟨0, Nat.zero_le _, rfl, OwnLs.nil _ _ _ (Nat.le_refl _), Below.refl _ _⟩
  case round =>
    obtain ⟨i, hi, rfl, hO, hB⟩ := hrel
    obtain ⟨ao, no, co, hoo⟩ := hO.isSlice
    subst hoo
    by_cases hlt : i < n
    · obtain ⟨R, hR⟩ : ∃ R, putAll L i = R := ⟨_, rfl⟩
      have hR64 := putAll_len L i
      rw [hR] at hO hR64
      have HRR := Lib.hid hR
      have hR56 : R.length ≤ 56 := by
        rw [HN.out] at hR64
        have : i * n ≤ 7 * 8 := Nat.mul_le_mul (by omega) hn8
        omega
      obtain ⟨g, off, ax, lx, cx, rfl, c1, hE, _⟩ := code_word HX.out hv.out HN.out hlt
      obtain ⟨xs, hxs⟩ : ∃ xs, L.getD i [] = xs := ⟨_, rfl⟩
      rw [hxs] at hE
      have HXS := Lib.hid hxs
      have HE := keptC hE
      have c1 := (hB.cell (World.block_lt_of_cell? w _ c1)).trans c1
      have HO := keptC hO
      have HB := keptC hB
      clear hR hR64 hxs hE hO hB
      go_wp2_with fail
      clear c1
      go_loopw [3, 19] (fun o x wx => ∃ k : Nat, k ≤ n ∧ x = .int .i64 k ∧ OwnLs wx w.heap.size w.heap.size o (putRow L xs R k) ∧ Below w.heap.size w wx) (fun _ x _ => n - (intOf x).toNat)
      case atStart => exact ⟨0, Nat.zero_le _, rfl, HO.out, HB.out⟩
      case round =>
        clear HO HB
        obtain ⟨k, hk, rfl, hO, hB⟩ := hrel
        obtain ⟨ao, no, co, hoo⟩ := hO.isSlice
        subst hoo
        have HO := keptC hO
        have HB := keptC hB
        have hs := hB.size
        by_cases hlt2 : k < n
        · obtain ⟨g2, off2, ay, ly, cy, e2, c2, hE2, _⟩ := code_word HX.out hv.out HN.out hlt2
          injection e2 with e2
          injection e2 with e3 e4 _
          subst e3 e4
          have c2 := (hB.cell (World.block_lt_of_cell? w _ c2)).trans c2
          have HE2 := keptC (hE2.below hB)
          have HEr := keptC (HE.out.below hB)
          have hQl := putRow_len L xs R k
          have HQ : Hid ((putRow L xs R k).length ≤ 1000) := by show _ ≤ _; omega
          clear hO hB hE2 hQl
          go_wp2_with fail
          refine (i_withRest wr w.heap.size w.heap.size _ _ _ (putRow L xs R k) xs (L.getD k []) HO.out HEr.out HE2.out.1 HQ.out hs).mono ?_
          rintro e w5 ⟨a5, n5, c5, rfl, hO5, hb5⟩
          have HO5 := keptC hO5
          have HB5 := keptC (HB.out.trans hb5)
          clear hO5 hb5
          go_wp2
          go_roundw
          case rel => exact ⟨k + 1, by omega, by go_num, HO5.out, HB5.out⟩
          case measure => simp [intOf]; omega
        · obtain rfl : k = n := by omega
          have hst : Hid (putAll L (i + 1) = putRow L xs R k) := by
            show putRow L (L.getD i []) (putAll L i) L.length = _
            rw [HXS.out, HRR.out, HN.out]
          clear hO hB
          go_wp2
          go_roundw
          case rel => exact ⟨i + 1, by omega, by go_num, by rw [hst.out]; exact HO.out, HB.out⟩
          case measure => simp [intOf]; omega
    · obtain rfl : n = i := by omega
      have HB := keptC hB
      have hO' : OwnLs wr w.heap.size w.heap.size (.slice ao no co) (restN L 0) := by
        show OwnLs _ _ _ _ (putAll L L.length)
        rw [HN.out]; exact hO
      have HO := keptC hO'
      clear hO hB hO'
      go_wp2_with fail
      go_loopw [3, 8] (fun o x wy => ∃ N : Nat, x = .int .i64 N ∧ N ≤ 24 ∧ (∀ i, i < N → i < (restN L i).length) ∧ OwnLs wy w.heap.size w.heap.size o (restN L N) ∧ Below w.heap.size w wy) (fun _ x _ => 25 - (intOf x).toNat)
      case atStart => exact ⟨0, rfl, by omega, fun i h => absurd h (by omega), HO.out, HB.out⟩
      case round =>
        clear HO HB
        obtain ⟨N, rfl, hN24, hlt3, hO, hB⟩ := hrel
        obtain ⟨ao, no, co, hoo⟩ := hO.isSlice
        subst hoo
        have hno : no = (restN L N).length := by
          obtain ⟨_, _, e⟩ := listOf hO.at
          injection e with _ e2 _
        have hle := restN_le hv.out hlt3
        have HO := keptC hO
        have HB := keptC hB
        have HLT := keptC hlt3
        have hs := hB.size
        by_cases hNl : N < no
        · have hN' : N < (restN L N).length := by omega
          have HNL := keptC hN'
          obtain ⟨x, hx⟩ : ∃ x, (restN L N).getD N [] = x := ⟨_, rfl⟩
          have HXX := Lib.hid hx
          obtain ⟨R0, hR0⟩ : ∃ R0, restN L N = R0 := ⟨_, rfl⟩
          have HR0 := Lib.hid hR0
          rw [hR0] at hle
          have hno24 : no ≤ 24 := by rw [hno, hR0]; exact hle
          clear hO hB hlt3 hx hR0 hN' hno
          go_wp2_with fail
          go_loopw [3, 37] (fun o y wz => ∃ k : Nat, k ≤ n ∧ y = .int .i64 k ∧ OwnLs wz w.heap.size w.heap.size o (stepW L x R0 k) ∧ Below w.heap.size w wz) (fun _ y _ => n - (intOf y).toNat)
          case atStart => exact ⟨0, Nat.zero_le _, rfl, by rw [HR0.out] at HO; exact HO.out, HB.out⟩
          case round =>
            clear HO HB hs
            obtain ⟨k, hk, rfl, hO, hB⟩ := hrel
            obtain ⟨ao, no2, co, hoo⟩ := hO.isSlice
            subst hoo
            have HO := keptC hO
            have HB := keptC hB
            have hs := hB.size
            by_cases hlt4 : k < n
            · obtain ⟨g2, off2, ay, ly, cy, e2, c2, hE2, _⟩ := code_word HX.out hv.out HN.out hlt4
              subst e2
              have HE0 := keptC hE2
              have c2 := (hB.cell (World.block_lt_of_cell? w _ c2)).trans c2
              have hl1 := stepW_len L x R0 k
              have hl1' := putL_len (stepW L x R0 k) (L.getD k []) x
              have hQ : Hid ((stepW L x R0 k).length ≤ 1000 ∧ (putL (stepW L x R0 k) (L.getD k []) x).length ≤ 1000) := ⟨by omega, by omega⟩
              have hlen2 : no2 = (stepW L x R0 k).length := by
                obtain ⟨_, _, e⟩ := listOf hO.at
                injection e with _ e2 _
              have hNn : N < no2 := by
                have h1 := (stepW_pre L x R0 k).length_le
                have h2 := HNL.out
                rw [HR0.out] at h2
                omega
              obtain ⟨g4, u4, rfl, c4, hE4, hnx⟩ := hO.nth hNn
              clear hnx
              have e4 : (stepW L x R0 k).getD N [] = x := by
                rw [getD_pre (stepW_pre L x R0 k) (by have := HNL.out; rw [HR0.out] at this; exact this), ← HR0.out]; exact HXX.out
              rw [e4] at hE4
              obtain ⟨ap, cp, hu4, _⟩ := id hE4.1
              subst hu4
              have HI4 : Hid (IntsAt wr _ x) := keptC hE4.1
              have HEk := keptC (HE0.out.below hB)
              have b1 : (0 : Int) ≤ (N : Int) := by omega
              have b2 : (N : Int) < (no2 : Int) := by omega
              have hno2 : no2 ≤ 1000 := by rw [hlen2]; exact hQ.out.1
              clear hO hB hE2 hl1 hl1' hlen2 e4 hE4
              go_wp2_with fail
              refine (i_withRest wr w.heap.size w.heap.size _ _ _ (stepW L x R0 k) (L.getD k []) x HO.out HEk.out HI4.out hQ.out.1 hs).mono ?_
              rintro e w5 ⟨a5, n5, c5, rfl, hO5, hb5⟩
              have hB5 := HB.out.trans hb5
              have hs5 := hB5.size
              have HIk5 : Hid (IntsAt w5 _ (L.getD k [])) := keptC (HE0.out.below hB5).1
              have hN5 : N < n5 ∧ n5 ≤ 1000 := by
                obtain ⟨_, _, e⟩ := listOf hO5.at
                injection e with _ e2 _
                have h1 := ((stepW_pre L x R0 k).trans (putL_pre _ (L.getD k []) x)).length_le
                have h2 := HNL.out
                rw [HR0.out] at h2
                have := hQ.out.2
                omega
              obtain ⟨hN5, hn5⟩ := hN5
              obtain ⟨g5, u5, rfl, c6, hE5, hnx⟩ := hO5.nth hN5
              clear hnx
              have e5 : (putL (stepW L x R0 k) (L.getD k []) x).getD N [] = x := by
                rw [getD_pre ((stepW_pre L x R0 k).trans (putL_pre _ (L.getD k []) x)) (by have := HNL.out; rw [HR0.out] at this; exact this), ← HR0.out]; exact HXX.out
              rw [e5] at hE5
              obtain ⟨ap5, cp5, hu5, _⟩ := id hE5.1
              subst hu5
              have HE5 := keptC hE5
              have HO5 := keptC hO5
              have HB5 := keptC hB5
              have b3 : (N : Int) < (n5 : Int) := by omega
              clear hO5 hb5 hB5 e5 hE5 c4 c2
              go_wp2_with fail
              refine (i_withRest w5 w.heap.size w.heap.size _ _ _ (putL (stepW L x R0 k) (L.getD k []) x) x (L.getD k []) HO5.out HE5.out HIk5.out hQ.out.2 hs5).mono ?_
              rintro e w6 ⟨a6, n6, c7, rfl, hO6, hb6⟩
              have HO6 := keptC hO6
              have HB6 := keptC (HB5.out.trans hb6)
              clear hO6 hb6
              go_wp2
              go_roundw
              case rel => exact ⟨k + 1, by omega, by go_num, HO6.out, HB6.out⟩
              case measure => simp [intOf]; omega
            · obtain rfl : k = n := by omega
              have hst : Hid (restN L (N + 1) = stepW L x R0 k) := by
                show stepW L ((restN L N).getD N []) (restN L N) L.length = _
                rw [HXX.out, HR0.out, HN.out]
              clear hO hB
              go_wp2
              go_roundw
              case rel => exact ⟨N + 1, by go_num, by omega, fun i hi => by
                by_cases e : i = N
                · subst e; exact HNL.out
                · exact HLT.out i (by omega), by rw [hst.out]; exact HO.out, HB.out⟩
              case measure => simp [intOf]; omega
        · have hF : Hid (Fin L N) := ⟨hlt3, by omega⟩
          clear hO hB hlt3 hle hno
          go_wp2
          go_ret
          exact ⟨N, hF.out, _, _, _, rfl, HO.out, HB.out⟩
end Go.Proofs.Ytdjgodemeaneeaa
