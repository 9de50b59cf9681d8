
/- The level of a place, in the program. -/
import Derived.Test.YtpohkeenfbaklaaQh
namespace Go.Proofs.Ytpohkeenfbaklaa
open Go.RowKit

/-- the greatest of m and of the first i levels of the pattern that it has at the place q -/
def lvI (p : PPat) (s : ByteArray) (q : Nat) : Nat → Int → Int
  | 0, m => m
  | i + 1, m => if FitQ p s ((q : Int) - (i : Int)) ∧ lvI p s q i m < p.c.getD i 0 then p.c.getD i 0 else lvI p s q i m
def lvT (T : List PPat) (s : ByteArray) (q : Nat) : Nat → Int
  | 0 => 0
  | k + 1 => lvI (T.getD k noQ) s q (T.getD k noQ).c.length (lvT T s q k)
theorem lvI_bd {p : PPat} {s : ByteArray} {q : Nat} (hc : ∀ z ∈ p.c, 0 ≤ z ∧ z ≤ 9) : ∀ i (m : Int), 0 ≤ m ∧ m ≤ 9 → i ≤ p.c.length → 0 ≤ lvI p s q i m ∧ lvI p s q i m ≤ 9 := by
  intro i
  induction i with
  | zero => intro m h _; exact h
  | succ i ih =>
    intro m h hi
    have e : lvI p s q (i + 1) m = if FitQ p s ((q : Int) - (i : Int)) ∧ lvI p s q i m < p.c.getD i 0 then p.c.getD i 0 else lvI p s q i m := rfl
    rw [e]
    split
    · exact hc _ (getD_memQ (by omega))
    · exact ih m h (by omega)
theorem lvT_bd {T : List PPat} {s : ByteArray} {q : Nat} (hv : ValidPs T) : ∀ k, k ≤ T.length → 0 ≤ lvT T s q k ∧ lvT T s q k ≤ 9 := by
  intro k
  induction k with
  | zero => intro _; exact ⟨Int.le_refl _, show (0 : Int) ≤ 9 by decide⟩
  | succ k ih =>
    intro hk
    exact lvI_bd (hv.2 k (by omega)).2.2 _ _ (ih (by omega)) (Nat.le_refl _)
theorem PatsAt.someAddrQ {w : World} {a : Option Addr} {n cp : Nat} {T : List PPat} (h : PatsAt w (.slice a n cp) T) (hne : 0 < T.length) : ∃ g off, a = some ⟨g, off, none⟩ := by
  obtain ⟨a', c, h1, _, _, h4⟩ := h
  injection h1 with e1 _ _
  rcases h4 with rfl | ⟨g, off, h5, _⟩
  · simp at hne
  · exact ⟨g, off, e1.trans h5⟩
theorem PatsAt.nth {w : World} {g off n cp : Nat} {T : List PPat} (h : PatsAt w (.slice (some ⟨g, off, none⟩) n cp) T) {k : Nat} (hk : k < T.length) : PatAt w g (off + k * 4) (T.getD k noQ) := by
  obtain ⟨a', c, h1, _, _, h4⟩ := h
  injection h1 with e1 _ _
  rcases h4 with rfl | ⟨g', off', h5, h6⟩
  · simp at hk
  · rw [← e1] at h5
    injection h5 with e
    injection e with e2 e3 _
    subst e2 e3
    exact h6 k hk
theorem IntsAt.cellQ {w : World} {a : Option Addr} {n c : Nat} {zs : List Int} (h : IntsAt w (.slice a n c) zs) {k : Nat} (hk : k < zs.length) : ∃ g off, a = some ⟨g, off, none⟩ ∧ w.cell? ⟨g, off + k, none⟩ = some (.int .i64 (zs.getD k 0)) := by
  obtain ⟨a', c', h1, _, _, h4⟩ := h
  injection h1 with e1 _ _
  rcases h4 with rfl | ⟨g, off, h5, h6⟩
  · simp at hk
  · exact ⟨g, off, e1.trans h5, h6 k hk⟩
theorem i_patternFits_yes (w : World) (a2 : Option Addr) (n2 c2 : Nat) (t : ByteArray) (p1 p2 : Bool) (zs : List Int) (s : ByteArray) (a : Int) (ht : t.size ≤ 6) (ha0 : -100 ≤ a) (ha1 : a ≤ 100) (hb : Hid (FitQ ⟨t, p1, p2, zs⟩ s a)) :
    Calls Try.prog 62 #[.agg #[.string t, .bool p1, .bool p2, .slice a2 n2 c2], .string s, .int .i64 a] w fun e w' => e = .returned (.bool true) ∧ Below w.heap.size w w' :=
  i_patternFits w a2 n2 c2 t p1 p2 zs s a true ht ha0 ha1 (show _ ↔ _ from ⟨fun _ => hb.out, fun _ => rfl⟩)
theorem i_patternFits_no (w : World) (a2 : Option Addr) (n2 c2 : Nat) (t : ByteArray) (p1 p2 : Bool) (zs : List Int) (s : ByteArray) (a : Int) (ht : t.size ≤ 6) (ha0 : -100 ≤ a) (ha1 : a ≤ 100) (hb : Hid (¬ FitQ ⟨t, p1, p2, zs⟩ s a)) :
    Calls Try.prog 62 #[.agg #[.string t, .bool p1, .bool p2, .slice a2 n2 c2], .string s, .int .i64 a] w fun e w' => e = .returned (.bool false) ∧ Below w.heap.size w w' :=
  i_patternFits w a2 n2 c2 t p1 p2 zs s a false ht ha0 ha1 (show _ ↔ _ from ⟨fun e => (by cases e), fun e => absurd e hb.out⟩)
set_option maxHeartbeats 4000000 in
theorem i_levelAt (w : World) (v : Value) (T : List PPat) (s : ByteArray) (q : Nat) (hx : PatsAt w v T) (hv : Hid (ValidPs T)) (hq : q ≤ 16) :
    Calls Try.prog 46 #[v, .string s, .int .i64 q] w fun e w' => e = .returned (.int .i64 (lvT T s q T.length)) ∧ Below w.heap.size w w' := by
  have HX := keptQ hx
  obtain ⟨a, cp, rfl, _⟩ := hx
  obtain ⟨n, hn⟩ : ∃ n, T.length = n := ⟨_, rfl⟩
  rw [hn] at HX ⊢
  have HN := Lib.hid hn
  have hn12 : n ≤ 12 := by rw [← hn]; exact hv.out.1
  clear hn
  go_enter Try.func46, Try.ntmps46
  go_wp2
  go_loopw [7, 14] (fun m i wr => ∃ k : Nat, k ≤ n ∧ i = .int .i64 k ∧ m = .int .i64 (lvT T s q k) ∧ Hid (Below w.heap.size w wr)) (fun _ i _ => n - (intOf i).toNat)
  case atStart => exact ⟨0, Nat.zero_le _, rfl, rfl, Below.refl _ _⟩
  case round =>
    obtain ⟨wo, rfl⟩ : ∃ wo, wo = wr := ⟨wr, rfl⟩
    obtain ⟨k, hk, rfl, rfl, HB⟩ := hrel
    have hsz := HB.out.size
    by_cases hlt : k < n
    · obtain ⟨g, off, rfl⟩ := HX.out.someAddrQ (by rw [HN.out]; omega)
      have hra := (HX.out.below HB.out).nth (k := k) (by rw [HN.out]; exact hlt)
      have hvr := hv.out.2 k (by rw [HN.out]; exact hlt)
      have hmb := lvT_bd (s := s) (q := q) hv.out k (by rw [HN.out]; omega)
      have HST : Hid (lvT T s q (k + 1) = lvI (T.getD k noQ) s q (T.getD k noQ).c.length (lvT T s q k)) := (show _ = _ from rfl)
      obtain ⟨r, hr⟩ : ∃ r, T.getD k noQ = r := ⟨_, rfl⟩
      obtain ⟨m0, hm0⟩ : ∃ m0, lvT T s q k = m0 := ⟨_, rfl⟩
      rw [hr] at hra hvr HST
      rw [hm0] at hmb HST
      rw [hm0]
      clear hr hm0
      obtain ⟨t, p1, p2, zs⟩ := r
      obtain ⟨c0, c1, c2, ⟨u, c3, hu⟩⟩ := hra
      have HU := keptQ hu
      obtain ⟨a2, cp2, rfl, _⟩ := hu
      simp only at c0 c1 c2 c3 HST
      obtain ⟨nl, hnl⟩ : ∃ nl, zs.length = nl := ⟨_, rfl⟩
      have hl7 : nl ≤ 7 := by
        have h1 := hvr.2.1
        have h2 := hvr.1.2.1
        rw [wd_size] at h2
        simp only at h1 h2
        omega
      have ht6 : t.size ≤ 6 := by have h2 := hvr.1.2.1; rw [wd_size] at h2; exact h2
      rw [hnl] at c3 HST HU
      have HNL := Lib.hid hnl
      have HVR := Lib.hid hvr
      have q1 : (0 : Int) ≤ (k : Int) := by omega
      have q2 : (k : Int) < (n : Int) := by omega
      have kA := heap_alloc_new wo (.cells #[.string t, .bool p1, .bool p2, .slice a2 nl cp2] 28)
      have hBa : Below wo.heap.size wo (wo.alloc (.cells #[.string t, .bool p1, .bool p2, .slice a2 nl cp2] 28)) := (Below.refl _ _).alloc (Nat.le_refl _) _
      obtain ⟨wa, hwa⟩ : ∃ wa, wo.alloc (.cells #[.string t, .bool p1, .bool p2, .slice a2 nl cp2] 28) = wa := ⟨_, rfl⟩
      have HWA := Lib.hid hwa
      rw [hwa] at kA hBa
      have hlta : wo.heap.size < wa.heap.size := (Array.getElem?_eq_some_iff.1 kA).1
      have HKA := keptQ kA
      have HBa := keptQ (HB.out.trans (hBa.mono hsz))
      have HUa := keptQ (HU.out.below hBa)
      have hsa := HBa.out.size
      have HM0 : Hid (m0 = lvI ⟨t, p1, p2, zs⟩ s q 0 m0) := (show _ = _ from rfl)
      clear hnl hvr hwa kA hBa HB
      have cA3 : wa.cell? ⟨wo.heap.size, 3, none⟩ = some (.slice a2 nl cp2) := by rw [cell_of_row wa _ 3 _ _ _ HKA.out]; rfl
      go_wp2_with fail
      rw [HWA.out]
      clear c0 c1 c2 c3
      go_wp2_with fail
      go_loopw [7, 21] (fun m i w2 => ∃ (j : Nat) (mm : Int), j ≤ nl ∧ i = .int .i64 j ∧ m = .int .i64 mm ∧ Hid (mm = lvI ⟨t, p1, p2, zs⟩ s q j m0) ∧ Hid (Below wa.heap.size wa w2)) (fun _ i _ => nl - (intOf i).toNat)
      case atStart => exact ⟨0, m0, Nat.zero_le _, rfl, rfl, HM0, Below.refl _ _⟩
      case round =>
        clear HM0 cA3
        obtain ⟨wi, rfl⟩ : ∃ wi, wi = wr := ⟨wr, rfl⟩
        obtain ⟨j, mm, hj, rfl, rfl, HMM, HBi⟩ := hrel
        have hszi := HBi.out.size
        have kI := (HBi.out.block wo.heap.size hlta).trans HKA.out
        have e0 : wi.cell? ⟨wo.heap.size, 0, none⟩ = some (.string t) := by rw [cell_of_row wi _ 0 _ _ _ kI]; rfl
        have e1 : wi.cell? ⟨wo.heap.size, 1, none⟩ = some (.bool p1) := by rw [cell_of_row wi _ 1 _ _ _ kI]; rfl
        have e2 : wi.cell? ⟨wo.heap.size, 2, none⟩ = some (.bool p2) := by rw [cell_of_row wi _ 2 _ _ _ kI]; rfl
        have e3 : wi.cell? ⟨wo.heap.size, 3, none⟩ = some (.slice a2 nl cp2) := by rw [cell_of_row wi _ 3 _ _ _ kI]; rfl
        have HBwi : Hid (Below w.heap.size w wi) := HBa.out.trans (HBi.out.mono hsa)
        clear kI
        by_cases hjl : j < nl
        · obtain ⟨g3, off3, rfl, cz⟩ := (HUa.out.below HBi.out).cellQ (k := j) (by rw [HNL.out]; exact hjl)
          have hz9 := HVR.out.2.2 (zs.getD j 0) (getD_memQ (by rw [HNL.out]; exact hjl))
          obtain ⟨z, hz⟩ : ∃ z, zs.getD j 0 = z := ⟨_, rfl⟩
          rw [hz] at cz hz9
          have HSJ : Hid (lvI ⟨t, p1, p2, zs⟩ s q (j + 1) m0 = if FitQ ⟨t, p1, p2, zs⟩ s ((q : Int) - (j : Int)) ∧ mm < z then z else mm) := by
            show (if _ then _ else _) = _
            rw [← HMM.out, ← hz]
          have b1 : (0 : Int) ≤ (j : Int) := by omega
          have b2 : (j : Int) < (nl : Int) := by omega
          have u1 : IntKind.i64.wrap ((q : Int) - (j : Int)) = (q : Int) - (j : Int) := IntWalk.i64_in _ (by omega)
          clear hz
          by_cases hf : FitQ ⟨t, p1, p2, zs⟩ s ((q : Int) - (j : Int))
          · have HFF := keptQ hf
            clear hf
            go_wp2_with fail
            refine (i_patternFits_yes wi (some ⟨g3, off3, none⟩) nl cp2 t p1 p2 zs s ((q : Int) - (j : Int)) ht6 (by omega) (by omega) HFF).mono ?_
            rintro e w5 ⟨rfl, hb5⟩
            have HB5 := keptQ (HBi.out.trans (hb5.mono hszi))
            clear hb5
            by_cases hmz : mm < z
            · have HM' : Hid (z = lvI ⟨t, p1, p2, zs⟩ s q (j + 1) m0) := by show _ = _; rw [HSJ.out, if_pos ⟨HFF.out, hmz⟩]
              clear HSJ HMM HFF
              go_wp2
              go_roundw
              case rel => exact ⟨j + 1, z, by omega, by go_num, by first | rfl | (rw [if_pos hmz]) | (rw [if_neg (by omega)]), HM', HB5⟩
              case measure => simp [intOf]; omega
            · have HM' : Hid (mm = lvI ⟨t, p1, p2, zs⟩ s q (j + 1) m0) := by show _ = _; rw [HSJ.out, if_neg (fun h => hmz h.2)]
              clear HSJ HMM HFF
              go_wp2
              go_roundw
              case rel => exact ⟨j + 1, mm, by omega, by go_num, by first | rfl | (rw [if_neg hmz]) | (rw [if_pos (by omega)]), HM', HB5⟩
              case measure => simp [intOf]; omega
          · have HFF := keptQ hf
            have HM' : Hid (mm = lvI ⟨t, p1, p2, zs⟩ s q (j + 1) m0) := by show _ = _; rw [HSJ.out, if_neg (fun h => hf h.1)]
            clear hf
            go_wp2_with fail
            refine (i_patternFits_no wi (some ⟨g3, off3, none⟩) nl cp2 t p1 p2 zs s ((q : Int) - (j : Int)) ht6 (by omega) (by omega) HFF).mono ?_
            rintro e w5 ⟨rfl, hb5⟩
            have HB5 := keptQ (HBi.out.trans (hb5.mono hszi))
            clear hb5 HSJ HMM HFF
            go_wp2
            go_roundw
            case rel => exact ⟨j + 1, mm, by omega, by go_num, rfl, HM', HB5⟩
            case measure => simp [intOf]; omega
        · obtain rfl : j = nl := by omega
          have HM' : Hid (mm = lvT T s q (k + 1)) := by show _ = _; rw [HST.out]; exact HMM.out
          clear HST HMM
          go_wp2
          go_roundw
          case rel => exact ⟨k + 1, by omega, by go_num, by rw [← HM'.out], HBwi⟩
          case measure => simp [intOf]; omega
    · obtain rfl : k = n := by omega
      go_wp2
      go_ret
      exact ⟨rfl, HB.out⟩
end Go.Proofs.Ytpohkeenfbaklaa
