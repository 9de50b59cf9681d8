
/- ApplyEdit, InvertEdit, MoveMark on both sides. -/
import Derived.Test.YthlamidlcbnchaaEda
import Derived.Deep.RegionHeld3
import Derived.Deep.RegionLaw
import Derived.StillTailTactics
import Derived.Laws.Concat
namespace Go.Proofs.Ythlamidlcbnchaa
open Go.RowKit

/-- the text after the edit -/
def edS (s : ByteArray) (p c : Nat) (t : ByteArray) : ByteArray := s.extract 0 p ++ t ++ s.extract (p + c) s.size
theorem size_app (a b : ByteArray) : (a ++ b).size = a.size + b.size := by
  rw [← size_data, ← size_data, ← size_data]; simp
theorem ext_sz {s : ByteArray} {a b : Nat} (h2 : b ≤ s.size) : (s.extract a b).size = b - a := by
  rw [← size_data, extract_list]; simp [sub]; omega
theorem CanE.nat {p c : Int} {t : ByteArray} {many : Int} (h : CanE p c t many) : ∃ m q d : Nat, many = m ∧ p = q ∧ c = d ∧ q ≤ m ∧ q + d ≤ m ∧ m ≤ 60 ∧ ValidT t.data.toList ∧ m + t.size ≤ 60 + d :=
  ⟨many.toNat, p.toNat, c.toNat, by have := h.1; omega, by have := h.2.1; omega, by have := h.2.2.1; omega, by have := h.2.1; omega, by have := h.2.1; have := h.2.2.1; omega, by have := h.1; omega, h.2.2.2.1, by have := h.2.1; have := h.2.2.1; have := h.2.2.2.2; omega⟩
theorem i_cutEnd_n (p c q : Nat) (t : ByteArray) (w : World) (hp : p ≤ 60) (hc : c ≤ 60) (hq : p + c = q) :
    Calls Try.prog 35 #[edV p c t] w fun e w' => e = .returned (.int .i64 (q : Int)) ∧ Below w.heap.size w w' := by
  have := i_cutEnd p c t w (by omega) (by omega)
  rw [show ((p : Int) + (c : Int)) = (q : Int) from by omega] at this
  exact this

theorem below_drewNE {b : Nat} {w w' : World} (h : Below b w w') (n : Nat) : Below b w (w'.drewN n) := ⟨h.os, h.tape, h.output, h.size, h.block⟩
set_option maxHeartbeats 2000000 in
theorem s_edited (s t : ByteArray) (p c : Nat) (w : World) (h60 : s.size ≤ 60) (ht : t.size ≤ 60) (hp : p + c ≤ s.size) :
    Calls Try.prog 38 #[.string s, edV p c t] w fun e w' => e = .returned (.string (edS s p c t)) ∧ Below w.heap.size w w' := by
  obtain ⟨q, hq⟩ : ∃ q, p + c = q := ⟨_, rfl⟩
  have u1 : IntKind.i64.wrap ((p : Int) + (c : Int)) = (q : Int) := by rw [show ((p : Int) + (c : Int)) = (q : Int) from by omega]; exact IntWalk.i64_in _ (by omega)
  have b1 : (0 : Int) ≤ (p : Int) := by omega
  have b2 : (p : Int) ≤ (s.size : Int) := by omega
  have b3 : (0 : Int) ≤ (q : Int) := by omega
  have b4 : (q : Int) ≤ (s.size : Int) := by omega
  have b5 : (p : Int) ≤ (q : Int) := by omega
  have z1 := ext_sz (s := s) (a := 0) (b := p) (by omega)
  have z2 := ext_sz (s := s) (a := q) (b := s.size) (by omega)
  have z3 := size_app (s.extract 0 p) t
  have r1 := fun (wx : World) => run_string_add_sum (P := Try.prog) wx (s.extract 0 p) t (by omega)
  have r2 := fun (wx : World) => run_string_add_sum (P := Try.prog) wx (s.extract 0 p ++ t) (s.extract q s.size) (by omega)
  have HQ := Lib.hid hq
  clear z1 z2 z3 hq
  obtain ⟨E1, HB⟩ := ebox1 w p c t
  obtain ⟨c0, c1, c2⟩ := E1.cells
  have HB0 := Lib.hid HB
  clear HB E1
  go_enter Try.func38, Try.ntmps38
  go_wp2
  go_quiet (fail)
  go_wp2
  go_ret
  exact ⟨by unfold edS; rw [HQ.out]; rfl, below_drewNE HB0.out _⟩
set_option maxHeartbeats 4000000 in
theorem i_ApplyEdit_yes (s t : ByteArray) (p c : Nat) (w : World) (hs : s.size ≤ 1048576) (ht : t.size ≤ 1048576) (hv : ValidT s.data.toList) (hc : CanE p c t s.size) :
    Calls Try.prog 15 #[.string s, edV p c t] w fun e w' => e = .returned (.tuple #[.string (edS s p c t), .bool true]) ∧ Below w.heap.size w w' := by
  have HV : Hid (decide (ValidT s.data.toList) = true) := decide_eq_true hv
  have HC : Hid (decide (CanE p c t s.size) = true) := decide_eq_true hc
  obtain ⟨m, q, d, e1, e2, e3, e4, e5, e6, hvt, e7⟩ := hc.nat
  obtain rfl : s.size = m := by omega
  obtain rfl : p = q := by omega
  obtain rfl : c = d := by omega
  have htz := hvt.size
  clear hv hc e1 e2 e3 e7 hvt
  obtain ⟨E1, HB⟩ := ebox1 w (p : Int) (c : Int) t
  go_enter Try.func15, Try.ntmps15
  go_wp2_with fail
  generalize (w.alloc (.cells #[.int .i64 (p : Int), .int .i64 (c : Int), .string t] 24)) = wA at E1 HB ⊢
  obtain ⟨c00a, c00b, c00c⟩ := E1.cells
  refine (i_ValidText_v s true _ (by omega) HV).mono ?_
  rintro e w1 ⟨rfl, hb1⟩
  have E1_1 := E1.below hb1 E1.lt
  have HB_1 := below_next HB hb1
  clear hb1 HB E1
  clear c00a c00b c00c
  obtain ⟨c10a, c10b, c10c⟩ := E1_1.cells
  go_wp2_with fail
  refine (i_canEdit_v p c s.size t true _ (by omega) HC).mono ?_
  rintro e w2 ⟨rfl, hb2⟩
  have E1_2 := E1_1.below hb2 E1_1.lt
  have HB_2 := below_next HB_1 hb2
  clear hb2 HB_1 E1_1
  clear c10a c10b c10c
  obtain ⟨c20a, c20b, c20c⟩ := E1_2.cells
  obtain ⟨q, hq⟩ : ∃ q, p + c = q := ⟨_, rfl⟩
  have u1 : IntKind.i64.wrap ((p : Int) + (c : Int)) = (q : Int) := by rw [show ((p : Int) + (c : Int)) = (q : Int) from by omega]; exact IntWalk.i64_in _ (by omega)
  have b1 : (0 : Int) ≤ (p : Int) := by omega
  have b2 : (p : Int) ≤ (s.size : Int) := by omega
  have b3 : (0 : Int) ≤ (q : Int) := by omega
  have b4 : (q : Int) ≤ (s.size : Int) := by omega
  have b5 : (p : Int) ≤ (q : Int) := by omega
  have z1 := ext_sz (s := s) (a := 0) (b := p) (by omega)
  have z2 := ext_sz (s := s) (a := q) (b := s.size) (by omega)
  have z3 := size_app (s.extract 0 p) t
  have r1 := fun (wx : World) => run_string_add_sum (P := Try.prog) wx (s.extract 0 p) t (by omega)
  have r2 := fun (wx : World) => run_string_add_sum (P := Try.prog) wx (s.extract 0 p ++ t) (s.extract q s.size) (by omega)
  have HQ := Lib.hid hq
  clear z1 z2 z3 hq
  have HC3 : Hid (∀ wy, Below w2.heap.size w2 wy → wy.cell? ⟨w.heap.size, 0, none⟩ = some (.int .i64 (p : Int)) ∧ wy.cell? ⟨w.heap.size, 1, none⟩ = some (.int .i64 (c : Int)) ∧ wy.cell? ⟨w.heap.size, 2, none⟩ = some (.string t)) := fun wy hb => (E1_2.below hb E1_2.lt).cells
  have HCE : Hid (∀ wy, Calls Try.prog 35 #[edV p c t] wy fun e w' => e = .returned (.int .i64 (q : Int)) ∧ Below wy.heap.size wy w') := fun wy => i_cutEnd_n p c q t wy (by omega) (by omega) HQ.out
  go_wp2_with fail
  go_region_held3 (fun wy => wy.cell? ⟨w.heap.size, 0, none⟩ = some (.int .i64 (p : Int)) ∧ wy.cell? ⟨w.heap.size, 1, none⟩ = some (.int .i64 (c : Int)) ∧ wy.cell? ⟨w.heap.size, 2, none⟩ = some (.string t)) (first | assumption | exact HC3.out _ (Below.refl _ _).drew | exact HC3.out _ ((Below.refl _ _).drew.trans hb3)) (first | (go_at_call 35; (with_reducible refine (HCE.out _).mono ?_); rintro e w3 ⟨rfl, hb3⟩))
  all_goals
    go_wp2
    refine bodyPost_ret (results_twoE rfl _ _ _) rfl ?_
    exact ⟨by unfold edS; rw [HQ.out]; rfl, HB_2.trans (((Below.refl _ _).drew.trans hb3).mono HB_2.size)⟩
set_option maxHeartbeats 4000000 in
theorem s_ApplyEdit_yes (s t : ByteArray) (p c : Nat) (w : World) (hs : s.size ≤ 1048576) (ht : t.size ≤ 1048576) (hv : ValidT s.data.toList) (hc : CanE p c t s.size) :
    Calls Try.prog 16 #[.string s, edV p c t] w fun e w' => e = .returned (.tuple #[.string (edS s p c t), .bool true]) ∧ Below w.heap.size w w' := by
  have HV : Hid (decide (ValidT s.data.toList) = true) := decide_eq_true hv
  have HC : Hid (decide (CanE p c t s.size) = true) := decide_eq_true hc
  obtain ⟨m, q, d, e1, e2, e3, e4, e5, e6, hvt, e7⟩ := hc.nat
  obtain rfl : s.size = m := by omega
  obtain rfl : p = q := by omega
  obtain rfl : c = d := by omega
  have htz := hvt.size
  clear hv hc e1 e2 e3 e7 hvt
  obtain ⟨E1, HB⟩ := ebox1 w (p : Int) (c : Int) t
  go_enter Try.func16, Try.ntmps16
  go_wp2_with fail
  generalize (w.alloc (.cells #[.int .i64 (p : Int), .int .i64 (c : Int), .string t] 24)) = wA at E1 HB ⊢
  obtain ⟨c00a, c00b, c00c⟩ := E1.cells
  refine (s_validText_v s true _ (by omega) HV).mono ?_
  rintro e w' ⟨rfl, rfl⟩
  go_wp2_with fail
  refine (s_validEdit p c s.size t true _ (by omega) (by omega) HC).mono ?_
  rintro e w1 ⟨rfl, hb1⟩
  have E1_1 := E1.below hb1 E1.lt
  have HB_1 := below_next HB hb1
  clear hb1 HB E1
  clear c00a c00b c00c
  obtain ⟨c10a, c10b, c10c⟩ := E1_1.cells
  go_wp2_with fail
  refine (s_edited s t p c _ (by omega) (by omega) (by omega)).mono ?_
  rintro e w2 ⟨rfl, hb2⟩
  have E1_2 := E1_1.below hb2 E1_1.lt
  have HB_2 := below_next HB_1 hb2
  clear hb2 HB_1 E1_1
  clear c10a c10b c10c
  obtain ⟨c20a, c20b, c20c⟩ := E1_2.cells
  go_wp2
  refine bodyPost_ret (results_twoE rfl _ _ _) rfl ?_
  exact ⟨rfl, HB_2⟩
set_option maxHeartbeats 4000000 in
theorem i_InvertEdit_yes (s t : ByteArray) (p c : Nat) (w : World) (hs : s.size ≤ 1048576) (ht : t.size ≤ 1048576) (hv : ValidT s.data.toList) (hc : CanE p c t s.size) :
    Calls Try.prog 19 #[.string s, edV p c t] w fun e w' => e = .returned (.tuple #[edV p t.size (s.extract p (p + c)), .bool true]) ∧ Below w.heap.size w w' := by
  have HV : Hid (decide (ValidT s.data.toList) = true) := decide_eq_true hv
  have HC : Hid (decide (CanE p c t s.size) = true) := decide_eq_true hc
  obtain ⟨m, q, d, e1, e2, e3, e4, e5, e6, hvt, e7⟩ := hc.nat
  obtain rfl : s.size = m := by omega
  obtain rfl : p = q := by omega
  obtain rfl : c = d := by omega
  have htz := hvt.size
  clear hv hc e1 e2 e3 e7 hvt
  obtain ⟨E1, E2, HB⟩ := ebox2 w (p : Int) (c : Int) t 0 0 ⟨#[]⟩
  go_enter Try.func19, Try.ntmps19
  go_wp2_with fail
  generalize ((w.alloc (.cells #[.int .i64 (p : Int), .int .i64 (c : Int), .string t] 24)).alloc (.cells #[.int .i64 0, .int .i64 0, .string ⟨#[]⟩] 24)) = wA at E1 E2 HB ⊢
  obtain ⟨c00a, c00b, c00c⟩ := E1.cells
  obtain ⟨c01a, c01b, c01c⟩ := E2.cells
  refine (i_ValidText_v s true _ (by omega) HV).mono ?_
  rintro e w1 ⟨rfl, hb1⟩
  have E1_1 := E1.below hb1 E1.lt
  have E2_1 := E2.below hb1 E2.lt
  have HB_1 := below_next HB hb1
  clear hb1 HB E1 E2
  clear c00a c00b c00c c01a c01b c01c
  obtain ⟨c10a, c10b, c10c⟩ := E1_1.cells
  obtain ⟨c11a, c11b, c11c⟩ := E2_1.cells
  go_wp2_with fail
  refine (i_canEdit_v p c s.size t true _ (by omega) HC).mono ?_
  rintro e w2 ⟨rfl, hb2⟩
  have E1_2 := E1_1.below hb2 E1_1.lt
  have E2_2 := E2_1.below hb2 E2_1.lt
  have HB_2 := below_next HB_1 hb2
  clear hb2 HB_1 E1_1 E2_1
  clear c10a c10b c10c c11a c11b c11c
  obtain ⟨c20a, c20b, c20c⟩ := E1_2.cells
  obtain ⟨c21a, c21b, c21c⟩ := E2_2.cells
  obtain ⟨q, hq⟩ : ∃ q, p + c = q := ⟨_, rfl⟩
  have u1 : IntKind.i64.wrap ((p : Int) + (c : Int)) = (q : Int) := by rw [show ((p : Int) + (c : Int)) = (q : Int) from by omega]; exact IntWalk.i64_in _ (by omega)
  have b1 : (0 : Int) ≤ (p : Int) := by omega
  have b2 : (p : Int) ≤ (s.size : Int) := by omega
  have b3 : (0 : Int) ≤ (q : Int) := by omega
  have b4 : (q : Int) ≤ (s.size : Int) := by omega
  have b5 : (p : Int) ≤ (q : Int) := by omega
  have z1 := ext_sz (s := s) (a := 0) (b := p) (by omega)
  have z2 := ext_sz (s := s) (a := q) (b := s.size) (by omega)
  have z3 := size_app (s.extract 0 p) t
  have r1 := fun (wx : World) => run_string_add_sum (P := Try.prog) wx (s.extract 0 p) t (by omega)
  have r2 := fun (wx : World) => run_string_add_sum (P := Try.prog) wx (s.extract 0 p ++ t) (s.extract q s.size) (by omega)
  have HQ := Lib.hid hq
  clear z1 z2 z3 hq
  have HC3 : Hid (∀ wy, Below w2.heap.size w2 wy → wy.cell? ⟨w.heap.size, 0, none⟩ = some (.int .i64 (p : Int)) ∧ wy.cell? ⟨w.heap.size, 1, none⟩ = some (.int .i64 (c : Int)) ∧ wy.cell? ⟨w.heap.size, 2, none⟩ = some (.string t)) := fun wy hb => (E1_2.below hb E1_2.lt).cells
  have HCE : Hid (∀ wy, Calls Try.prog 35 #[edV p c t] wy fun e w' => e = .returned (.int .i64 (q : Int)) ∧ Below wy.heap.size wy w') := fun wy => i_cutEnd_n p c q t wy (by omega) (by omega) HQ.out
  have HK : Hid (∀ wy, Below w2.heap.size w2 wy → (wy.cell? ⟨w.heap.size, 0, none⟩ = some (.int .i64 (p : Int)) ∧ wy.cell? ⟨w.heap.size, 1, none⟩ = some (.int .i64 (c : Int)) ∧ wy.cell? ⟨w.heap.size, 2, none⟩ = some (.string t)) ∧ (wy.cell? ⟨w.heap.size + 1, 0, none⟩ = some (.int .i64 0) ∧ wy.cell? ⟨w.heap.size + 1, 1, none⟩ = some (.int .i64 0) ∧ wy.cell? ⟨w.heap.size + 1, 2, none⟩ = some (.string ⟨#[]⟩)) ∧ ∀ i, wy.frozen? ⟨w.heap.size + 1, i, none⟩ = false) := fun wy hb => ⟨(E1_2.below hb E1_2.lt).cells, (E2_2.below hb E2_2.lt).cells, (E2_2.below hb E2_2.lt).free⟩
  clear c20a c20b c20c c21a c21b c21c
  have EA : Hid (∀ wy, Below w2.heap.size w2 wy → EdAt wy w.heap.size (p : Int) (c : Int) t) := fun wy hb => E1_2.below hb E1_2.lt
  go_wp2_with fail
  go_region_held3 (fun wy => (wy.cell? ⟨w.heap.size, 0, none⟩ = some (.int .i64 (p : Int)) ∧ wy.cell? ⟨w.heap.size, 1, none⟩ = some (.int .i64 (c : Int)) ∧ wy.cell? ⟨w.heap.size, 2, none⟩ = some (.string t))) (first | assumption | exact HC3.out _ (Below.refl _ _).drew | exact HC3.out _ ((Below.refl _ _).drew.trans hb3) | exact ((EA.out _ ((Below.refl _ _).drew.trans hb3)).putO (by omega) _ _ _).cells) (first | (go_at_call 35; (with_reducible refine (HCE.out _).mono ?_); rintro e w3 ⟨rfl, hb3⟩; obtain ⟨_, ⟨f3, f4, f5⟩, f6⟩ := HK.out w3 ((Below.refl _ _).drew.trans hb3)))
  all_goals
    go_wp2
    have hX : EdAt w3 (w.heap.size + 1) 0 0 ⟨#[]⟩ := (E2_2.below ((Below.refl _ _).drew.trans hb3) E2_2.lt)
    have hBx : Below w.heap.size w w3 := HB_2.trans (((Below.refl _ _).drew.trans hb3).mono HB_2.size)
    have hk := hX.put (p : Int) (t.size : Int) (s.extract p q)
    have hB := below_putE (p := (p : Int)) (c := (t.size : Int)) (t := s.extract p q) hBx (show w.heap.size ≤ w.heap.size + 1 by omega)
    simp only [EdAt, putE] at hk hB
    refine bodyPost_ret (results_row_tmpE rfl _ _ (w.heap.size + 1) _ _ _ _ rfl hk Try.underlying24 rfl (by kernel_rfl)) rfl ?_
    exact ⟨by rw [HQ.out]; rfl, hB⟩
set_option maxHeartbeats 4000000 in
theorem s_InvertEdit_yes (s t : ByteArray) (p c : Nat) (w : World) (hs : s.size ≤ 1048576) (ht : t.size ≤ 1048576) (hv : ValidT s.data.toList) (hc : CanE p c t s.size) :
    Calls Try.prog 20 #[.string s, edV p c t] w fun e w' => e = .returned (.tuple #[edV p t.size (s.extract p (p + c)), .bool true]) ∧ Below w.heap.size w w' := by
  have HV : Hid (decide (ValidT s.data.toList) = true) := decide_eq_true hv
  have HC : Hid (decide (CanE p c t s.size) = true) := decide_eq_true hc
  obtain ⟨m, q, d, e1, e2, e3, e4, e5, e6, hvt, e7⟩ := hc.nat
  obtain rfl : s.size = m := by omega
  obtain rfl : p = q := by omega
  obtain rfl : c = d := by omega
  have htz := hvt.size
  clear hv hc e1 e2 e3 e7 hvt
  obtain ⟨E1, E2, HB⟩ := ebox2 w (p : Int) (c : Int) t 0 0 ⟨#[]⟩
  go_enter Try.func20, Try.ntmps20
  go_wp2_with fail
  generalize ((w.alloc (.cells #[.int .i64 (p : Int), .int .i64 (c : Int), .string t] 24)).alloc (.cells #[.int .i64 0, .int .i64 0, .string ⟨#[]⟩] 24)) = wA at E1 E2 HB ⊢
  obtain ⟨c00a, c00b, c00c⟩ := E1.cells
  obtain ⟨c01a, c01b, c01c⟩ := E2.cells
  refine (s_validText_v s true _ (by omega) HV).mono ?_
  rintro e w' ⟨rfl, rfl⟩
  go_wp2_with fail
  refine (s_validEdit p c s.size t true _ (by omega) (by omega) HC).mono ?_
  rintro e w1 ⟨rfl, hb1⟩
  have E1_1 := E1.below hb1 E1.lt
  have E2_1 := E2.below hb1 E2.lt
  have HB_1 := below_next HB hb1
  clear hb1 HB E1 E2
  clear c00a c00b c00c c01a c01b c01c
  obtain ⟨c10a, c10b, c10c⟩ := E1_1.cells
  obtain ⟨c11a, c11b, c11c⟩ := E2_1.cells
  obtain ⟨q, hq⟩ : ∃ q, p + c = q := ⟨_, rfl⟩
  have u1 : IntKind.i64.wrap ((p : Int) + (c : Int)) = (q : Int) := by rw [show ((p : Int) + (c : Int)) = (q : Int) from by omega]; exact IntWalk.i64_in _ (by omega)
  have b1 : (0 : Int) ≤ (p : Int) := by omega
  have b2 : (p : Int) ≤ (s.size : Int) := by omega
  have b3 : (0 : Int) ≤ (q : Int) := by omega
  have b4 : (q : Int) ≤ (s.size : Int) := by omega
  have b5 : (p : Int) ≤ (q : Int) := by omega
  have z1 := ext_sz (s := s) (a := 0) (b := p) (by omega)
  have z2 := ext_sz (s := s) (a := q) (b := s.size) (by omega)
  have z3 := size_app (s.extract 0 p) t
  have r1 := fun (wx : World) => run_string_add_sum (P := Try.prog) wx (s.extract 0 p) t (by omega)
  have r2 := fun (wx : World) => run_string_add_sum (P := Try.prog) wx (s.extract 0 p ++ t) (s.extract q s.size) (by omega)
  have HQ := Lib.hid hq
  clear z1 z2 z3 hq
  have fz := E2_1.free
  go_wp2_with fail
  go_still_tail 15, (by kernel_rfl)
  change wpList _ _ _ _ _ w1.drew
  all_goals
    go_wp2
    have hX : EdAt w1.drew (w.heap.size + 1) 0 0 ⟨#[]⟩ := E2_1
    have hBx : Below w.heap.size w w1.drew := HB_1.drew
    have hk := hX.put (p : Int) (t.size : Int) (s.extract p q)
    have hB := below_putE (p := (p : Int)) (c := (t.size : Int)) (t := s.extract p q) hBx (show w.heap.size ≤ w.heap.size + 1 by omega)
    simp only [EdAt, putE] at hk hB
    refine bodyPost_ret (results_row_tmpE rfl _ _ (w.heap.size + 1) _ _ _ _ rfl hk Try.underlying24 rfl (by kernel_rfl)) rfl ?_
    exact ⟨by rw [HQ.out]; rfl, hB⟩
set_option maxHeartbeats 2000000 in
theorem i_ApplyEdit_no (s t : ByteArray) (p c : Int) (w : World) (hs : s.size ≤ 1048576) (ht : t.size ≤ 1048576) (hc : ¬ (ValidT s.data.toList ∧ CanE p c t s.size)) :
    Calls Try.prog 15 #[.string s, edV p c t] w fun e w' => e = .returned (.tuple #[.string ⟨#[]⟩, .bool false]) ∧ Below w.heap.size w w' := by
  by_cases hv : ValidT s.data.toList
  · have HV : Hid (decide (ValidT s.data.toList) = true) := decide_eq_true hv
    have HC : Hid (decide (CanE p c t s.size) = false) := decide_eq_false fun h => hc ⟨hv, h⟩
    have h60 := hv.size
    clear hv hc
    obtain ⟨E1, HB⟩ := ebox1 w p c t
    go_enter Try.func15, Try.ntmps15
    go_wp2_with fail
    generalize (w.alloc (.cells #[.int .i64 p, .int .i64 c, .string t] 24)) = wA at E1 HB ⊢
    obtain ⟨c00a, c00b, c00c⟩ := E1.cells
    refine (i_ValidText_v s true _ (by omega) HV).mono ?_
    rintro e w1 ⟨rfl, hb1⟩
    have E1_1 := E1.below hb1 E1.lt
    have HB_1 := below_next HB hb1
    clear hb1 HB E1
    clear c00a c00b c00c
    obtain ⟨c10a, c10b, c10c⟩ := E1_1.cells
    go_wp2_with fail
    refine (i_canEdit_v p c s.size t false _ (by omega) HC).mono ?_
    rintro e w2 ⟨rfl, hb2⟩
    have E1_2 := E1_1.below hb2 E1_1.lt
    have HB_2 := below_next HB_1 hb2
    clear hb2 HB_1 E1_1
    clear c10a c10b c10c
    obtain ⟨c20a, c20b, c20c⟩ := E1_2.cells
    go_wp2
    refine bodyPost_ret (results_twoE rfl _ _ _) rfl ?_
    exact ⟨rfl, HB_2⟩
  · have HV : Hid (decide (ValidT s.data.toList) = false) := decide_eq_false hv
    clear hv hc
    obtain ⟨E1, HB⟩ := ebox1 w p c t
    go_enter Try.func15, Try.ntmps15
    go_wp2_with fail
    generalize (w.alloc (.cells #[.int .i64 p, .int .i64 c, .string t] 24)) = wA at E1 HB ⊢
    obtain ⟨c00a, c00b, c00c⟩ := E1.cells
    refine (i_ValidText_v s false _ (by omega) HV).mono ?_
    rintro e w1 ⟨rfl, hb1⟩
    have E1_1 := E1.below hb1 E1.lt
    have HB_1 := below_next HB hb1
    clear hb1 HB E1
    clear c00a c00b c00c
    obtain ⟨c10a, c10b, c10c⟩ := E1_1.cells
    go_wp2
    refine bodyPost_ret (results_twoE rfl _ _ _) rfl ?_
    exact ⟨rfl, HB_1⟩
set_option maxHeartbeats 2000000 in
theorem s_ApplyEdit_no (s t : ByteArray) (p c : Int) (w : World) (hs : s.size ≤ 1048576) (ht : t.size ≤ 1048576) (hc : ¬ (ValidT s.data.toList ∧ CanE p c t s.size)) :
    Calls Try.prog 16 #[.string s, edV p c t] w fun e w' => e = .returned (.tuple #[.string ⟨#[]⟩, .bool false]) ∧ Below w.heap.size w w' := by
  by_cases hv : ValidT s.data.toList
  · have HV : Hid (decide (ValidT s.data.toList) = true) := decide_eq_true hv
    have HC : Hid (decide (CanE p c t s.size) = false) := decide_eq_false fun h => hc ⟨hv, h⟩
    have h60 := hv.size
    clear hv hc
    obtain ⟨E1, HB⟩ := ebox1 w p c t
    go_enter Try.func16, Try.ntmps16
    go_wp2_with fail
    generalize (w.alloc (.cells #[.int .i64 p, .int .i64 c, .string t] 24)) = wA at E1 HB ⊢
    obtain ⟨c00a, c00b, c00c⟩ := E1.cells
    refine (s_validText_v s true _ (by omega) HV).mono ?_
    rintro e w' ⟨rfl, rfl⟩
    go_wp2_with fail
    refine (s_validEdit p c s.size t false _ (by omega) (by omega) HC).mono ?_
    rintro e w1 ⟨rfl, hb1⟩
    have E1_1 := E1.below hb1 E1.lt
    have HB_1 := below_next HB hb1
    clear hb1 HB E1
    clear c00a c00b c00c
    obtain ⟨c10a, c10b, c10c⟩ := E1_1.cells
    go_wp2
    refine bodyPost_ret (results_twoE rfl _ _ _) rfl ?_
    exact ⟨rfl, HB_1⟩
  · have HV : Hid (decide (ValidT s.data.toList) = false) := decide_eq_false hv
    clear hv hc
    obtain ⟨E1, HB⟩ := ebox1 w p c t
    go_enter Try.func16, Try.ntmps16
    go_wp2_with fail
    generalize (w.alloc (.cells #[.int .i64 p, .int .i64 c, .string t] 24)) = wA at E1 HB ⊢
    obtain ⟨c00a, c00b, c00c⟩ := E1.cells
    refine (s_validText_v s false _ (by omega) HV).mono ?_
    rintro e w' ⟨rfl, rfl⟩
    go_wp2
    refine bodyPost_ret (results_twoE rfl _ _ _) rfl ?_
    exact ⟨rfl, HB⟩
set_option maxHeartbeats 2000000 in
theorem i_InvertEdit_no (s t : ByteArray) (p c : Int) (w : World) (hs : s.size ≤ 1048576) (ht : t.size ≤ 1048576) (hc : ¬ (ValidT s.data.toList ∧ CanE p c t s.size)) :
    Calls Try.prog 19 #[.string s, edV p c t] w fun e w' => e = .returned (.tuple #[edV 0 0 ⟨#[]⟩, .bool false]) ∧ Below w.heap.size w w' := by
  by_cases hv : ValidT s.data.toList
  · have HV : Hid (decide (ValidT s.data.toList) = true) := decide_eq_true hv
    have HC : Hid (decide (CanE p c t s.size) = false) := decide_eq_false fun h => hc ⟨hv, h⟩
    have h60 := hv.size
    clear hv hc
    obtain ⟨E1, E2, HB⟩ := ebox2 w p c t 0 0 ⟨#[]⟩
    go_enter Try.func19, Try.ntmps19
    go_wp2_with fail
    generalize ((w.alloc (.cells #[.int .i64 p, .int .i64 c, .string t] 24)).alloc (.cells #[.int .i64 0, .int .i64 0, .string ⟨#[]⟩] 24)) = wA at E1 E2 HB ⊢
    obtain ⟨c00a, c00b, c00c⟩ := E1.cells
    obtain ⟨c01a, c01b, c01c⟩ := E2.cells
    refine (i_ValidText_v s true _ (by omega) HV).mono ?_
    rintro e w1 ⟨rfl, hb1⟩
    have E1_1 := E1.below hb1 E1.lt
    have E2_1 := E2.below hb1 E2.lt
    have HB_1 := below_next HB hb1
    clear hb1 HB E1 E2
    clear c00a c00b c00c c01a c01b c01c
    obtain ⟨c10a, c10b, c10c⟩ := E1_1.cells
    obtain ⟨c11a, c11b, c11c⟩ := E2_1.cells
    go_wp2_with fail
    refine (i_canEdit_v p c s.size t false _ (by omega) HC).mono ?_
    rintro e w2 ⟨rfl, hb2⟩
    have E1_2 := E1_1.below hb2 E1_1.lt
    have E2_2 := E2_1.below hb2 E2_1.lt
    have HB_2 := below_next HB_1 hb2
    clear hb2 HB_1 E1_1 E2_1
    clear c10a c10b c10c c11a c11b c11c
    obtain ⟨c20a, c20b, c20c⟩ := E1_2.cells
    obtain ⟨c21a, c21b, c21c⟩ := E2_2.cells
    have f := E2_2.free
    go_wp2
    have hk := E2_2.put (0) (0) (⟨#[]⟩)
    have hB := below_putE (p := 0) (c := 0) (t := ⟨#[]⟩) HB_2 (show w.heap.size ≤ w.heap.size + 1 by omega)
    simp only [EdAt, putE] at hk hB
    refine bodyPost_ret (results_row_tmpE rfl _ _ (w.heap.size + 1) _ _ _ _ rfl hk Try.underlying24 rfl (by kernel_rfl)) rfl ?_
    exact ⟨rfl, hB⟩
  · have HV : Hid (decide (ValidT s.data.toList) = false) := decide_eq_false hv
    clear hv hc
    obtain ⟨E1, E2, HB⟩ := ebox2 w p c t 0 0 ⟨#[]⟩
    go_enter Try.func19, Try.ntmps19
    go_wp2_with fail
    generalize ((w.alloc (.cells #[.int .i64 p, .int .i64 c, .string t] 24)).alloc (.cells #[.int .i64 0, .int .i64 0, .string ⟨#[]⟩] 24)) = wA at E1 E2 HB ⊢
    obtain ⟨c00a, c00b, c00c⟩ := E1.cells
    obtain ⟨c01a, c01b, c01c⟩ := E2.cells
    refine (i_ValidText_v s false _ (by omega) HV).mono ?_
    rintro e w1 ⟨rfl, hb1⟩
    have E1_1 := E1.below hb1 E1.lt
    have E2_1 := E2.below hb1 E2.lt
    have HB_1 := below_next HB hb1
    clear hb1 HB E1 E2
    clear c00a c00b c00c c01a c01b c01c
    obtain ⟨c10a, c10b, c10c⟩ := E1_1.cells
    obtain ⟨c11a, c11b, c11c⟩ := E2_1.cells
    have f := E2_1.free
    go_wp2
    have hk := E2_1.put (0) (0) (⟨#[]⟩)
    have hB := below_putE (p := 0) (c := 0) (t := ⟨#[]⟩) HB_1 (show w.heap.size ≤ w.heap.size + 1 by omega)
    simp only [EdAt, putE] at hk hB
    refine bodyPost_ret (results_row_tmpE rfl _ _ (w.heap.size + 1) _ _ _ _ rfl hk Try.underlying24 rfl (by kernel_rfl)) rfl ?_
    exact ⟨rfl, hB⟩
set_option maxHeartbeats 2000000 in
theorem s_InvertEdit_no (s t : ByteArray) (p c : Int) (w : World) (hs : s.size ≤ 1048576) (ht : t.size ≤ 1048576) (hc : ¬ (ValidT s.data.toList ∧ CanE p c t s.size)) :
    Calls Try.prog 20 #[.string s, edV p c t] w fun e w' => e = .returned (.tuple #[edV 0 0 ⟨#[]⟩, .bool false]) ∧ Below w.heap.size w w' := by
  by_cases hv : ValidT s.data.toList
  · have HV : Hid (decide (ValidT s.data.toList) = true) := decide_eq_true hv
    have HC : Hid (decide (CanE p c t s.size) = false) := decide_eq_false fun h => hc ⟨hv, h⟩
    have h60 := hv.size
    clear hv hc
    obtain ⟨E1, E2, HB⟩ := ebox2 w p c t 0 0 ⟨#[]⟩
    go_enter Try.func20, Try.ntmps20
    go_wp2_with fail
    generalize ((w.alloc (.cells #[.int .i64 p, .int .i64 c, .string t] 24)).alloc (.cells #[.int .i64 0, .int .i64 0, .string ⟨#[]⟩] 24)) = wA at E1 E2 HB ⊢
    obtain ⟨c00a, c00b, c00c⟩ := E1.cells
    obtain ⟨c01a, c01b, c01c⟩ := E2.cells
    refine (s_validText_v s true _ (by omega) HV).mono ?_
    rintro e w' ⟨rfl, rfl⟩
    go_wp2_with fail
    refine (s_validEdit p c s.size t false _ (by omega) (by omega) HC).mono ?_
    rintro e w1 ⟨rfl, hb1⟩
    have E1_1 := E1.below hb1 E1.lt
    have E2_1 := E2.below hb1 E2.lt
    have HB_1 := below_next HB hb1
    clear hb1 HB E1 E2
    clear c00a c00b c00c c01a c01b c01c
    obtain ⟨c10a, c10b, c10c⟩ := E1_1.cells
    obtain ⟨c11a, c11b, c11c⟩ := E2_1.cells
    have f := E2_1.free
    go_wp2
    have hk := E2_1.put (0) (0) (⟨#[]⟩)
    have hB := below_putE (p := 0) (c := 0) (t := ⟨#[]⟩) HB_1 (show w.heap.size ≤ w.heap.size + 1 by omega)
    simp only [EdAt, putE] at hk hB
    refine bodyPost_ret (results_row_tmpE rfl _ _ (w.heap.size + 1) _ _ _ _ rfl hk Try.underlying24 rfl (by kernel_rfl)) rfl ?_
    exact ⟨rfl, hB⟩
  · have HV : Hid (decide (ValidT s.data.toList) = false) := decide_eq_false hv
    clear hv hc
    obtain ⟨E1, E2, HB⟩ := ebox2 w p c t 0 0 ⟨#[]⟩
    go_enter Try.func20, Try.ntmps20
    go_wp2_with fail
    generalize ((w.alloc (.cells #[.int .i64 p, .int .i64 c, .string t] 24)).alloc (.cells #[.int .i64 0, .int .i64 0, .string ⟨#[]⟩] 24)) = wA at E1 E2 HB ⊢
    obtain ⟨c00a, c00b, c00c⟩ := E1.cells
    obtain ⟨c01a, c01b, c01c⟩ := E2.cells
    refine (s_validText_v s false _ (by omega) HV).mono ?_
    rintro e w' ⟨rfl, rfl⟩
    have f := E2.free
    go_wp2
    have hk := E2.put (0) (0) (⟨#[]⟩)
    have hB := below_putE (p := 0) (c := 0) (t := ⟨#[]⟩) HB (show w.heap.size ≤ w.heap.size + 1 by omega)
    simp only [EdAt, putE] at hk hB
    refine bodyPost_ret (results_row_tmpE rfl _ _ (w.heap.size + 1) _ _ _ _ rfl hk Try.underlying24 rfl (by kernel_rfl)) rfl ?_
    exact ⟨rfl, hB⟩

/-- where a mark is after the edit -/
def mvM (k p c : Int) (t : ByteArray) : Int := if k ≤ p then k else if p + c ≤ k then k + ((t.size : Int) - c) else p
def mvA (k p c : Int) (t : ByteArray) (many : Int) : Int := if CanE p c t many ∧ 0 ≤ k ∧ k ≤ many then mvM k p c t else -1
set_option maxHeartbeats 2000000 in
theorem i_MoveMark (k p c many v : Int) (t : ByteArray) (w : World) (ht : t.size ≤ 1048576) (hv : mvA k p c t many = v) :
    Calls Try.prog 23 #[.int .i64 k, edV p c t, .int .i64 many] w fun e w' => e = .returned (.int .i64 v) ∧ Below w.heap.size w w' := by
  unfold mvA mvM at hv
  by_cases hc : CanE p c t many
  · have HC : Hid (decide (CanE p c t many) = true) := decide_eq_true hc
    obtain ⟨g1, g2, g3, g4, g5⟩ := hc
    have hz := g4.size
    have hcc := And.intro g1 (And.intro g2 (And.intro g3 (And.intro g4 g5)))
    by_cases hk : 0 ≤ k ∧ k ≤ many
    · rw [if_pos ⟨hcc, hk⟩] at hv
      clear hcc g4
      by_cases h1 : k ≤ p
      · rw [if_pos h1] at hv
        have HVv := Lib.hid hv
        have d1 : decide (k ≤ p) = true := decide_eq_true h1
        clear hv
        obtain ⟨E1, HB⟩ := ebox1 w p c t
        go_enter Try.func23, Try.ntmps23
        go_wp2_with fail
        generalize (w.alloc (.cells #[.int .i64 p, .int .i64 c, .string t] 24)) = wA at E1 HB ⊢
        obtain ⟨c00a, c00b, c00c⟩ := E1.cells
        refine (i_canEdit_v p c many t true _ (by omega) HC).mono ?_
        rintro e w1 ⟨rfl, hb1⟩
        have E1_1 := E1.below hb1 E1.lt
        have HB_1 := below_next HB hb1
        clear hb1 HB E1
        clear c00a c00b c00c
        obtain ⟨c10a, c10b, c10c⟩ := E1_1.cells
        go_wp2_with fail
        refine (e_within_yes _ _ _ _ hk.1 hk.2).mono ?_
        rintro e w' ⟨rfl, rfl⟩
        go_wp2
        go_ret
        exact ⟨by rw [← HVv.out]; rfl, HB_1⟩
      · rw [if_neg h1] at hv
        have d1 : decide (k ≤ p) = false := decide_eq_false h1
        by_cases h2 : p + c ≤ k
        · rw [if_pos h2] at hv
          have HVv := Lib.hid hv
          have d2 : decide (p + c ≤ k) = true := decide_eq_true h2
          have u2 : IntKind.i64.wrap (k + ((t.size : Int) - c)) = k + ((t.size : Int) - c) := IntWalk.i64_in _ (by omega)
          clear hv
          obtain ⟨E1, HB⟩ := ebox1 w p c t
          go_enter Try.func23, Try.ntmps23
          go_wp2_with fail
          generalize (w.alloc (.cells #[.int .i64 p, .int .i64 c, .string t] 24)) = wA at E1 HB ⊢
          obtain ⟨c00a, c00b, c00c⟩ := E1.cells
          refine (i_canEdit_v p c many t true _ (by omega) HC).mono ?_
          rintro e w1 ⟨rfl, hb1⟩
          have E1_1 := E1.below hb1 E1.lt
          have HB_1 := below_next HB hb1
          clear hb1 HB E1
          clear c00a c00b c00c
          obtain ⟨c10a, c10b, c10c⟩ := E1_1.cells
          go_wp2_with fail
          refine (e_within_yes _ _ _ _ hk.1 hk.2).mono ?_
          rintro e w' ⟨rfl, rfl⟩
          go_wp2_with fail
          refine (i_cutEnd p c t _ (by omega) (by omega)).mono ?_
          rintro e w2 ⟨rfl, hb2⟩
          have E1_2 := E1_1.below hb2 E1_1.lt
          have HB_2 := below_next HB_1 hb2
          clear hb2 HB_1 E1_1
          clear c10a c10b c10c
          obtain ⟨c20a, c20b, c20c⟩ := E1_2.cells
          go_wp2_with fail
          refine (i_growthBy p c t _ (by omega) (by omega)).mono ?_
          rintro e w3 ⟨rfl, hb3⟩
          have E1_3 := E1_2.below hb3 E1_2.lt
          have HB_3 := below_next HB_2 hb3
          clear hb3 HB_2 E1_2
          clear c20a c20b c20c
          obtain ⟨c30a, c30b, c30c⟩ := E1_3.cells
          go_wp2
          go_ret
          exact ⟨by rw [← HVv.out]; rfl, HB_3⟩
        · rw [if_neg h2] at hv
          have HVv := Lib.hid hv
          have d2 : decide (p + c ≤ k) = false := decide_eq_false h2
          clear hv
          obtain ⟨E1, HB⟩ := ebox1 w p c t
          go_enter Try.func23, Try.ntmps23
          go_wp2_with fail
          generalize (w.alloc (.cells #[.int .i64 p, .int .i64 c, .string t] 24)) = wA at E1 HB ⊢
          obtain ⟨c00a, c00b, c00c⟩ := E1.cells
          refine (i_canEdit_v p c many t true _ (by omega) HC).mono ?_
          rintro e w1 ⟨rfl, hb1⟩
          have E1_1 := E1.below hb1 E1.lt
          have HB_1 := below_next HB hb1
          clear hb1 HB E1
          clear c00a c00b c00c
          obtain ⟨c10a, c10b, c10c⟩ := E1_1.cells
          go_wp2_with fail
          refine (e_within_yes _ _ _ _ hk.1 hk.2).mono ?_
          rintro e w' ⟨rfl, rfl⟩
          go_wp2_with fail
          refine (i_cutEnd p c t _ (by omega) (by omega)).mono ?_
          rintro e w2 ⟨rfl, hb2⟩
          have E1_2 := E1_1.below hb2 E1_1.lt
          have HB_2 := below_next HB_1 hb2
          clear hb2 HB_1 E1_1
          clear c10a c10b c10c
          obtain ⟨c20a, c20b, c20c⟩ := E1_2.cells
          go_wp2
          go_ret
          exact ⟨by rw [← HVv.out]; rfl, HB_2⟩
    · rw [if_neg (fun h => hk h.2)] at hv
      have HVv := Lib.hid hv
      clear hv hcc g4
      obtain ⟨E1, HB⟩ := ebox1 w p c t
      go_enter Try.func23, Try.ntmps23
      go_wp2_with fail
      generalize (w.alloc (.cells #[.int .i64 p, .int .i64 c, .string t] 24)) = wA at E1 HB ⊢
      obtain ⟨c00a, c00b, c00c⟩ := E1.cells
      refine (i_canEdit_v p c many t true _ (by omega) HC).mono ?_
      rintro e w1 ⟨rfl, hb1⟩
      have E1_1 := E1.below hb1 E1.lt
      have HB_1 := below_next HB hb1
      clear hb1 HB E1
      clear c00a c00b c00c
      obtain ⟨c10a, c10b, c10c⟩ := E1_1.cells
      go_wp2_with fail
      refine (e_within_no _ _ _ _ hk).mono ?_
      rintro e w' ⟨rfl, rfl⟩
      go_wp2
      go_ret
      exact ⟨by rw [← HVv.out]; rfl, HB_1⟩
  · have HC : Hid (decide (CanE p c t many) = false) := decide_eq_false hc
    rw [if_neg (fun h => hc h.1)] at hv
    have HVv := Lib.hid hv
    clear hv hc
    obtain ⟨E1, HB⟩ := ebox1 w p c t
    go_enter Try.func23, Try.ntmps23
    go_wp2_with fail
    generalize (w.alloc (.cells #[.int .i64 p, .int .i64 c, .string t] 24)) = wA at E1 HB ⊢
    obtain ⟨c00a, c00b, c00c⟩ := E1.cells
    refine (i_canEdit_v p c many t false _ (by omega) HC).mono ?_
    rintro e w1 ⟨rfl, hb1⟩
    have E1_1 := E1.below hb1 E1.lt
    have HB_1 := below_next HB hb1
    clear hb1 HB E1
    clear c00a c00b c00c
    obtain ⟨c10a, c10b, c10c⟩ := E1_1.cells
    go_wp2
    go_ret
    exact ⟨by rw [← HVv.out]; rfl, HB_1⟩
set_option maxHeartbeats 2000000 in
theorem s_moveMark (k p c many : Int) (t : ByteArray) (w : World) (ht : t.size ≤ 60) (g1 : 0 ≤ many ∧ many ≤ 60) (g2 : 0 ≤ p ∧ p ≤ many) (g3 : 0 ≤ c ∧ c ≤ many - p) (hk : 0 ≤ k ∧ k ≤ many) :
    Calls Try.prog 47 #[.int .i64 k, edV p c t] w fun e w' => e = .returned (.int .i64 (mvM k p c t)) ∧ Below w.heap.size w w' := by
  obtain ⟨v, hv⟩ : ∃ v, mvM k p c t = v := ⟨_, rfl⟩
  rw [hv]
  unfold mvM at hv
  have u1 : IntKind.i64.wrap (p + c) = p + c := IntWalk.i64_in _ (by omega)
  by_cases h1 : k ≤ p
  · rw [if_pos h1] at hv
    have HVv := Lib.hid hv
    have d1 : decide (k ≤ p) = true := decide_eq_true h1
    clear hv
    go_enter Try.func47, Try.ntmps47
    go_wp2
    go_ret
    exact ⟨by rw [← HVv.out]; rfl, (ebox1 w p c t).2⟩
  · rw [if_neg h1] at hv
    have d1 : decide (k ≤ p) = false := decide_eq_false h1
    by_cases h2 : p + c ≤ k
    · rw [if_pos h2] at hv
      have HVv : Hid (k - c + (t.size : Int) = v) := by show _ = _; omega
      have d2 : decide (p + c ≤ k) = true := decide_eq_true h2
      have u2 : IntKind.i64.wrap (k - c) = k - c := IntWalk.i64_in _ (by omega)
      have u3 : IntKind.i64.wrap (k - c + (t.size : Int)) = k - c + (t.size : Int) := IntWalk.i64_in _ (by omega)
      clear hv
      go_enter Try.func47, Try.ntmps47
      go_wp2
      go_ret
      exact ⟨by rw [← HVv.out]; rfl, (ebox1 w p c t).2⟩
    · rw [if_neg h2] at hv
      have HVv := Lib.hid hv
      have d2 : decide (p + c ≤ k) = false := decide_eq_false h2
      clear hv
      go_enter Try.func47, Try.ntmps47
      go_wp2
      go_ret
      exact ⟨by rw [← HVv.out]; rfl, (ebox1 w p c t).2⟩
set_option maxHeartbeats 2000000 in
theorem s_MoveMark (k p c many v : Int) (t : ByteArray) (w : World) (ht : t.size ≤ 1048576) (hv : mvA k p c t many = v) :
    Calls Try.prog 24 #[.int .i64 k, edV p c t, .int .i64 many] w fun e w' => e = .returned (.int .i64 v) ∧ Below w.heap.size w w' := by
  unfold mvA at hv
  by_cases hm : 0 ≤ many ∧ many ≤ 60
  · by_cases hk : 0 ≤ k ∧ k ≤ many
    · by_cases hc : CanE p c t many
      · have HC : Hid (decide (CanE p c t many) = true) := decide_eq_true hc
        rw [if_pos ⟨hc, hk⟩] at hv
        have HVv := Lib.hid hv
        obtain ⟨g1, g2, g3, g4, g5⟩ := hc
        have hz := g4.size
        clear hv g4
        obtain ⟨E1, HB⟩ := ebox1 w p c t
        go_enter Try.func24, Try.ntmps24
        go_wp2_with fail
        generalize (w.alloc (.cells #[.int .i64 p, .int .i64 c, .string t] 24)) = wA at E1 HB ⊢
        obtain ⟨c00a, c00b, c00c⟩ := E1.cells
        refine (inRange_yes _ _ _ _ hm.1 hm.2).mono ?_
        rintro e w' ⟨rfl, rfl⟩
        go_wp2_with fail
        refine (inRange_yes _ _ _ _ hk.1 hk.2).mono ?_
        rintro e w' ⟨rfl, rfl⟩
        go_wp2_with fail
        refine (s_validEdit p c many t true _ (by omega) hm HC).mono ?_
        rintro e w1 ⟨rfl, hb1⟩
        have E1_1 := E1.below hb1 E1.lt
        have HB_1 := below_next HB hb1
        clear hb1 HB E1
        clear c00a c00b c00c
        obtain ⟨c10a, c10b, c10c⟩ := E1_1.cells
        go_wp2_with fail
        refine (s_moveMark k p c many t _ (by omega) g1 g2 g3 hk).mono ?_
        rintro e w2 ⟨rfl, hb2⟩
        have E1_2 := E1_1.below hb2 E1_1.lt
        have HB_2 := below_next HB_1 hb2
        clear hb2 HB_1 E1_1
        clear c10a c10b c10c
        obtain ⟨c20a, c20b, c20c⟩ := E1_2.cells
        go_wp2
        go_ret
        exact ⟨by rw [← HVv.out]; rfl, HB_2⟩
      · have HC : Hid (decide (CanE p c t many) = false) := decide_eq_false hc
        rw [if_neg (fun h => hc h.1)] at hv
        have HVv := Lib.hid hv
        clear hv hc
        obtain ⟨E1, HB⟩ := ebox1 w p c t
        go_enter Try.func24, Try.ntmps24
        go_wp2_with fail
        generalize (w.alloc (.cells #[.int .i64 p, .int .i64 c, .string t] 24)) = wA at E1 HB ⊢
        obtain ⟨c00a, c00b, c00c⟩ := E1.cells
        refine (inRange_yes _ _ _ _ hm.1 hm.2).mono ?_
        rintro e w' ⟨rfl, rfl⟩
        go_wp2_with fail
        refine (inRange_yes _ _ _ _ hk.1 hk.2).mono ?_
        rintro e w' ⟨rfl, rfl⟩
        go_wp2_with fail
        refine (s_validEdit p c many t false _ (by omega) hm HC).mono ?_
        rintro e w1 ⟨rfl, hb1⟩
        have E1_1 := E1.below hb1 E1.lt
        have HB_1 := below_next HB hb1
        clear hb1 HB E1
        clear c00a c00b c00c
        obtain ⟨c10a, c10b, c10c⟩ := E1_1.cells
        go_wp2
        go_ret
        exact ⟨by rw [← HVv.out]; rfl, HB_1⟩
    · rw [if_neg (fun h => hk h.2)] at hv
      have HVv := Lib.hid hv
      clear hv
      obtain ⟨E1, HB⟩ := ebox1 w p c t
      go_enter Try.func24, Try.ntmps24
      go_wp2_with fail
      generalize (w.alloc (.cells #[.int .i64 p, .int .i64 c, .string t] 24)) = wA at E1 HB ⊢
      obtain ⟨c00a, c00b, c00c⟩ := E1.cells
      refine (inRange_yes _ _ _ _ hm.1 hm.2).mono ?_
      rintro e w' ⟨rfl, rfl⟩
      go_wp2_with fail
      refine (e_range_no _ _ _ _ hk).mono ?_
      rintro e w' ⟨rfl, rfl⟩
      go_wp2
      go_ret
      exact ⟨by rw [← HVv.out]; rfl, HB⟩
  · rw [if_neg (fun h => hm h.1.1)] at hv
    have HVv := Lib.hid hv
    clear hv
    obtain ⟨E1, HB⟩ := ebox1 w p c t
    go_enter Try.func24, Try.ntmps24
    go_wp2_with fail
    generalize (w.alloc (.cells #[.int .i64 p, .int .i64 c, .string t] 24)) = wA at E1 HB ⊢
    obtain ⟨c00a, c00b, c00c⟩ := E1.cells
    refine (e_range_no _ _ _ _ hm).mono ?_
    rintro e w' ⟨rfl, rfl⟩
    go_wp2
    go_ret
    exact ⟨by rw [← HVv.out]; rfl, HB⟩
end Go.Proofs.Ythlamidlcbnchaa
