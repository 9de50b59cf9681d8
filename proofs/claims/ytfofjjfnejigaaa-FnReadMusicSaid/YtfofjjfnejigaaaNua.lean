
/- The cells of notes: what they are; the small functions of both sides. -/
import Derived.Test.YtfofjjfnejigaaaNtc
namespace Go.Proofs.Ytfofjjfnejigaaa
open Go.RowKit

def stepL : List Int := [25, 17, 11, 27, 19, 10, 26]
def valL : List Int := [36, 4, 32, 0]
def restL : List Int := [13, 37, 39, 45]
def octL : List Int := [8, 24, 56, 16, 40, 48, 32]
/-- the cell of a note or a rest -/
def noteC (x : PNote) : Int := if x.p = -1 then restL.getD x.v.toNat 0 else stepL.getD (x.p % 7).toNat 0 + valL.getD x.v.toNat 0
/-- whether a note wants the mark of its octave behind another one -/
def NeedM (last p : Int) : Prop := last < 0 ∨ 4 < p - last ∨ 4 < last - p ∨ ((2 < p - last ∨ 2 < last - p) ∧ p / 7 ≠ last / 7)
instance (l p : Int) : Decidable (NeedM l p) := inferInstanceAs (Decidable (_ ∨ _))
def markC (last p : Int) : List Int := if NeedM last p then [octL.getD (p / 7).toNat 0] else []
/-- the pitch of the last note of the first k, -1 if there is none -/
def lastP (P : List PNote) : Nat → Int
  | 0 => -1
  | k + 1 => if (P.getD k noN).p = -1 then lastP P k else (P.getD k noN).p
def musC (last : Int) (x : PNote) : List Int := if x.p = -1 then [noteC x] else markC last x.p ++ [noteC x]
def musTo (P : List PNote) : Nat → List Int
  | 0 => []
  | k + 1 => musTo P k ++ musC (lastP P k) (P.getD k noN)
theorem lastP_bd {P : List PNote} : ∀ k, (∀ i, i < k → NtOk (P.getD i noN)) → -1 ≤ lastP P k ∧ lastP P k ≤ 48 := by
  intro k
  induction k with
  | zero => intro _; simp [lastP]
  | succ k ih =>
    intro h
    have h1 := h k (by omega)
    simp only [lastP]
    split
    · exact ih fun i hi => h i (by omega)
    · exact ⟨h1.1, h1.2.1⟩
theorem markC_len (l p : Int) : (markC l p).length ≤ 1 := by unfold markC; split <;> simp
theorem musC_len (l : Int) (x : PNote) : 1 ≤ (musC l x).length ∧ (musC l x).length ≤ 2 := by
  unfold musC
  split
  · simp
  · have := markC_len l x.p; simp; omega
theorem musTo_len (P : List PNote) (k : Nat) : k ≤ (musTo P k).length ∧ (musTo P k).length ≤ 2 * k := by
  induction k with
  | zero => simp [musTo]
  | succ k ih => have := musC_len (lastP P k) (P.getD k noN); simp only [musTo, List.length_append]; omega
theorem lit_at (w : World) (zs : List Int) (r : Nat) (hr : r < zs.length) : (w.alloc (.cells (zs.map (Value.int .i64)).toArray 3)).cell? ⟨w.heap.size, r, none⟩ = some (.int .i64 (zs.getD r 0)) := by
  rw [cell_of_row _ _ _ _ _ _ (heap_alloc_new w _)]
  simp [List.getD_eq_getElem?_getD, hr]
theorem i_restCell (w : World) (v r : Int) (h0 : 0 ≤ v) (h3 : v ≤ 3) (hr : Hid (restL.getD v.toNat 0 = r)) :
    Calls Try.prog 31 #[.int .i64 v] w fun e w' => e = .returned (.int .i64 r) ∧ w = w' := by
  rcases (show v = 0 ∨ v = 1 ∨ v = 2 ∨ v = 3 by omega) with rfl | rfl | rfl | rfl
  all_goals
    obtain rfl := hr.out
    clear hr h0 h3
    go_enter Try.func31, Try.ntmps31
    go_wp2
    go_ret
    exact ⟨rfl, rfl⟩
theorem i_valueCell (w : World) (v r : Int) (h0 : 0 ≤ v) (h3 : v ≤ 3) (hr : Hid (valL.getD v.toNat 0 = r)) :
    Calls Try.prog 35 #[.int .i64 v] w fun e w' => e = .returned (.int .i64 r) ∧ w = w' := by
  rcases (show v = 0 ∨ v = 1 ∨ v = 2 ∨ v = 3 by omega) with rfl | rfl | rfl | rfl
  all_goals
    obtain rfl := hr.out
    clear hr h0 h3
    go_enter Try.func35, Try.ntmps35
    go_wp2
    go_ret
    exact ⟨rfl, rfl⟩
theorem i_stepCell (w : World) (v r : Int) (h0 : 0 ≤ v) (h3 : v ≤ 6) (hr : Hid (stepL.getD v.toNat 0 = r)) :
    Calls Try.prog 34 #[.int .i64 v] w fun e w' => e = .returned (.int .i64 r) ∧ w = w' := by
  rcases (show v = 0 ∨ v = 1 ∨ v = 2 ∨ v = 3 ∨ v = 4 ∨ v = 5 ∨ v = 6 by omega) with rfl | rfl | rfl | rfl | rfl | rfl | rfl
  all_goals
    obtain rfl := hr.out
    clear hr h0 h3
    go_enter Try.func34, Try.ntmps34
    go_wp2
    go_ret
    exact ⟨rfl, rfl⟩
theorem i_octaveCell (w : World) (v r : Int) (h0 : 0 ≤ v) (h3 : v ≤ 6) (hr : Hid (octL.getD v.toNat 0 = r)) :
    Calls Try.prog 33 #[.int .i64 v] w fun e w' => e = .returned (.int .i64 r) ∧ w = w' := by
  rcases (show v = 0 ∨ v = 1 ∨ v = 2 ∨ v = 3 ∨ v = 4 ∨ v = 5 ∨ v = 6 by omega) with rfl | rfl | rfl | rfl | rfl | rfl | rfl
  all_goals
    obtain rfl := hr.out
    clear hr h0 h3
    go_enter Try.func33, Try.ntmps33
    go_wp2
    go_ret
    exact ⟨rfl, rfl⟩
theorem s_octaveMark (w : World) (v r : Int) (h0 : 0 ≤ v) (h3 : v ≤ 6) (hr : Hid (octL.getD v.toNat 0 = r)) :
    Calls Try.prog 55 #[.int .i64 v] w fun e w' => e = .returned (.int .i64 r) ∧ Below w.heap.size w w' := by
  rcases (show v = 0 ∨ v = 1 ∨ v = 2 ∨ v = 3 ∨ v = 4 ∨ v = 5 ∨ v = 6 by omega) with rfl | rfl | rfl | rfl | rfl | rfl | rfl
  all_goals
    obtain rfl := hr.out
    clear hr h0 h3
    go_enter Try.func55, Try.ntmps55
    go_wp2
    go_ret
    exact ⟨rfl, (Below.refl _ _).alloc (Nat.le_refl _) _⟩
set_option maxHeartbeats 4000000 in
theorem s_noteCell (w : World) (p v r : Int) (h : NtOk ⟨p, v⟩) (hr : Hid (noteC ⟨p, v⟩ = r)) :
    Calls Try.prog 56 #[.agg #[.int .i64 p, .int .i64 v]] w fun e w' => e = .returned (.int .i64 r) ∧ Below w.heap.size w w' := by
  obtain ⟨h1, h2, h3, h4⟩ := h
  simp only at h1 h2 h3 h4
  by_cases hp : p = -1
  · subst hp
    rcases (show v = 0 ∨ v = 1 ∨ v = 2 ∨ v = 3 by omega) with rfl | rfl | rfl | rfl
    all_goals
      obtain rfl := hr.out
      clear hr h1 h2 h3 h4
      go_enter Try.func56, Try.ntmps56
      go_wp2
      go_ret
      exact ⟨rfl, ((Below.refl _ _).alloc (Nat.le_refl _) _).alloc (by simp) _⟩
  · have d1 : decide (p < 0) = false := decide_eq_false (by omega)
    obtain ⟨k, hk⟩ : ∃ k : Nat, p % 7 = k := ⟨(p % 7).toNat, by omega⟩
    obtain ⟨v', rfl⟩ : ∃ v' : Nat, v = v' := ⟨v.toNat, by omega⟩
    have t1 : p.tmod 7 = (k : Int) := by rw [Int.tmod_eq_emod_of_nonneg (by omega), hk]
    have hk7 : k < 7 := by omega
    have hv4 : v' < 4 := by omega
    obtain ⟨x, hx⟩ : ∃ x, stepL.getD k 0 = x := ⟨_, rfl⟩
    obtain ⟨y, hy⟩ : ∃ y, valL.getD v' 0 = y := ⟨_, rfl⟩
    have hxb : 0 ≤ x ∧ x ≤ 27 := by rw [← hx]; rcases (show k = 0 ∨ k = 1 ∨ k = 2 ∨ k = 3 ∨ k = 4 ∨ k = 5 ∨ k = 6 by omega) with rfl | rfl | rfl | rfl | rfl | rfl | rfl <;> decide
    have hyb : 0 ≤ y ∧ y ≤ 36 := by rw [← hy]; rcases (show v' = 0 ∨ v' = 1 ∨ v' = 2 ∨ v' = 3 by omega) with rfl | rfl | rfl | rfl <;> decide
    have HRR : Hid (r = x + y) := by
      show _ = _
      rw [← hr.out, noteC, if_neg hp]
      simp only
      rw [hk, Int.toNat_natCast, Int.toNat_natCast, hx, hy]
    have us : IntKind.i64.wrap (x + y) = x + y := IntWalk.i64_in _ (by omega)
    have b1 : (0 : Int) ≤ (k : Int) := by omega
    have b2 : (k : Int) < 7 := by omega
    have b3 : (0 : Int) ≤ (v' : Int) := by omega
    have b4 : (v' : Int) < 4 := by omega
    have A1 : ∀ wx : World, (wx.alloc (.cells #[.int .i64 25, .int .i64 17, .int .i64 11, .int .i64 27, .int .i64 19, .int .i64 10, .int .i64 26] 3)).cell? ⟨wx.heap.size, k, none⟩ = some (.int .i64 x) := fun wx => by rw [← hx]; exact lit_at wx stepL k hk7
    have B1 : ∀ wx : World, (wx.alloc (.cells #[.int .i64 36, .int .i64 4, .int .i64 32, .int .i64 0] 3)).cell? ⟨wx.heap.size, v', none⟩ = some (.int .i64 y) := fun wx => by rw [← hy]; exact lit_at wx valL v' hv4
    have f1 := A1 (w.alloc (.cells #[.int .i64 p, .int .i64 (v' : Int)] 35))
    have g1 := B1 (w.alloc (.cells #[.int .i64 p, .int .i64 (v' : Int)] 35))
    have f2 := (Below.cell ((Below.refl _ _).alloc (Nat.le_refl _) (.cells #[.int .i64 36, .int .i64 4, .int .i64 32, .int .i64 0] 3)) (World.block_lt_of_cell? _ _ f1)).trans f1
    have g2 := (Below.cell ((Below.refl _ _).alloc (Nat.le_refl _) (.cells #[.int .i64 25, .int .i64 17, .int .i64 11, .int .i64 27, .int .i64 19, .int .i64 10, .int .i64 26] 3)) (World.block_lt_of_cell? _ _ g1)).trans g1
    have f3 := B1 ((w.alloc (.cells #[.int .i64 p, .int .i64 (v' : Int)] 35)).alloc (.cells #[.int .i64 25, .int .i64 17, .int .i64 11, .int .i64 27, .int .i64 19, .int .i64 10, .int .i64 26] 3))
    have g3 := A1 ((w.alloc (.cells #[.int .i64 p, .int .i64 (v' : Int)] 35)).alloc (.cells #[.int .i64 36, .int .i64 4, .int .i64 32, .int .i64 0] 3))
    simp only [World.size_alloc] at f1 f2 f3 g1 g2 g3
    clear A1 B1 hx hy hk hr hp
    go_enter Try.func56, Try.ntmps56
    go_wp2_with fail
    go_region
    all_goals
      go_wp2
      go_ret
      exact ⟨by rw [HRR.out]; rfl, (((((Below.refl _ _).alloc (Nat.le_refl _) _).alloc (by simp) _).alloc (by simp; omega) _)).drew⟩
end Go.Proofs.Ytfofjjfnejigaaa
