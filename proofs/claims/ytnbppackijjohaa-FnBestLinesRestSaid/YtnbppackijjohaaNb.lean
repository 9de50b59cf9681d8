
/- What words cost from a place on: costTo. -/
import Derived.Test.YtnbppackijjohaaNa
import Derived.Test.YtnbppackijjohaaLe
import Derived.Laws.Rows
import Derived.Deep.QuietTactic
import Derived.BigQuiet
namespace Go.Proofs.Ytnbppackijjohaa
open Go.RowKit

/-- the block g holds the numbers zs -/
def ArrAt (w : World) (g : Nat) (t : TypeId) (zs : List Int) : Prop := w.heap[g]? = some (.cells (ints zs).toArray t (0, 0))
theorem ArrAt.cell {w : World} {g : Nat} {t : TypeId} {zs : List Int} (h : ArrAt w g t zs) {k : Nat} (hk : k < zs.length) : w.cell? ⟨g, k, none⟩ = some (.int .i64 (zs.getD k 0)) := by
  rw [cell_of_row _ g k _ _ _ h]
  simp [ints, List.getD_eq_getElem?_getD, hk]
theorem ArrAt.free {w : World} {g : Nat} {t : TypeId} {zs : List Int} (h : ArrAt w g t zs) (k : Nat) : w.frozen? ⟨g, k, none⟩ = false := by
  unfold ArrAt at h
  simp [World.frozen?, h]
theorem ArrAt.below {w w' : World} {g B : Nat} {t : TypeId} {zs : List Int} (h : ArrAt w g t zs) (hb : Below B w w') (hg : g < B) : ArrAt w' g t zs := (hb.block g hg).trans h
theorem ArrAt.set {w : World} {g k : Nat} {t : TypeId} {zs : List Int} (h : ArrAt w g t zs) (z : Int) : ArrAt (w.setCell ⟨g, k, none⟩ (.int .i64 z)) g t (zs.set k z) := by
  unfold ArrAt at h ⊢
  rw [setCell_eq_setRow w g k _ t (0, 0) _ h, setRow_heap w g _ _ t _ h]
  congr 2
  apply Array.ext'
  simp [ints, List.map_set]
theorem ArrAt.other {w : World} {g g' k : Nat} {t : TypeId} {zs : List Int} (h : ArrAt w g t zs) (u : Value) (hne : g ≠ g') : ArrAt (w.setCell ⟨g', k, none⟩ u) g t zs := by
  unfold ArrAt at h ⊢
  rw [heap_setCell_other w ⟨g', k, none⟩ g u (by simp; exact hne)]
  exact h
/-- whatever is laid behind -/
theorem ArrAt.lt {w : World} {g : Nat} {t : TypeId} {zs : List Int} (h : ArrAt w g t zs) : g < w.heap.size := (Array.getElem?_eq_some_iff.1 h).1
set_option maxHeartbeats 2000000 in
theorem i_costTo (w : World) (v : Value) (L : List (List Int)) (at' c : Nat) (W : Int) (zs : List Int) (r to : Int) (ht : to = ((at' + c : Nat) : Int)) (hx : ListsAt w v L) (h0 : at' < L.length) (hc1 : 1 ≤ c) (hc2 : at' + c ≤ L.length) (h30 : L.length ≤ 30) (h40 : Hid (Len40 L)) (hW : W ≤ 40)
    (hz : zs.length = 31) (hsm : Hid (SmallA zs L.length)) (hfit : Hid (((pack ((L.drop at').take c)).length : Int) ≤ W)) (hr : Hid (stepC W (L.drop at') (arrA zs L.length) c = r)) :
    Calls Try.prog 66 #[v, .int .i64 at',   .int .i64 to, .int .i64 W, .agg (ints zs).toArray] w fun e w' => e = .returned (.int .i64 r) ∧ Below w.heap.size w w' := by
  subst ht
  have HX := keptL hx
  obtain ⟨a, cp, rfl, x1, x2, x4⟩ := hx
  obtain ⟨n, hn⟩ : ∃ n, L.length = n := ⟨_, rfl⟩
  rw [hn] at x1 HX h0 h30 hc2 hsm hr ⊢
  have HN := Lib.hid hn
  obtain ⟨g, off, rfl⟩ : ∃ g off, a = some ⟨g, off, none⟩ := by
    rcases x4 with rfl | ⟨g, off, h, _⟩
    · simp at hn; omega
    · exact ⟨g, off, h⟩
  clear hn x4
  by_cases hto : at' + c = n
  · have q1 : (((at' + c : Nat) : Int) == (n : Int)) = true := by simp; omega
    have HF : Hid (r = 0) := by
      show _ = _
      rw [← hr.out]
      unfold stepC
      rw [if_pos (by rw [List.length_drop, HN.out]; omega)]
    go_enter Try.func66, Try.ntmps66
    go_wp2
    go_ret
    exact ⟨by rw [HF.out]; rfl, (Below.refl _ _).alloc (Nat.le_refl _) _⟩
  · have q1 : (((at' + c : Nat) : Int) == (n : Int)) = false := by simp; omega
    have hlt : at' + c < n := by omega
    obtain ⟨wa, hwa⟩ : ∃ wa, w.alloc (Obj.cells (ints zs).toArray 57) = wa := ⟨_, rfl⟩
    have hB : Below w.heap.size w wa := by rw [← hwa]; exact (Below.refl _ _).alloc (Nat.le_refl _) _
    have hA : ArrAt wa w.heap.size 57 zs := by rw [← hwa]; exact heap_alloc_new w _
    have cz := hA.cell (k := at' + c) (by omega)
    obtain ⟨y, hy⟩ : ∃ y, zs.getD (at' + c) 0 = y := ⟨_, rfl⟩
    have hyb := hsm.out (at' + c)
    rw [hy] at cz hyb
    obtain ⟨m, hm⟩ : ∃ m, (pack ((L.drop at').take c)).length = m := ⟨_, rfl⟩
    have hmW : (m : Int) ≤ W := by have := hfit.out; rw [hm] at this; exact this
    obtain ⟨s, hs⟩ : ∃ s, (W - (m : Int)) * (W - (m : Int)) = s := ⟨_, rfl⟩
    have HS := Lib.hid hs
    obtain ⟨_, _, _, _, hs0, hs1⟩ := sq_nat HS hmW hW
    have HF : Hid (s + y = r) := by
      show _ = _
      rw [← hr.out]
      unfold stepC arrA
      rw [if_neg (by rw [List.length_drop, HN.out]; omega), List.length_drop, HN.out, show n - (n - at' - c) = at' + c from by omega, hy]
      unfold sqFree
      rw [hm, hs]
    have HP : Hid (((pack ((L.drop at').take c)).length : Int) = (m : Int)) := by show _ = _; rw [hm]
    have hl : ((L.drop at').take c).length = c := by rw [List.length_take, List.length_drop, HN.out]; omega
    have HX1 : Hid (ListsAt wa (.slice (some ⟨g, off + at', none⟩) c (cp - at')) ((L.drop at').take c)) := ((HX.out.below hB).dropL at' (by omega)).take c (by omega)
    have H40 : Hid (Len40 ((L.drop at').take c)) := (h40.out.drop _).take _
    have HL1 : Hid (∀ n, Calls Try.prog 61 #[.slice (some ⟨g, off + at', none⟩) c (cp - at')] (wa.drewN n) fun e w' => e = .returned (.int .i64 m) ∧ w' = wa.drewN n) := fun n =>
      (i_lineLength (wa.drewN n) _ _ HX1.out (by omega) (by omega) H40 m HP).mono fun _ _ ⟨h1, h2⟩ => ⟨h1, h2.symm⟩
    have HL2 : Hid (∀ n, Calls Try.prog 50 #[.int .i64 m, .int .i64 W] (wa.drewN n) fun e w' => e = .returned (.int .i64 s) ∧ w' = wa.drewN n) := fun n =>
      (i_freeCost (wa.drewN n) m W s HS hmW hW).mono fun _ _ ⟨h1, h2⟩ => ⟨h1, h2.symm⟩
    have u3 : IntKind.i64.wrap (s + y) = r := by rw [HF.out]; exact IntWalk.i64_in _ (by rw [← HF.out]; omega)
    have b1 : (0 : Int) ≤ (at' : Int) := by omega
    have HB := keptL hB
    clear hy hm hs hB hA hr hfit
    go_enter Try.func66, Try.ntmps66
    go_wp2
    clear hwa
    go_quiet (first | (go_at_call 61; exact Calls.quiet_of_same (HL1.out _)) | (go_at_call 50; exact Calls.quiet_of_same (HL2.out _)))
    go_wp2
    go_ret
    exact ⟨by first | rfl | simp [u3], below_drewN HB.out _⟩
end Go.Proofs.Ytnbppackijjohaa
