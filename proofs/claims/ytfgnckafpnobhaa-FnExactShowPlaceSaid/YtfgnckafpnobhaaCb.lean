
/- The exact laws' own functions on lists of lists: their size, a copy, whether two are the same. -/
import Derived.Test.YtfgnckafpnobhaaCa
import Derived.Test.YtfgnckafpnobhaaExS
import Derived.Test.YtfgnckafpnobhaaEqIntS
import Derived.Deep.RegionHeld3
import Derived.Handy
namespace Go.Proofs.Ytfgnckafpnobhaa
open Go.RowKit

/-- lists that are not too long -/
def LSmallTo (L : List (List Int)) (k : Nat) : Prop := ∀ i, i < k → (L.getD i []).length ≤ 1048576
theorem LSmallTo.zero (L : List (List Int)) : LSmallTo L 0 := fun i h => absurd h (by omega)
theorem LSmallTo.succ {L : List (List Int)} {k : Nat} (h : LSmallTo L k) (e : (L.getD k []).length ≤ 1048576) : LSmallTo L (k + 1) := fun i hi => by
  by_cases hik : i = k
  · subst hik; exact e
  · exact h i (by omega)
def ListsSmall (L : List (List Int)) : Prop := L.length ≤ 1048576 ∧ LSmallTo L L.length

theorem szIntS_any (w : World) (a : Option Addr) (n cp : Nat) (left : Int) (hl : n ≤ 9223372036854775807) (h0 : 0 ≤ left) (h1 : left ≤ 1048576) :
    Calls Try.prog 61 #[.slice a n cp, .int .i64 left] w fun e w' => ∃ k : Int, e = .returned (.int .i64 k) ∧ w = w' ∧ (k = -1 ∨ (0 ≤ k ∧ k ≤ left ∧ n ≤ 1048576)) := by
  have u2 : IntKind.i64.wrap (left - (n : Int)) = left - (n : Int) := IntWalk.i64_in _ (by omega)
  by_cases c2 : left - n < 0
  · have d2 : decide (left - (n : Int) < 0) = true := decide_eq_true c2
    go_enter Try.func61, Try.ntmps61
    go_wp2
    go_ret
    exact ⟨-1, rfl, rfl, .inl rfl⟩
  · have d2 : decide (left - (n : Int) < 0) = false := decide_eq_false c2
    go_enter Try.func61, Try.ntmps61
    go_wp2
    go_ret
    exact ⟨left - n, rfl, rfl, .inr ⟨by omega, by omega, by omega⟩⟩

theorem infoIntL : (Try.prog.info? 23).map (fun i => (i.zero, i.size, i.bytes)) = some (some (.slice none 0 0), 1, 24) := by kernel_rfl
/-- the block b holds these numbers from its beginning -/
def IntsIn (w : World) (b : Nat) (zs : List Int) : Prop := ∀ i, i < zs.length → w.cell? ⟨b, i, none⟩ = some (.int .i64 (zs.getD i 0))
/-- cell j of block g is a slice of its own block, behind g, which reads as zs -/
def ListNew (w : World) (g j : Nat) (zs : List Int) : Prop :=
  ∃ b, w.cell? ⟨g, j, none⟩ = some (.slice (some ⟨b, 0, none⟩) zs.length zs.length) ∧ g < b ∧ zs.length ≤ 1048576 ∧ IntsIn w b zs
theorem ListNew.at {w : World} {g j : Nat} {zs : List Int} (h : ListNew w g j zs) : ∃ u, w.cell? ⟨g, j, none⟩ = some u ∧ IntsAt w u zs := by
  obtain ⟨b, h1, _, h2, h3⟩ := h
  exact ⟨_, h1, _, _, rfl, Nat.le_refl _, by omega, .inr ⟨b, 0, rfl, fun i hi => by rw [Nat.zero_add]; exact h3 i hi⟩⟩
theorem ListNew.below {w w' : World} {g j : Nat} {zs : List Int} (h : ListNew w g j zs) (hb : Below w.heap.size w w') : ListNew w' g j zs := by
  obtain ⟨b, h1, h2, h3, h4⟩ := h
  exact ⟨b, (hb.cell (World.block_lt_of_cell? w _ h1)).trans h1, h2, h3, fun i hi => (hb.cell (World.block_lt_of_cell? w _ (h4 i hi))).trans (h4 i hi)⟩
theorem ListNew.set {w : World} {g j : Nat} {zs : List Int} (h : ListNew w g j zs) {o : Nat} (ho : o ≠ j) (v : Value) : ListNew (w.setCell ⟨g, o, none⟩ v) g j zs := by
  obtain ⟨b, h1, h2, h3, h4⟩ := h
  refine ⟨b, ?_, h2, h3, fun i hi => ?_⟩
  · rw [World.cell?_setCell_other _ _ _ _ (fun e => by injection e; omega)]; exact h1
  · rw [World.cell?_setCell_other _ _ _ _ (fun e => by injection e; omega)]; exact h4 i hi
/-- block g has room for n cells, and may be written -/
def RoomL (w : World) (g n : Nat) : Prop := (∀ o, o < n → ∃ u, w.cell? ⟨g, o, none⟩ = some u) ∧ (∀ o, w.frozen? ⟨g, o, none⟩ = false) ∧ g < w.heap.size
theorem RoomL.below {w w' : World} {g n : Nat} (h : RoomL w g n) (hb : Below w.heap.size w w') : RoomL w' g n := by
  refine ⟨fun o ho => ?_, fun o => (hb.frozen h.2.2).trans (h.2.1 o), Nat.lt_of_lt_of_le h.2.2 hb.size⟩
  obtain ⟨u, hu⟩ := h.1 o ho
  exact ⟨u, (hb.cell (p := ⟨g, o, none⟩) h.2.2).trans hu⟩
theorem RoomL.set {w : World} {g n : Nat} (h : RoomL w g n) (o' : Nat) (v : Value) : RoomL (w.setCell ⟨g, o', none⟩ v) g n := by
  refine ⟨fun o ho => ?_, fun o => by rw [World.frozen?_setCell]; exact h.2.1 o, by simp [World.setCell]; exact h.2.2⟩
  obtain ⟨u, hu⟩ := h.1 o ho
  by_cases e : o' = o
  · subst e; exact ⟨v, World.cell?_setCell_same w _ v hu⟩
  · exact ⟨u, by rw [World.cell?_setCell_other _ _ _ _ (fun h => by injection h; omega)]; exact hu⟩
/-- the first k lists of L lie in block g -/
def LNewTo (w : World) (g : Nat) (L : List (List Int)) (k : Nat) : Prop := ∀ j, j < k → ListNew w g j (L.getD j [])
theorem LNewTo.zero (w : World) (g : Nat) (L : List (List Int)) : LNewTo w g L 0 := fun i h => absurd h (by omega)
theorem LNewTo.below {w w' : World} {g k : Nat} {L : List (List Int)} (h : LNewTo w g L k) (hb : Below w.heap.size w w') : LNewTo w' g L k := fun j hj => (h j hj).below hb
theorem LNewTo.put {w : World} {g n k b : Nat} {L : List (List Int)} {c : List Int} (h : LNewTo w g L k) (hr : RoomL w g n) (hk : k < n) (hu : IntsAt w (.slice (some ⟨b, 0, none⟩) c.length c.length) c) (hB : g < b) (hc : c.length ≤ 1048576) (hT : L.getD k [] = c) :
    LNewTo (w.setCell ⟨g, k, none⟩ (.slice (some ⟨b, 0, none⟩) c.length c.length)) g L (k + 1) := fun j hj => by
  by_cases hjk : j = k
  · subst hjk
    rw [hT]
    obtain ⟨u0, h0⟩ := hr.1 j hk
    refine ⟨b, World.cell?_setCell_same _ _ _ h0, hB, hc, fun i hi => ?_⟩
    rw [World.cell?_setCell_other _ _ _ _ (fun e => by injection e; omega)]
    obtain ⟨a', cap', e1, _, _, h4⟩ := hu
    rcases h4 with rfl | ⟨g', off, h5, h6⟩
    · simp at hi
    · injection e1 with e1 _ _
      rw [← e1] at h5
      injection h5 with h5
      injection h5 with h5 h7 _
      subst h5 h7
      have := h6 i hi
      rw [Nat.zero_add] at this
      exact this
  · exact (h j (by omega)).set (by omega) _
theorem ListsAt.of_new {w : World} {g n : Nat} {L : List (List Int)} (h : LNewTo w g L n) (hn : L.length = n) (hm : n ≤ 9223372036854775807) : ListsAt w (.slice (some ⟨g, 0, none⟩) n n) L := by
  refine ⟨_, n, by rw [hn], by omega, hm, .inr ⟨g, 0, rfl, fun i hi => ?_⟩⟩
  rw [Nat.zero_add]
  exact (h i (by omega)).at
theorem eqIntS_sameL (w : World) (u v : Value) (xs : List Int) (hx : IntsAt w u xs) (hy : IntsAt w v xs) :
    Calls Try.prog 40 #[u, v] w fun e w' => e = .returned (.bool true) ∧ Below w.heap.size w w' := by
  have := eqIntS_any w u v xs xs hx hy
  rw [decide_eq_true rfl] at this
  exact this
end Go.Proofs.Ytfgnckafpnobhaa
