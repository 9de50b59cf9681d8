
/- Grids that may be written: a copy of a grid, and what the exact laws write there. -/
import Derived.Test.YtidjnhlioebchaaZe
namespace Go.Proofs.Ytidjnhlioebchaa
open Go.RowKit

/-- cell j of block g is a slice of its own block, behind g, which reads as zs -/
def ListNeF (w : World) (g j : Nat) (zs : List Int) : Prop :=
  ∃ b, w.cell? ⟨g, j, none⟩ = some (.slice (some ⟨b, 0, none⟩) zs.length zs.length) ∧ g < b ∧ zs.length ≤ 1048576 ∧ IntsIn w b zs ∧ b < w.heap.size ∧ ∀ o, w.frozen? ⟨b, o, none⟩ = false
theorem ListNeF.at {w : World} {g j : Nat} {zs : List Int} (h : ListNeF w g j zs) : ∃ u, w.cell? ⟨g, j, none⟩ = some u ∧ IntsAt w u zs := by
  obtain ⟨b, h1, _, h2, h3, _⟩ := h
  exact ⟨_, h1, _, _, rfl, Nat.le_refl _, by omega, .inr ⟨b, 0, rfl, fun i hi => by rw [Nat.zero_add]; exact h3 i hi⟩⟩
theorem ListNeF.below {w w' : World} {g j : Nat} {zs : List Int} (h : ListNeF w g j zs) (hb : Below w.heap.size w w') : ListNeF w' g j zs := by
  obtain ⟨b, h1, h2, h3, h4, h5, h6⟩ := h
  exact ⟨b, (hb.cell (World.block_lt_of_cell? w _ h1)).trans h1, h2, h3, fun i hi => (hb.cell (World.block_lt_of_cell? w _ (h4 i hi))).trans (h4 i hi), Nat.lt_of_lt_of_le h5 hb.size, fun o => (hb.frozen h5).trans (h6 o)⟩
theorem ListNeF.set {w : World} {g j : Nat} {zs : List Int} (h : ListNeF w g j zs) {o : Nat} (ho : o ≠ j) (v : Value) : ListNeF (w.setCell ⟨g, o, none⟩ v) g j zs := by
  obtain ⟨b, h1, h2, h3, h4, h5, h6⟩ := h
  refine ⟨b, ?_, h2, h3, fun i hi => ?_, by simp [World.setCell]; exact h5, fun o => by rw [World.frozen?_setCell]; exact h6 o⟩
  · rw [World.cell?_setCell_other _ _ _ _ (fun e => by injection e; omega)]; exact h1
  · rw [World.cell?_setCell_other _ _ _ _ (fun e => by injection e; omega)]; exact h4 i hi
/-- the first k lists of L lie in block g -/
def LNeFTo (w : World) (g : Nat) (L : List (List Int)) (k : Nat) : Prop := ∀ j, j < k → ListNeF w g j (L.getD j [])
theorem LNeFTo.zero (w : World) (g : Nat) (L : List (List Int)) : LNeFTo w g L 0 := fun i h => absurd h (by omega)
theorem LNeFTo.below {w w' : World} {g k : Nat} {L : List (List Int)} (h : LNeFTo w g L k) (hb : Below w.heap.size w w') : LNeFTo w' g L k := fun j hj => (h j hj).below hb
theorem LNeFTo.put {w : World} {g n k b : Nat} {L : List (List Int)} {c : List Int} (h : LNeFTo w g L k) (hr : RoomL w g n) (hk : k < n) (hu : IntsAt w (.slice (some ⟨b, 0, none⟩) c.length c.length) c) (hB : g < b) (hc : c.length ≤ 1048576) (hT : L.getD k [] = c) (hbl : b < w.heap.size) (hfz : ∀ o, w.frozen? ⟨b, o, none⟩ = false) :
    LNeFTo (w.setCell ⟨g, k, none⟩ (.slice (some ⟨b, 0, none⟩) c.length c.length)) g L (k + 1) := fun j hj => by
  by_cases hjk : j = k
  · subst hjk
    rw [hT]
    obtain ⟨u0, h0⟩ := hr.1 j hk
    refine ⟨b, World.cell?_setCell_same _ _ _ h0, hB, hc, fun i hi => ?_, by simp [World.setCell]; exact hbl, fun o => by rw [World.frozen?_setCell]; exact hfz o⟩
    rw [World.cell?_setCell_other _ _ _ _ (fun e => by injection e; omega)]
    obtain ⟨a', cap', e1, _, _, h4⟩ := hu
    rcases h4 with rfl | ⟨g', off, h5, h6⟩
    · simp at hi
    · injection e1 with e1 _ _
      rw [← e1] at h5
      injection h5 with h5
      injection h5 with h5 h7 _
      subst h5 h7
      have := h6 i hi
      rw [Nat.zero_add] at this
      exact this
  · exact (h j (by omega)).set (by omega) _
theorem ListsAt.of_nf {w : World} {g n : Nat} {L : List (List Int)} (h : LNeFTo w g L n) (hn : L.length = n) (hm : n ≤ 9223372036854775807) : ListsAt w (.slice (some ⟨g, 0, none⟩) n n) L := by
  refine ⟨_, n, by rw [hn], by omega, hm, .inr ⟨g, 0, rfl, fun i hi => ?_⟩⟩
  rw [Nat.zero_add]
  exact (h i (by omega)).at
theorem ListNeF.setLow {w : World} {g j b : Nat} {zs : List Int} (h : ListNeF w b j zs) (hb : g < b) (o : Nat) (v : Value) : ListNeF (w.setCell ⟨g, o, none⟩ v) b j zs := by
  obtain ⟨b2, h1, h2, h3, h4, h5, h6⟩ := h
  refine ⟨b2, ?_, h2, h3, fun i hi => ?_, by simp [World.setCell]; exact h5, fun o => by rw [World.frozen?_setCell]; exact h6 o⟩
  · rw [World.cell?_setCell_other _ _ _ _ (fun e => by injection e; omega)]; exact h1
  · rw [World.cell?_setCell_other _ _ _ _ (fun e => by injection e; omega)]; exact h4 i hi
/-- cell j of block g is a slice of a block behind g, with lists of their own blocks -/
def RowNeF (w : World) (g j : Nat) (L : List (List Int)) : Prop :=
  ∃ b, w.cell? ⟨g, j, none⟩ = some (.slice (some ⟨b, 0, none⟩) L.length L.length) ∧ g < b ∧ L.length ≤ 1048576 ∧ LNeFTo w b L L.length
theorem RowNeF.at {w : World} {g j : Nat} {L : List (List Int)} (h : RowNeF w g j L) : ∃ u, w.cell? ⟨g, j, none⟩ = some u ∧ ListsAt w u L := by
  obtain ⟨b, h1, _, h2, h3⟩ := h
  exact ⟨_, h1, ListsAt.of_nf h3 rfl (by omega)⟩
theorem RowNeF.below {w w' : World} {g j : Nat} {L : List (List Int)} (h : RowNeF w g j L) (hb : Below w.heap.size w w') : RowNeF w' g j L := by
  obtain ⟨b, h1, h2, h3, h4⟩ := h
  exact ⟨b, (hb.cell (World.block_lt_of_cell? w _ h1)).trans h1, h2, h3, h4.below hb⟩
theorem RowNeF.set {w : World} {g j : Nat} {L : List (List Int)} (h : RowNeF w g j L) {o : Nat} (ho : o ≠ j) (v : Value) : RowNeF (w.setCell ⟨g, o, none⟩ v) g j L := by
  obtain ⟨b, h1, h2, h3, h4⟩ := h
  refine ⟨b, ?_, h2, h3, fun i hi => (h4 i hi).setLow h2 o v⟩
  rw [World.cell?_setCell_other _ _ _ _ (fun e => by injection e; omega)]; exact h1
def GNeFTo (w : World) (g : Nat) (G : List (List (List Int))) (k : Nat) : Prop := ∀ j, j < k → RowNeF w g j (G.getD j [])
theorem GNeFTo.zero (w : World) (g : Nat) (G : List (List (List Int))) : GNeFTo w g G 0 := fun i h => absurd h (by omega)
theorem GNeFTo.below {w w' : World} {g k : Nat} {G : List (List (List Int))} (h : GNeFTo w g G k) (hb : Below w.heap.size w w') : GNeFTo w' g G k := fun j hj => (h j hj).below hb
theorem GNeFTo.put {w : World} {g n k b : Nat} {G : List (List (List Int))} {L : List (List Int)} (h : GNeFTo w g G k) (hr : RoomL w g n) (hk : k < n) (hu : LNeFTo w b L L.length) (hB : g < b) (hc : L.length ≤ 1048576) (hT : G.getD k [] = L) :
    GNeFTo (w.setCell ⟨g, k, none⟩ (.slice (some ⟨b, 0, none⟩) L.length L.length)) g G (k + 1) := fun j hj => by
  by_cases hjk : j = k
  · subst hjk
    rw [hT]
    obtain ⟨u0, h0⟩ := hr.1 j hk
    exact ⟨b, World.cell?_setCell_same _ _ _ h0, hB, hc, fun i hi => (hu i hi).setLow hB j _⟩
  · exact (h j (by omega)).set (by omega) _
theorem GridAt.of_nf {w : World} {g n : Nat} {G : List (List (List Int))} (h : GNeFTo w g G n) (hn : G.length = n) (hm : n ≤ 9223372036854775807) : GridAt w (.slice (some ⟨g, 0, none⟩) n n) G := by
  refine ⟨_, n, by rw [hn], by omega, hm, .inr ⟨g, 0, rfl, fun i hi => ?_⟩⟩
  rw [Nat.zero_add]
  exact (h i (by omega)).at
set_option maxHeartbeats 2000000 in
theorem toIntSS_nf (w : World) (v : Value) (L : List (List Int)) (hx : ListsAt w v L) (hs : ListsSmall L) :
    Calls Try.prog 41 #[v] w fun e w' => ∃ g, e = .returned (.slice (some ⟨g, 0, none⟩) L.length L.length) ∧ w.heap.size ≤ g ∧ LNeFTo w' g L L.length ∧ Below w.heap.size w w' := by
  obtain ⟨i0, hi, hz0, hz1, hz2⟩ := info_parts infoIntL
  obtain ⟨a, cp, rfl, x1, x2, x3⟩ := hx
  obtain ⟨n, hn⟩ : ∃ n, L.length = n := ⟨_, rfl⟩
  rw [hn] at x1 x3 ⊢
  have hbig : n ≤ 1048576 := by have := hs.1; omega
  have HS := Lib.hid hs
  have HN := Lib.hid hn
  clear hs hn
  go_enter Try.func41, Try.ntmps41
  go_wp2_with (at_make; refine wpList_make_full _ rfl _ _ 30 rfl w.heap.size 27 i0 (.slice none 0 0) 1 Try.underlying30 hi hz0 hz1 .i64 .i64 n n n rfl rfl rfl rfl (by rw [hz2]; omega) (by unfold maxLen; omega) (Nat.le_refl _) ?_)
  intro w1 hown hgr
  have hB1 : Below w.heap.size w w1 := ⟨hgr.os, hgr.tape, hgr.output, hgr.size, fun k hk => hgr.block k hk (by simp)⟩
  have hR1 : RoomL w1 w.heap.size n := by
    refine ⟨fun o ho => ?_, fun o => hown.frozenAt o, (hown.lt _ rfl).2⟩
    rw [hown.cellAt o (by omega)]
    exact ⟨_, List.getElem?_eq_getElem (by rw [hown.1]; omega)⟩
  clear hown hgr hi hz0 hz1 hz2
  go_wp2
  go_loopw [4] (fun i wr => ∃ k : Nat, k ≤ n ∧ i = .int .i64 k ∧ LNeFTo wr w.heap.size L k ∧ RoomL wr w.heap.size n ∧ Below w.heap.size w wr) (fun i _ => n - (intOf i).toNat)
  case atStart => exact ⟨0, Nat.zero_le _, rfl, LNeFTo.zero _ _ _, hR1, hB1⟩
  case round =>
    clear hR1 hB1
    obtain ⟨k, hk, rfl, hnew, hroom, hb1⟩ := hrel
    have hsz := hb1.size
    by_cases hlt : k < n
    · rcases x3 with rfl | ⟨g, off, rfl, x3⟩
      · exact absurd HN.out (by simp; omega)
      obtain ⟨u, c1, hu⟩ := x3 k hlt
      obtain ⟨zs, hr⟩ : ∃ zs, L.getD k [] = zs := ⟨_, rfl⟩
      have hls : (L.getD k []).length ≤ 1048576 := HS.out.2 k (by rw [HN.out]; exact hlt)
      rw [hr] at hu hls
      have HR := Lib.hid hr
      clear hr x3
      have HU : Hid (IntsAt w u zs) := hu
      obtain ⟨a2, cp2, rfl, h1, h2, _⟩ := hu
      have c1 := (hb1.cell (World.block_lt_of_cell? w _ c1)).trans c1
      go_wp2_with fail
      refine (toIntS_any wr _ zs (HU.out.below hb1) hls).mono ?_
      rintro e w2 ⟨_, rfl, hO, hb2, g2, rfl⟩
      have hnew2 := hnew.below hb2
      have hroom2 := hroom.below hb2
      have hB2 := hb1.trans (hb2.mono hsz)
      have hlt2 := hroom.2.2
      have hg2 : w.heap.size < g2 := Nat.lt_of_lt_of_le hlt2 (hO.lt g2 rfl).1
      clear hnew hroom c1
      obtain ⟨u0, e0⟩ := hroom2.1 k hlt
      have f0 := hroom2.2.1 k
      have hnew3 := hnew2.put hroom2 hlt hO.at hg2 hls HR.out (hO.lt g2 rfl).2 (fun o => World.ownsRow.frozenAt hO o)
      have hroom3 := hroom2.set k (.slice (some ⟨g2, 0, none⟩) zs.length zs.length)
      have hB3 := hB2.setCell (p := ⟨w.heap.size, k, none⟩) (Nat.le_refl _) (.slice (some ⟨g2, 0, none⟩) zs.length zs.length)
      have HN3 := Lib.hid hnew3
      have HR3 := Lib.hid hroom3
      have HB3 := Lib.hid hB3
      clear hnew2 hroom2 hB2 hO hnew3 hroom3 hB3
      go_wp2
      go_roundw
      case rel => exact ⟨k + 1, by omega, by go_num, HN3.out, HR3.out, HB3.out⟩
      case measure => simp [intOf]; omega
    · go_wp2
      go_ret
      obtain rfl : k = n := by omega
      exact ⟨w.heap.size, rfl, Nat.le_refl _, hnew, hb1⟩

set_option maxHeartbeats 2000000 in
theorem toIntSSS_nf (w : World) (v : Value) (G : List (List (List Int))) (hx : GridAt w v G) (hs : GridSmall G) :
    Calls Try.prog 31 #[v] w fun e w' => ∃ g, e = .returned (.slice (some ⟨g, 0, none⟩) G.length G.length) ∧ w.heap.size ≤ g ∧ GNeFTo w' g G G.length ∧ Below w.heap.size w w' := by
  obtain ⟨i0, hi, hz0, hz1, hz2⟩ := info_parts infoIntLL
  obtain ⟨a, cp, rfl, x1, x2, x3⟩ := hx
  obtain ⟨n, hn⟩ : ∃ n, G.length = n := ⟨_, rfl⟩
  rw [hn] at x1 x3 ⊢
  have hbig : n ≤ 1048576 := by have := hs.1; omega
  have HS := Lib.hid hs
  have HN := Lib.hid hn
  clear hs hn
  go_enter Try.func31, Try.ntmps31
  go_wp2_with (at_make; refine wpList_make_full _ rfl _ _ 23 rfl w.heap.size 30 i0 (.slice none 0 0) 1 Try.underlying23 hi hz0 hz1 .i64 .i64 n n n rfl rfl rfl rfl (by rw [hz2]; omega) (by unfold maxLen; omega) (Nat.le_refl _) ?_)
  intro w1 hown hgr
  have hB1 : Below w.heap.size w w1 := ⟨hgr.os, hgr.tape, hgr.output, hgr.size, fun k hk => hgr.block k hk (by simp)⟩
  have hR1 : RoomL w1 w.heap.size n := by
    refine ⟨fun o ho => ?_, fun o => hown.frozenAt o, (hown.lt _ rfl).2⟩
    rw [hown.cellAt o (by omega)]
    exact ⟨_, List.getElem?_eq_getElem (by rw [hown.1]; omega)⟩
  clear hown hgr hi hz0 hz1 hz2
  go_wp2
  go_loopw [4] (fun i wr => ∃ k : Nat, k ≤ n ∧ i = .int .i64 k ∧ GNeFTo wr w.heap.size G k ∧ RoomL wr w.heap.size n ∧ Below w.heap.size w wr) (fun i _ => n - (intOf i).toNat)
  case atStart => exact ⟨0, Nat.zero_le _, rfl, GNeFTo.zero _ _ _, hR1, hB1⟩
  case round =>
    clear hR1 hB1
    obtain ⟨k, hk, rfl, hnew, hroom, hb1⟩ := hrel
    have hsz := hb1.size
    by_cases hlt : k < n
    · rcases x3 with rfl | ⟨g, off, rfl, x3⟩
      · exact absurd HN.out (by simp; omega)
      obtain ⟨u, c1, hu⟩ := x3 k hlt
      obtain ⟨L, hr⟩ : ∃ L, G.getD k [] = L := ⟨_, rfl⟩
      have hls : ListsSmall (G.getD k []) := HS.out.2 k (by rw [HN.out]; exact hlt)
      rw [hr] at hu hls
      have HR := Lib.hid hr
      clear hr x3
      have HU : Hid (ListsAt w u L) := hu
      obtain ⟨a2, cp2, rfl, h1, h2, _⟩ := hu
      have c1 := (hb1.cell (World.block_lt_of_cell? w _ c1)).trans c1
      go_wp2_with fail
      refine (toIntSS_nf wr _ L (HU.out.below hb1) hls).mono ?_
      rintro e w2 ⟨g2, rfl, hg2a, hO, hb2⟩
      have hnew2 := hnew.below hb2
      have hroom2 := hroom.below hb2
      have hB2 := hb1.trans (hb2.mono hsz)
      have hlt2 := hroom.2.2
      have hg2 : w.heap.size < g2 := Nat.lt_of_lt_of_le hroom.2.2 hg2a
      clear hnew hroom c1
      obtain ⟨u0, e0⟩ := hroom2.1 k hlt
      have f0 := hroom2.2.1 k
      have hnew3 := hnew2.put hroom2 hlt hO hg2 hls.1 HR.out
      have hroom3 := hroom2.set k (.slice (some ⟨g2, 0, none⟩) L.length L.length)
      have hB3 := hB2.setCell (p := ⟨w.heap.size, k, none⟩) (Nat.le_refl _) (.slice (some ⟨g2, 0, none⟩) L.length L.length)
      have HN3 := Lib.hid hnew3
      have HR3 := Lib.hid hroom3
      have HB3 := Lib.hid hB3
      clear hnew2 hroom2 hB2 hO hnew3 hroom3 hB3
      go_wp2
      go_roundw
      case rel => exact ⟨k + 1, by omega, by go_num, HN3.out, HR3.out, HB3.out⟩
      case measure => simp [intOf]; omega
    · go_wp2
      go_ret
      obtain rfl : k = n := by omega
      exact ⟨w.heap.size, rfl, Nat.le_refl _, hnew, hb1⟩

end Go.Proofs.Ytidjnhlioebchaa
