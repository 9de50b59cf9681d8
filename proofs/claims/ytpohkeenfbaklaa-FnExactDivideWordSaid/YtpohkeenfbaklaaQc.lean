
/- The exact laws' own functions on lists of patterns: a copy of a whole list. -/
import Derived.Test.YtpohkeenfbaklaaQb
namespace Go.Proofs.Ytpohkeenfbaklaa
open Go.RowKit

theorem infoPat : (Try.prog.info? 28).map (fun i => (i.zero, i.size, i.bytes)) = some (some (.agg #[.string ⟨#[]⟩, .bool false, .bool false, .slice none 0 0]), 4, 48) := by kernel_rfl

/-- the four cells from offset o of block g on read as the pattern r, whose levels lie in block b, behind block g, in memory of their own -/
def PatNew (w : World) (g o b : Nat) (r : PPat) : Prop :=
  w.cell? ⟨g, o, none⟩ = some (.string r.t) ∧ w.cell? ⟨g, o + 1, none⟩ = some (.bool r.b) ∧ w.cell? ⟨g, o + 2, none⟩ = some (.bool r.e) ∧ w.cell? ⟨g, o + 3, none⟩ = some (.slice (some ⟨b, 0, none⟩) r.c.length r.c.length) ∧ OwnInts w (g + 1) (.slice (some ⟨b, 0, none⟩) r.c.length r.c.length) r.c
theorem PatNew.at {w : World} {g o b : Nat} {r : PPat} (h : PatNew w g o b r) : PatAt w g o r := by
  obtain ⟨h1, h4, h5, h2, h3⟩ := h
  exact ⟨h1, h4, h5, ⟨_, h2, h3.at⟩⟩
theorem PatNew.lt {w : World} {g o b : Nat} {r : PPat} (h : PatNew w g o b r) : g + 1 ≤ b ∧ b < w.heap.size := h.2.2.2.2.lt b rfl
theorem PatNew.below {w w' : World} {g o b : Nat} {r : PPat} (h : PatNew w g o b r) (hb : Below w.heap.size w w') : PatNew w' g o b r := by
  obtain ⟨h1, h4, h5, h2, h3⟩ := h
  exact ⟨(hb.cell (World.block_lt_of_cell? w _ h1)).trans h1, (hb.cell (World.block_lt_of_cell? w _ h4)).trans h4, (hb.cell (World.block_lt_of_cell? w _ h5)).trans h5, (hb.cell (World.block_lt_of_cell? w _ h2)).trans h2, h3.below hb⟩
theorem PatNew.set {w : World} {g o b : Nat} {r : PPat} (h : PatNew w g o b r) {o' : Nat} (ho : o' < o ∨ o + 3 < o') (v : Value) : PatNew (w.setCell ⟨g, o', none⟩ v) g o b r := by
  obtain ⟨h1, h4, h5, h2, h3⟩ := h
  refine ⟨?_, ?_, ?_, ?_, ownsRow_setCell_below h3 (by simp) v⟩
  · rw [World.cell?_setCell_other _ _ _ _ (fun e => by injection e; omega)]; exact h1
  · rw [World.cell?_setCell_other _ _ _ _ (fun e => by injection e; omega)]; exact h4
  · rw [World.cell?_setCell_other _ _ _ _ (fun e => by injection e; omega)]; exact h5
  · rw [World.cell?_setCell_other _ _ _ _ (fun e => by injection e; omega)]; exact h2
/-- a write into another list's block -/
theorem PatNew.grown {w w' : World} {g o b : Nat} {r : PPat} (h : PatNew w g o b r) {k : Nat} (hg : w.grownBy w' (some k)) (hk : k ≠ g) (hb : k ≠ b) : PatNew w' g o b r := by
  obtain ⟨h1, h4, h5, h2, h3⟩ := h
  exact ⟨hg.cell h1 (by simp; omega), hg.cell h4 (by simp; omega), hg.cell h5 (by simp; omega), hg.cell h2 (by simp; omega), h3.kept hg (.inr (by simp [Value.ownBlock]; omega))⟩
/-- block g has room for n patterns, and may be written -/
def RoomQ (w : World) (g n : Nat) : Prop := (∀ o, o < n * 4 → ∃ u, w.cell? ⟨g, o, none⟩ = some u) ∧ (∀ o, w.frozen? ⟨g, o, none⟩ = false) ∧ g < w.heap.size
theorem RoomQ.below {w w' : World} {g n : Nat} (h : RoomQ w g n) (hb : Below w.heap.size w w') : RoomQ w' g n := by
  refine ⟨fun o ho => ?_, fun o => (hb.frozen h.2.2).trans (h.2.1 o), Nat.lt_of_lt_of_le h.2.2 hb.size⟩
  obtain ⟨u, hu⟩ := h.1 o ho
  exact ⟨u, (hb.cell (p := ⟨g, o, none⟩) h.2.2).trans hu⟩
theorem RoomQ.set {w : World} {g n : Nat} (h : RoomQ w g n) (o' : Nat) (v : Value) : RoomQ (w.setCell ⟨g, o', none⟩ v) g n := by
  refine ⟨fun o ho => ?_, fun o => by rw [World.frozen?_setCell]; exact h.2.1 o, by simp [World.setCell]; exact h.2.2⟩
  obtain ⟨u, hu⟩ := h.1 o ho
  by_cases e : o' = o
  · subst e; exact ⟨v, World.cell?_setCell_same w _ v hu⟩
  · exact ⟨u, by rw [World.cell?_setCell_other _ _ _ _ (fun h => by injection h; omega)]; exact hu⟩
theorem RoomQ.grown {w w' : World} {g n : Nat} (h : RoomQ w g n) {k : Nat} (hg : w.grownBy w' (some k)) (hk : k ≠ g) : RoomQ w' g n := by
  have hblk := hg.block g h.2.2 (by simp; omega)
  refine ⟨fun o ho => ?_, fun o => (World.frozen?_of_block (a := ⟨g, o, none⟩) hblk).trans (h.2.1 o), Nat.lt_of_lt_of_le h.2.2 hg.size⟩
  obtain ⟨u, hu⟩ := h.1 o ho
  exact ⟨u, (World.cell?_of_block (a := ⟨g, o, none⟩) hblk).trans hu⟩
theorem patNew_put {w : World} {g n o B b : Nat} {t : ByteArray} {p1 p2 : Bool} {c : List Int} (h : RoomQ w g n) (ho : o + 3 < n * 4) (hu : OwnInts w B (.slice (some ⟨b, 0, none⟩) c.length c.length) c) (hB : g < B) :
    PatNew ((((w.setCell ⟨g, o, none⟩ (.string t)).setCell ⟨g, o + 1, none⟩ (.bool p1)).setCell ⟨g, o + 2, none⟩ (.bool p2)).setCell ⟨g, o + 3, none⟩ (.slice (some ⟨b, 0, none⟩) c.length c.length)) g o b ⟨t, p1, p2, c⟩ := by
  have r1 := h.set o (.string t)
  have r2 := r1.set (o + 1) (.bool p1)
  have r3 := r2.set (o + 2) (.bool p2)
  obtain ⟨u0, h0⟩ := h.1 o (by omega)
  obtain ⟨u1, h1⟩ := r1.1 (o + 1) (by omega)
  obtain ⟨u2, h2⟩ := r2.1 (o + 2) (by omega)
  obtain ⟨u3, h3⟩ := r3.1 (o + 3) (by omega)
  have k1 : OwnInts _ B _ c := ownsRow_setCell_below (a := ⟨g, o, none⟩) hu hB (.string t)
  have k2 : OwnInts _ B _ c := ownsRow_setCell_below (a := ⟨g, o + 1, none⟩) k1 hB (.bool p1)
  have k3 : OwnInts _ B _ c := ownsRow_setCell_below (a := ⟨g, o + 2, none⟩) k2 hB (.bool p2)
  have k4 : OwnInts _ B _ c := ownsRow_setCell_below (a := ⟨g, o + 3, none⟩) k3 hB (.slice (some ⟨b, 0, none⟩) c.length c.length)
  refine ⟨?_, ?_, ?_, World.cell?_setCell_same _ _ _ h3, World.ownsRow.mono k4 (by omega)⟩
  · rw [World.cell?_setCell_other _ _ _ _ (by simp), World.cell?_setCell_other _ _ _ _ (by simp), World.cell?_setCell_other _ _ _ _ (by simp)]
    exact World.cell?_setCell_same _ _ _ h0
  · rw [World.cell?_setCell_other _ _ _ _ (by simp), World.cell?_setCell_other _ _ _ _ (by simp)]
    exact World.cell?_setCell_same _ _ _ h1
  · rw [World.cell?_setCell_other _ _ _ _ (by simp)]
    exact World.cell?_setCell_same _ _ _ h2
/-- the first k patterns of T lie in block g, their levels in the blocks bs, each behind the one before -/
def NewToQ (w : World) (g : Nat) (bs : Nat → Nat) (T : List PPat) (k : Nat) : Prop := (∀ j, j < k → PatNew w g (j * 4) (bs j) (T.getD j noQ)) ∧ ∀ i j, i < j → j < k → bs i < bs j
theorem NewToQ.zero (w : World) (g : Nat) (bs : Nat → Nat) (T : List PPat) : NewToQ w g bs T 0 := ⟨fun i h => absurd h (by omega), fun i j _ h => absurd h (by omega)⟩
theorem NewToQ.below {w w' : World} {g k : Nat} {bs : Nat → Nat} {T : List PPat} (h : NewToQ w g bs T k) (hb : Below w.heap.size w w') : NewToQ w' g bs T k := ⟨fun j hj => (h.1 j hj).below hb, h.2⟩
theorem NewToQ.put {w : World} {g n k B b : Nat} {bs : Nat → Nat} {T : List PPat} {t : ByteArray} {p1 p2 : Bool} {c : List Int} (h : NewToQ w g bs T k) (hs : ∀ j, j < k → bs j < B) (hr : RoomQ w g n) (hk : k < n) (hu : OwnInts w B (.slice (some ⟨b, 0, none⟩) c.length c.length) c) (hB : g < B) (hT : T.getD k noQ = ⟨t, p1, p2, c⟩) :
    NewToQ ((((w.setCell ⟨g, k * 4, none⟩ (.string t)).setCell ⟨g, k * 4 + 1, none⟩ (.bool p1)).setCell ⟨g, k * 4 + 2, none⟩ (.bool p2)).setCell ⟨g, k * 4 + 3, none⟩ (.slice (some ⟨b, 0, none⟩) c.length c.length)) g (fun j => if j = k then b else bs j) T (k + 1) := by
  have hbB : B ≤ b := (hu.lt b rfl).1
  have e1 : (fun j => if j = k then b else bs j) k = b := if_pos rfl
  have e2 : ∀ j, j ≠ k → (fun j => if j = k then b else bs j) j = bs j := fun j hj => if_neg hj
  refine ⟨fun j hj => ?_, fun i j hij hj => ?_⟩
  · by_cases hjk : j = k
    · subst hjk
      rw [hT, e1]
      exact patNew_put hr (by omega) hu hB
    · have h0 := h.1 j (by omega)
      rw [e2 j hjk]
      exact (((h0.set (by omega) _).set (by omega) _).set (by omega) _).set (by omega) _
  · by_cases hjk : j = k
    · have := hs i (by omega)
      subst hjk
      rw [e1, e2 i (by omega)]; omega
    · rw [e2 j hjk, e2 i (by omega)]
      exact h.2 i j hij (by omega)
theorem PatsAt.of_new {w : World} {g n : Nat} {bs : Nat → Nat} {T : List PPat} (h : NewToQ w g bs T n) (hn : T.length = n) (hm : n ≤ 9223372036854775807) : PatsAt w (.slice (some ⟨g, 0, none⟩) n n) T := by
  refine ⟨_, n, by rw [hn], by omega, hm, .inr ⟨g, 0, rfl, fun i hi => ?_⟩⟩
  rw [Nat.zero_add]
  exact (h.1 i (by omega)).at
/-- a copied list of patterns -/
def PatsMade (T : List PPat) (n : Nat) (w : World) (e : Ending) (w' : World) : Prop :=
  e = .returned (.slice (some ⟨w.heap.size, 0, none⟩) n n) ∧ (∃ bs, NewToQ w' w.heap.size bs T n) ∧ RoomQ w' w.heap.size n ∧ Below w.heap.size w w'
set_option maxHeartbeats 2000000 in
theorem toPatternS_any (w : World) (v : Value) (T : List PPat) (n : Nat) (hx : PatsAt w v T) (hs : PatsSmall T) (hn : Hid (T.length = n)) :
    Calls Try.prog 31 #[v] w fun e w' => PatsMade T n w e w' := by
  obtain ⟨i0, hi, hz0, hz1, hz2⟩ := info_parts infoPat
  obtain ⟨a, cp, rfl, x1, x2, x3⟩ := hx
  have hnn := hn.out
  rw [hnn] at x1 x3 ⊢
  have hbig : n ≤ 1048576 := by have := hs.1; omega
  have HS := Lib.hid hs
  clear hs hnn
  go_enter Try.func31, Try.ntmps31
  go_wp2_with (at_make; refine wpList_make_full _ rfl _ _ 23 rfl w.heap.size 28 i0 (.agg #[.string ⟨#[]⟩, .bool false, .bool false, .slice none 0 0]) 4 Try.underlying23 hi hz0 hz1 .i64 .i64 n n n rfl rfl rfl rfl (by rw [hz2]; omega) (by unfold maxLen; omega) (Nat.le_refl _) ?_)
  intro w1 hown hgr
  have hB1 : Below w.heap.size w w1 := ⟨hgr.os, hgr.tape, hgr.output, hgr.size, fun k hk => hgr.block k hk (by simp)⟩
  have hR1 : RoomQ w1 w.heap.size n := by
    refine ⟨fun o ho => ?_, fun o => hown.frozenAt o, (hown.lt _ rfl).2⟩
    rw [hown.cellAt o ho]
    exact ⟨_, List.getElem?_eq_getElem (by rw [hown.1]; exact ho)⟩
  have hsz1 := hR1.2.2
  clear hown hgr hi hz0 hz1 hz2
  go_wp2
  go_loopw [4] (fun i wr => ∃ k : Nat, k ≤ n ∧ i = .int .i64 k ∧ (∃ bs, NewToQ wr w.heap.size bs T k) ∧ RoomQ wr w.heap.size n ∧ Below w.heap.size w wr) (fun i _ => n - (intOf i).toNat)
  case atStart => exact ⟨0, Nat.zero_le _, rfl, ⟨fun _ => 0, NewToQ.zero _ _ _ _⟩, hR1, hB1⟩
  case round =>
    clear hR1 hB1 hsz1
    obtain ⟨k, hk, rfl, ⟨bs, hnew⟩, hroom, hb1⟩ := hrel
    have hsz := hb1.size
    by_cases hlt : k < n
    · rcases x3 with rfl | ⟨g, off, rfl, x3⟩
      · exact absurd hn.out (by simp; omega)
      obtain ⟨r, hr⟩ : ∃ r, T.getD k noQ = r := ⟨_, rfl⟩
      have hra := x3 k hlt
      have hrs := HS.out.2 k (by rw [hn.out]; exact hlt)
      rw [hr] at hra hrs
      have HR := Lib.hid hr
      clear hr x3
      obtain ⟨t, p1, p2, zs⟩ := r
      obtain ⟨c0, c2, c3, ⟨u, c1, hu⟩⟩ := hra
      have HU : Hid (IntsAt w u zs) := hu
      obtain ⟨a2, cp2, rfl, h1, h2, _⟩ := hu
      simp only at c0 c1 c2 c3 h1
      have c0 := (hb1.cell (World.block_lt_of_cell? w _ c0)).trans c0
      have c1 := (hb1.cell (World.block_lt_of_cell? w _ c1)).trans c1
      have c2 := (hb1.cell (World.block_lt_of_cell? w _ c2)).trans c2
      have c3 := (hb1.cell (World.block_lt_of_cell? w _ c3)).trans c3
      have hls : zs.length ≤ 1048576 := hrs.2
      go_wp2_with fail
      refine (toPattern_any wr _ t zs p1 p2 (HU.out.below hb1) hls).mono ?_
      rintro e w2 ⟨g2, rfl, hO, hb2⟩
      have hnew2 := hnew.below hb2
      have hbs : ∀ j, j < k → bs j < wr.heap.size := fun j hj => (hnew.1 j hj).lt.2
      have hroom2 := hroom.below hb2
      have hB2 := hb1.trans (hb2.mono hsz)
      have hlt2 := hroom.2.2
      clear hnew hroom c0 c1 c2 c3
      obtain ⟨u0, e0⟩ := hroom2.1 (k * 4) (by omega)
      obtain ⟨u1', e1⟩ := hroom2.1 (k * 4 + 1) (by omega)
      obtain ⟨u2', e2⟩ := hroom2.1 (k * 4 + 2) (by omega)
      obtain ⟨u3', e3⟩ := hroom2.1 (k * 4 + 3) (by omega)
      have f0 := hroom2.2.1 (k * 4)
      have f1 := hroom2.2.1 (k * 4 + 1)
      have f2 := hroom2.2.1 (k * 4 + 2)
      have f3 := hroom2.2.1 (k * 4 + 3)
      have hnew3 := hnew2.put hbs hroom2 hlt hO hlt2 HR.out
      have hroom3 := (((hroom2.set (k * 4) (.string t)).set (k * 4 + 1) (.bool p1)).set (k * 4 + 2) (.bool p2)).set (k * 4 + 3) (.slice (some ⟨g2, 0, none⟩) zs.length zs.length)
      have hB3 := (((hB2.setCell (p := ⟨w.heap.size, k * 4, none⟩) (Nat.le_refl _) (.string t)).setCell (p := ⟨w.heap.size, k * 4 + 1, none⟩) (Nat.le_refl _) (.bool p1)).setCell (p := ⟨w.heap.size, k * 4 + 2, none⟩) (Nat.le_refl _) (.bool p2)).setCell (p := ⟨w.heap.size, k * 4 + 3, none⟩) (Nat.le_refl _) (.slice (some ⟨g2, 0, none⟩) zs.length zs.length)
      have HN3 := Lib.hid hnew3
      have HR3 := Lib.hid hroom3
      have HB3 := Lib.hid hB3
      clear hnew2 hroom2 hB2 hO hnew3 hroom3 hB3 hbs
      go_wp2
      go_roundw
      case rel => exact ⟨k + 1, by omega, by go_num, ⟨_, HN3.out⟩, HR3.out, HB3.out⟩
      case measure => simp [intOf]; omega
    · go_wp2
      go_ret
      obtain rfl : k = n := by omega
      exact ⟨rfl, ⟨bs, hnew⟩, hroom, hb1⟩
end Go.Proofs.Ytpohkeenfbaklaa
