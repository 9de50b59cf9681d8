
/- The exact laws' own functions on lists of lists: their size, a copy, whether two are the same. -/
import Derived.Test.YthpbpdnlnmldeaaCa
import Derived.Test.YthpbpdnlnmldeaaExS
import Derived.Test.YthpbpdnlnmldeaaEqIntS
import Derived.Deep.RegionHeld3
import Derived.Handy
namespace Go.Proofs.Ythpbpdnlnmldeaa
open Go.RowKit

/-- lists that are not too long -/
def LSmallTo (L : List (List Int)) (k : Nat) : Prop := ∀ i, i < k → (L.getD i []).length ≤ 1048576
theorem LSmallTo.zero (L : List (List Int)) : LSmallTo L 0 := fun i h => absurd h (by omega)
theorem LSmallTo.succ {L : List (List Int)} {k : Nat} (h : LSmallTo L k) (e : (L.getD k []).length ≤ 1048576) : LSmallTo L (k + 1) := fun i hi => by
  by_cases hik : i = k
  · subst hik; exact e
  · exact h i (by omega)
def ListsSmall (L : List (List Int)) : Prop := L.length ≤ 1048576 ∧ LSmallTo L L.length

theorem szIntS_any (w : World) (a : Option Addr) (n cp : Nat) (left : Int) (hl : n ≤ 9223372036854775807) (h0 : 0 ≤ left) (h1 : left ≤ 1048576) :
    Calls Try.prog 53 #[.slice a n cp, .int .i64 left] w fun e w' => ∃ k : Int, e = .returned (.int .i64 k) ∧ w = w' ∧ (k = -1 ∨ (0 ≤ k ∧ k ≤ left ∧ n ≤ 1048576)) := by
  have u2 : IntKind.i64.wrap (left - (n : Int)) = left - (n : Int) := IntWalk.i64_in _ (by omega)
  by_cases c2 : left - n < 0
  · have d2 : decide (left - (n : Int) < 0) = true := decide_eq_true c2
    go_enter Try.func53, Try.ntmps53
    go_wp2
    go_ret
    exact ⟨-1, rfl, rfl, .inl rfl⟩
  · have d2 : decide (left - (n : Int) < 0) = false := decide_eq_false c2
    go_enter Try.func53, Try.ntmps53
    go_wp2
    go_ret
    exact ⟨left - n, rfl, rfl, .inr ⟨by omega, by omega, by omega⟩⟩

set_option maxHeartbeats 1000000 in
theorem szIntSS_any (w : World) (v : Value) (L : List (List Int)) (hx : ListsAt w v L) :
    Calls Try.prog 31 #[v, .int .i64 1048576] w fun e w' => ∃ k : Int, e = .returned (.int .i64 k) ∧ Below w.heap.size w w' ∧ (k = -1 ∨ (0 ≤ k ∧ k ≤ 1048576 ∧ ListsSmall L)) := by
  obtain ⟨a, cp, rfl, x1, x2, x3⟩ := hx
  obtain ⟨n, hn⟩ : ∃ n, L.length = n := ⟨_, rfl⟩
  rw [hn] at x1 x3 ⊢
  have HN := Lib.hid hn
  clear hn
  have hu1 : IntKind.i64.wrap (1048576 - (n : Int)) = 1048576 - (n : Int) := IntWalk.i64_in _ (by omega)
  by_cases hbig : 1048576 < n
  · have d1 : decide (1048576 - (n : Int) < 0) = true := decide_eq_true (by omega)
    go_enter Try.func31, Try.ntmps31
    go_wp2
    go_ret
    exact ⟨-1, rfl, Below.refl _ _, .inl rfl⟩
  · have d1 : decide (1048576 - (n : Int) < 0) = false := decide_eq_false (by omega)
    go_enter Try.func31, Try.ntmps31
    go_wp2
    go_loopw [1, 5] (fun l i wr => ∃ k : Nat, k ≤ n ∧ i = .int .i64 k ∧ (∃ m : Int, l = .int .i64 m ∧ 0 ≤ m ∧ m ≤ 1048576) ∧ LSmallTo L k ∧ Below w.heap.size w wr) (fun _ i _ => n - (intOf i).toNat)
    case atStart => exact ⟨0, Nat.zero_le _, rfl, ⟨_, rfl, by omega, by omega⟩, LSmallTo.zero _, Below.refl _ _⟩
    case round =>
      clear hu1 d1
      obtain ⟨k, hk, rfl, ⟨m, rfl, hm0, hm1⟩, hok, hb1⟩ := hrel
      by_cases hlt : k < n
      · rcases x3 with rfl | ⟨g, off, rfl, x3⟩
        · exact absurd HN.out (by simp; omega)
        obtain ⟨u, c1, hu⟩ := x3 k hlt
        obtain ⟨zs, hr⟩ : ∃ zs, L.getD k [] = zs := ⟨_, rfl⟩
        rw [hr] at hu
        have HR := Lib.hid hr
        clear hr x3
        obtain ⟨a2, cp2, rfl, h1, h2, _⟩ := hu
        have c1 := (hb1.cell (World.block_lt_of_cell? w _ c1)).trans c1
        have hlz : zs.length ≤ 9223372036854775807 := by omega
        go_wp2_with fail
        refine (szIntS_any wr _ zs.length _ m hlz hm0 hm1).mono ?_
        rintro e w2 ⟨l, rfl, rfl, hl⟩
        rcases hl with rfl | ⟨hl0, hl1, hl2⟩
        · go_wp2
          go_ret
          exact ⟨-1, rfl, hb1, .inl rfl⟩
        · have hok' := hok.succ (by rw [HR.out]; exact hl2)
          have d1 : decide (l < 0) = false := decide_eq_false (by omega)
          clear hok
          go_wp2
          go_roundw
          case rel => exact ⟨k + 1, by omega, by go_num, ⟨l, rfl, hl0, by omega⟩, hok', hb1⟩
          case measure => simp [intOf]; omega
      · go_wp2
        go_ret
        obtain rfl : k = n := by omega
        exact ⟨m, rfl, hb1, .inr ⟨hm0, hm1, by rw [ListsSmall, HN.out]; exact ⟨by omega, hok⟩⟩⟩

theorem infoIntL : (Try.prog.info? 30).map (fun i => (i.zero, i.size, i.bytes)) = some (some (.slice none 0 0), 1, 24) := by kernel_rfl
/-- the block b holds these numbers from its beginning -/
def IntsIn (w : World) (b : Nat) (zs : List Int) : Prop := ∀ i, i < zs.length → w.cell? ⟨b, i, none⟩ = some (.int .i64 (zs.getD i 0))
/-- cell j of block g is a slice of its own block, behind g, which reads as zs -/
def ListNew (w : World) (g j : Nat) (zs : List Int) : Prop :=
  ∃ b, w.cell? ⟨g, j, none⟩ = some (.slice (some ⟨b, 0, none⟩) zs.length zs.length) ∧ g < b ∧ zs.length ≤ 1048576 ∧ IntsIn w b zs
theorem ListNew.at {w : World} {g j : Nat} {zs : List Int} (h : ListNew w g j zs) : ∃ u, w.cell? ⟨g, j, none⟩ = some u ∧ IntsAt w u zs := by
  obtain ⟨b, h1, _, h2, h3⟩ := h
  exact ⟨_, h1, _, _, rfl, Nat.le_refl _, by omega, .inr ⟨b, 0, rfl, fun i hi => by rw [Nat.zero_add]; exact h3 i hi⟩⟩
theorem ListNew.below {w w' : World} {g j : Nat} {zs : List Int} (h : ListNew w g j zs) (hb : Below w.heap.size w w') : ListNew w' g j zs := by
  obtain ⟨b, h1, h2, h3, h4⟩ := h
  exact ⟨b, (hb.cell (World.block_lt_of_cell? w _ h1)).trans h1, h2, h3, fun i hi => (hb.cell (World.block_lt_of_cell? w _ (h4 i hi))).trans (h4 i hi)⟩
theorem ListNew.set {w : World} {g j : Nat} {zs : List Int} (h : ListNew w g j zs) {o : Nat} (ho : o ≠ j) (v : Value) : ListNew (w.setCell ⟨g, o, none⟩ v) g j zs := by
  obtain ⟨b, h1, h2, h3, h4⟩ := h
  refine ⟨b, ?_, h2, h3, fun i hi => ?_⟩
  · rw [World.cell?_setCell_other _ _ _ _ (fun e => by injection e; omega)]; exact h1
  · rw [World.cell?_setCell_other _ _ _ _ (fun e => by injection e; omega)]; exact h4 i hi
/-- block g has room for n cells, and may be written -/
def RoomL (w : World) (g n : Nat) : Prop := (∀ o, o < n → ∃ u, w.cell? ⟨g, o, none⟩ = some u) ∧ (∀ o, w.frozen? ⟨g, o, none⟩ = false) ∧ g < w.heap.size
theorem RoomL.below {w w' : World} {g n : Nat} (h : RoomL w g n) (hb : Below w.heap.size w w') : RoomL w' g n := by
  refine ⟨fun o ho => ?_, fun o => (hb.frozen h.2.2).trans (h.2.1 o), Nat.lt_of_lt_of_le h.2.2 hb.size⟩
  obtain ⟨u, hu⟩ := h.1 o ho
  exact ⟨u, (hb.cell (p := ⟨g, o, none⟩) h.2.2).trans hu⟩
theorem RoomL.set {w : World} {g n : Nat} (h : RoomL w g n) (o' : Nat) (v : Value) : RoomL (w.setCell ⟨g, o', none⟩ v) g n := by
  refine ⟨fun o ho => ?_, fun o => by rw [World.frozen?_setCell]; exact h.2.1 o, by simp [World.setCell]; exact h.2.2⟩
  obtain ⟨u, hu⟩ := h.1 o ho
  by_cases e : o' = o
  · subst e; exact ⟨v, World.cell?_setCell_same w _ v hu⟩
  · exact ⟨u, by rw [World.cell?_setCell_other _ _ _ _ (fun h => by injection h; omega)]; exact hu⟩
/-- the first k lists of L lie in block g -/
def LNewTo (w : World) (g : Nat) (L : List (List Int)) (k : Nat) : Prop := ∀ j, j < k → ListNew w g j (L.getD j [])
theorem LNewTo.zero (w : World) (g : Nat) (L : List (List Int)) : LNewTo w g L 0 := fun i h => absurd h (by omega)
theorem LNewTo.below {w w' : World} {g k : Nat} {L : List (List Int)} (h : LNewTo w g L k) (hb : Below w.heap.size w w') : LNewTo w' g L k := fun j hj => (h j hj).below hb
theorem LNewTo.put {w : World} {g n k b : Nat} {L : List (List Int)} {c : List Int} (h : LNewTo w g L k) (hr : RoomL w g n) (hk : k < n) (hu : IntsAt w (.slice (some ⟨b, 0, none⟩) c.length c.length) c) (hB : g < b) (hc : c.length ≤ 1048576) (hT : L.getD k [] = c) :
    LNewTo (w.setCell ⟨g, k, none⟩ (.slice (some ⟨b, 0, none⟩) c.length c.length)) g L (k + 1) := fun j hj => by
  by_cases hjk : j = k
  · subst hjk
    rw [hT]
    obtain ⟨u0, h0⟩ := hr.1 j hk
    refine ⟨b, World.cell?_setCell_same _ _ _ h0, hB, hc, fun i hi => ?_⟩
    rw [World.cell?_setCell_other _ _ _ _ (fun e => by injection e; omega)]
    obtain ⟨a', cap', e1, _, _, h4⟩ := hu
    rcases h4 with rfl | ⟨g', off, h5, h6⟩
    · simp at hi
    · injection e1 with e1 _ _
      rw [← e1] at h5
      injection h5 with h5
      injection h5 with h5 h7 _
      subst h5 h7
      have := h6 i hi
      rw [Nat.zero_add] at this
      exact this
  · exact (h j (by omega)).set (by omega) _
theorem ListsAt.of_new {w : World} {g n : Nat} {L : List (List Int)} (h : LNewTo w g L n) (hn : L.length = n) (hm : n ≤ 9223372036854775807) : ListsAt w (.slice (some ⟨g, 0, none⟩) n n) L := by
  refine ⟨_, n, by rw [hn], by omega, hm, .inr ⟨g, 0, rfl, fun i hi => ?_⟩⟩
  rw [Nat.zero_add]
  exact (h i (by omega)).at
set_option maxHeartbeats 2000000 in
theorem toIntSS_any (w : World) (v : Value) (L : List (List Int)) (hx : ListsAt w v L) (hs : ListsSmall L) :
    Calls Try.prog 32 #[v] w fun e w' => ∃ u, e = .returned u ∧ ListsAt w' u L ∧ Below w.heap.size w w' := by
  obtain ⟨i0, hi, hz0, hz1, hz2⟩ := info_parts infoIntL
  obtain ⟨a, cp, rfl, x1, x2, x3⟩ := hx
  obtain ⟨n, hn⟩ : ∃ n, L.length = n := ⟨_, rfl⟩
  rw [hn] at x1 x3 ⊢
  have hbig : n ≤ 1048576 := by have := hs.1; omega
  have HS := Lib.hid hs
  have HN := Lib.hid hn
  clear hs hn
  go_enter Try.func32, Try.ntmps32
  go_wp2_with (at_make; refine wpList_make_full _ rfl _ _ 23 rfl w.heap.size 30 i0 (.slice none 0 0) 1 Try.underlying23 hi hz0 hz1 .i64 .i64 n n n rfl rfl rfl rfl (by rw [hz2]; omega) (by unfold maxLen; omega) (Nat.le_refl _) ?_)
  intro w1 hown hgr
  have hB1 : Below w.heap.size w w1 := ⟨hgr.os, hgr.tape, hgr.output, hgr.size, fun k hk => hgr.block k hk (by simp)⟩
  have hR1 : RoomL w1 w.heap.size n := by
    refine ⟨fun o ho => ?_, fun o => hown.frozenAt o, (hown.lt _ rfl).2⟩
    rw [hown.cellAt o (by omega)]
    exact ⟨_, List.getElem?_eq_getElem (by rw [hown.1]; omega)⟩
  clear hown hgr hi hz0 hz1 hz2
  go_wp2
  go_loopw [4] (fun i wr => ∃ k : Nat, k ≤ n ∧ i = .int .i64 k ∧ LNewTo wr w.heap.size L k ∧ RoomL wr w.heap.size n ∧ Below w.heap.size w wr) (fun i _ => n - (intOf i).toNat)
  case atStart => exact ⟨0, Nat.zero_le _, rfl, LNewTo.zero _ _ _, hR1, hB1⟩
  case round =>
    clear hR1 hB1
    obtain ⟨k, hk, rfl, hnew, hroom, hb1⟩ := hrel
    have hsz := hb1.size
    by_cases hlt : k < n
    · rcases x3 with rfl | ⟨g, off, rfl, x3⟩
      · exact absurd HN.out (by simp; omega)
      obtain ⟨u, c1, hu⟩ := x3 k hlt
      obtain ⟨zs, hr⟩ : ∃ zs, L.getD k [] = zs := ⟨_, rfl⟩
      have hls : (L.getD k []).length ≤ 1048576 := HS.out.2 k (by rw [HN.out]; exact hlt)
      rw [hr] at hu hls
      have HR := Lib.hid hr
      clear hr x3
      have HU : Hid (IntsAt w u zs) := hu
      obtain ⟨a2, cp2, rfl, h1, h2, _⟩ := hu
      have c1 := (hb1.cell (World.block_lt_of_cell? w _ c1)).trans c1
      go_wp2_with fail
      refine (toIntS_any wr _ zs (HU.out.below hb1) hls).mono ?_
      rintro e w2 ⟨_, rfl, hO, hb2, g2, rfl⟩
      have hnew2 := hnew.below hb2
      have hroom2 := hroom.below hb2
      have hB2 := hb1.trans (hb2.mono hsz)
      have hlt2 := hroom.2.2
      have hg2 : w.heap.size < g2 := Nat.lt_of_lt_of_le hlt2 (hO.lt g2 rfl).1
      clear hnew hroom c1
      obtain ⟨u0, e0⟩ := hroom2.1 k hlt
      have f0 := hroom2.2.1 k
      have hnew3 := hnew2.put hroom2 hlt hO.at hg2 hls HR.out
      have hroom3 := hroom2.set k (.slice (some ⟨g2, 0, none⟩) zs.length zs.length)
      have hB3 := hB2.setCell (p := ⟨w.heap.size, k, none⟩) (Nat.le_refl _) (.slice (some ⟨g2, 0, none⟩) zs.length zs.length)
      have HN3 := Lib.hid hnew3
      have HR3 := Lib.hid hroom3
      have HB3 := Lib.hid hB3
      clear hnew2 hroom2 hB2 hO hnew3 hroom3 hB3
      go_wp2
      go_roundw
      case rel => exact ⟨k + 1, by omega, by go_num, HN3.out, HR3.out, HB3.out⟩
      case measure => simp [intOf]; omega
    · go_wp2
      go_ret
      obtain rfl : k = n := by omega
      exact ⟨_, rfl, ListsAt.of_new hnew HN.out (by omega), hb1⟩

theorem eqIntS_sameL (w : World) (u v : Value) (xs : List Int) (hx : IntsAt w u xs) (hy : IntsAt w v xs) :
    Calls Try.prog 55 #[u, v] w fun e w' => e = .returned (.bool true) ∧ Below w.heap.size w w' := by
  have := eqIntS_any w u v xs xs hx hy
  rw [decide_eq_true rfl] at this
  exact this
set_option maxHeartbeats 2000000 in
theorem eqIntSS_same (w : World) (u v : Value) (L : List (List Int)) (hx : ListsAt w u L) (hy : ListsAt w v L) :
    Calls Try.prog 33 #[u, v] w fun e w' => e = .returned (.bool true) ∧ Below w.heap.size w w' := by
  obtain ⟨a, cp, rfl, x1, x2, x3⟩ := hx
  obtain ⟨a', cp', rfl, y1, y2, y3⟩ := hy
  obtain ⟨n, hn⟩ : ∃ n, L.length = n := ⟨_, rfl⟩
  rw [hn] at x1 x3 y1 y3 ⊢
  have HN := Lib.hid hn
  clear hn
  go_enter Try.func33, Try.ntmps33
  go_wp2
  go_loopw [5] (fun i wr => ∃ k : Nat, k ≤ n ∧ i = .int .i64 k ∧ Below w.heap.size w wr) (fun i _ => n - (intOf i).toNat)
  case atStart => exact ⟨0, Nat.zero_le _, rfl, Below.refl _ _⟩
  case round =>
    obtain ⟨k, hk, rfl, hb1⟩ := hrel
    have hsz := hb1.size
    by_cases hlt : k < n
    · rcases x3 with rfl | ⟨g, off, rfl, x3⟩
      · exact absurd HN.out (by simp; omega)
      rcases y3 with rfl | ⟨g', off', rfl, y3⟩
      · exact absurd HN.out (by simp; omega)
      obtain ⟨u, c1, hu⟩ := x3 k hlt
      obtain ⟨v, d1, hv⟩ := y3 k hlt
      clear x3 y3
      obtain ⟨zs, hr⟩ : ∃ zs, L.getD k [] = zs := ⟨_, rfl⟩
      rw [hr] at hu hv
      clear hr
      have HU : Hid (IntsAt w u zs) := hu
      have HV : Hid (IntsAt w v zs) := hv
      obtain ⟨a2, cp2, rfl, _⟩ := hu
      obtain ⟨a3, cp3, rfl, _⟩ := hv
      have c1 := (hb1.cell (World.block_lt_of_cell? w _ c1)).trans c1
      have d1 := (hb1.cell (World.block_lt_of_cell? w _ d1)).trans d1
      have b1 : (0 : Int) ≤ (k : Int) := by omega
      have b2 : (k : Int) < (n : Int) := by omega
      have HU1 : Hid (IntsAt wr.drew (.slice a2 zs.length cp2) zs) := (show IntsAt wr (.slice a2 zs.length cp2) zs from HU.out.below hb1)
      have HV1 : Hid (IntsAt wr.drew (.slice a3 zs.length cp3) zs) := (show IntsAt wr (.slice a3 zs.length cp3) zs from HV.out.below hb1)
      have HK : Hid (∀ wx, Below wr.heap.size wr wx → wx.cell? ⟨g, off + k, none⟩ = some (.slice a2 zs.length cp2) ∧ wx.cell? ⟨g', off' + k, none⟩ = some (.slice a3 zs.length cp3)) := fun wx h => 
        ⟨(h.cell (World.block_lt_of_cell? wr _ c1)).trans c1, (h.cell (World.block_lt_of_cell? wr _ d1)).trans d1⟩
      go_wp2_with fail
      go_region_held3 (fun wx => wx.cell? ⟨g, off + k, none⟩ = some (.slice a2 zs.length cp2) ∧ wx.cell? ⟨g', off' + k, none⟩ = some (.slice a3 zs.length cp3)) (first | assumption | exact HK.out _ (Below.refl _ _).drew | exact HK.out _ ((Below.refl _ _).drew.trans hb2)) (first | (go_at_call 55; refine (eqIntS_sameL wr.drew _ _ zs HU1.out HV1.out).mono ?_; rintro e w2 ⟨rfl, hb2⟩))
      all_goals
        go_wp2
        go_roundw
        case rel => exact ⟨k + 1, by omega, by go_num, hb1.trans (((Below.refl _ _).drew.trans hb2).mono hsz)⟩
        case measure => simp [intOf]; omega
    · go_wp2
      go_ret
      exact ⟨rfl, hb1⟩
end Go.Proofs.Ythpbpdnlnmldeaa
