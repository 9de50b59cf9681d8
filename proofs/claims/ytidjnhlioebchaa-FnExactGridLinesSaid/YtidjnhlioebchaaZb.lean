
/- The exact laws' own functions on grids: their size, a copy, whether two are the same. -/
import Derived.Test.YtidjnhlioebchaaZa
namespace Go.Proofs.Ytidjnhlioebchaa
open Go.RowKit

def GSmallTo (G : List (List (List Int))) (k : Nat) : Prop := ∀ i, i < k → ListsSmall (G.getD i [])
theorem GSmallTo.zero (G : List (List (List Int))) : GSmallTo G 0 := fun i h => absurd h (by omega)
theorem GSmallTo.succ {G : List (List (List Int))} {k : Nat} (h : GSmallTo G k) (e : ListsSmall (G.getD k [])) : GSmallTo G (k + 1) := fun i hi => by
  by_cases hik : i = k
  · subst hik; exact e
  · exact h i (by omega)
def GridSmall (G : List (List (List Int))) : Prop := G.length ≤ 1048576 ∧ GSmallTo G G.length

set_option maxHeartbeats 1000000 in
theorem szIntSS_left (w : World) (v : Value) (L : List (List Int)) (left : Int) (hx : ListsAt w v L) (h0 : 0 ≤ left) (h1 : left ≤ 1048576) :
    Calls Try.prog 40 #[v, .int .i64 left] w fun e w' => ∃ k : Int, e = .returned (.int .i64 k) ∧ Below w.heap.size w w' ∧ (k = -1 ∨ (0 ≤ k ∧ k ≤ 1048576 ∧ ListsSmall L)) := by
  obtain ⟨a, cp, rfl, x1, x2, x3⟩ := hx
  obtain ⟨n, hn⟩ : ∃ n, L.length = n := ⟨_, rfl⟩
  rw [hn] at x1 x3 ⊢
  have HN := Lib.hid hn
  clear hn
  have hu1 : IntKind.i64.wrap (left - (n : Int)) = left - (n : Int) := IntWalk.i64_in _ (by omega)
  by_cases hbig : left < n
  · have d1 : decide (left - (n : Int) < 0) = true := decide_eq_true (by omega)
    go_enter Try.func40, Try.ntmps40
    go_wp2
    go_ret
    exact ⟨-1, rfl, Below.refl _ _, .inl rfl⟩
  · have d1 : decide (left - (n : Int) < 0) = false := decide_eq_false (by omega)
    go_enter Try.func40, Try.ntmps40
    go_wp2
    go_loopw [1, 5] (fun l i wr => ∃ k : Nat, k ≤ n ∧ i = .int .i64 k ∧ (∃ m : Int, l = .int .i64 m ∧ 0 ≤ m ∧ m ≤ 1048576) ∧ LSmallTo L k ∧ Below w.heap.size w wr) (fun _ i _ => n - (intOf i).toNat)
    case atStart => exact ⟨0, Nat.zero_le _, rfl, ⟨_, rfl, by omega, by omega⟩, LSmallTo.zero _, Below.refl _ _⟩
    case round =>
      clear hu1 d1
      obtain ⟨k, hk, rfl, ⟨m, rfl, hm0, hm1⟩, hok, hb1⟩ := hrel
      by_cases hlt : k < n
      · rcases x3 with rfl | ⟨g, off, rfl, x3⟩
        · exact absurd HN.out (by simp; omega)
        obtain ⟨u, c1, hu⟩ := x3 k hlt
        obtain ⟨zs, hr⟩ : ∃ zs, L.getD k [] = zs := ⟨_, rfl⟩
        rw [hr] at hu
        have HR := Lib.hid hr
        clear hr x3
        obtain ⟨a2, cp2, rfl, h1, h2, _⟩ := hu
        have c1 := (hb1.cell (World.block_lt_of_cell? w _ c1)).trans c1
        have hlz : zs.length ≤ 9223372036854775807 := by omega
        go_wp2_with fail
        refine (szIntS_any wr _ zs.length _ m hlz hm0 hm1).mono ?_
        rintro e w2 ⟨l, rfl, rfl, hl⟩
        rcases hl with rfl | ⟨hl0, hl1, hl2⟩
        · go_wp2
          go_ret
          exact ⟨-1, rfl, hb1, .inl rfl⟩
        · have hok' := hok.succ (by rw [HR.out]; exact hl2)
          have d1 : decide (l < 0) = false := decide_eq_false (by omega)
          clear hok
          go_wp2
          go_roundw
          case rel => exact ⟨k + 1, by omega, by go_num, ⟨l, rfl, hl0, by omega⟩, hok', hb1⟩
          case measure => simp [intOf]; omega
      · go_wp2
        go_ret
        obtain rfl : k = n := by omega
        exact ⟨m, rfl, hb1, .inr ⟨hm0, hm1, by rw [ListsSmall, HN.out]; exact ⟨by omega, hok⟩⟩⟩

set_option maxHeartbeats 1000000 in
theorem szIntSSS_any (w : World) (v : Value) (G : List (List (List Int))) (hx : GridAt w v G) :
    Calls Try.prog 30 #[v, .int .i64 1048576] w fun e w' => ∃ k : Int, e = .returned (.int .i64 k) ∧ Below w.heap.size w w' ∧ (k = -1 ∨ (0 ≤ k ∧ k ≤ 1048576 ∧ GridSmall G)) := by
  obtain ⟨a, cp, rfl, x1, x2, x3⟩ := hx
  obtain ⟨n, hn⟩ : ∃ n, G.length = n := ⟨_, rfl⟩
  rw [hn] at x1 x3 ⊢
  have HN := Lib.hid hn
  clear hn
  have hu1 : IntKind.i64.wrap (1048576 - (n : Int)) = 1048576 - (n : Int) := IntWalk.i64_in _ (by omega)
  by_cases hbig : 1048576 < n
  · have d1 : decide (1048576 - (n : Int) < 0) = true := decide_eq_true (by omega)
    go_enter Try.func30, Try.ntmps30
    go_wp2
    go_ret
    exact ⟨-1, rfl, Below.refl _ _, .inl rfl⟩
  · have d1 : decide (1048576 - (n : Int) < 0) = false := decide_eq_false (by omega)
    go_enter Try.func30, Try.ntmps30
    go_wp2
    go_loopw [1, 5] (fun l i wr => ∃ k : Nat, k ≤ n ∧ i = .int .i64 k ∧ (∃ m : Int, l = .int .i64 m ∧ 0 ≤ m ∧ m ≤ 1048576) ∧ GSmallTo G k ∧ Below w.heap.size w wr) (fun _ i _ => n - (intOf i).toNat)
    case atStart => exact ⟨0, Nat.zero_le _, rfl, ⟨_, rfl, by omega, by omega⟩, GSmallTo.zero _, Below.refl _ _⟩
    case round =>
      clear hu1 d1
      obtain ⟨k, hk, rfl, ⟨m, rfl, hm0, hm1⟩, hok, hb1⟩ := hrel
      have hsz := hb1.size
      by_cases hlt : k < n
      · rcases x3 with rfl | ⟨g, off, rfl, x3⟩
        · exact absurd HN.out (by simp; omega)
        obtain ⟨u, c1, hu⟩ := x3 k hlt
        obtain ⟨L, hr⟩ : ∃ L, G.getD k [] = L := ⟨_, rfl⟩
        rw [hr] at hu
        have HR := Lib.hid hr
        have HU : Hid (ListsAt wr u L) := hu.below hb1
        clear hr x3
        obtain ⟨a2, cp2, rfl, _⟩ := hu
        have c1 := (hb1.cell (World.block_lt_of_cell? w _ c1)).trans c1
        go_wp2_with fail
        refine (szIntSS_left wr _ L m HU.out hm0 hm1).mono ?_
        rintro e w2 ⟨l, rfl, hb2, hl⟩
        have hB2 := hb1.trans (hb2.mono hsz)
        clear c1 hb2 hb1
        rcases hl with rfl | ⟨hl0, hl1, hl2⟩
        · go_wp2
          go_ret
          exact ⟨-1, rfl, hB2, .inl rfl⟩
        · have hok' := hok.succ (by rw [HR.out]; exact hl2)
          have d1 : decide (l < 0) = false := decide_eq_false (by omega)
          clear hok
          go_wp2
          go_roundw
          case rel => exact ⟨k + 1, by omega, by go_num, ⟨l, rfl, hl0, by omega⟩, hok', hB2⟩
          case measure => simp [intOf]; omega
      · go_wp2
        go_ret
        obtain rfl : k = n := by omega
        exact ⟨m, rfl, hb1, .inr ⟨hm0, hm1, by rw [GridSmall, HN.out]; exact ⟨by omega, hok⟩⟩⟩

theorem infoIntLL : (Try.prog.info? 30).map (fun i => (i.zero, i.size, i.bytes)) = some (some (.slice none 0 0), 1, 24) := by kernel_rfl
theorem ListNew.setLow {w : World} {g j b : Nat} {zs : List Int} (h : ListNew w b j zs) (hb : g < b) (o : Nat) (v : Value) : ListNew (w.setCell ⟨g, o, none⟩ v) b j zs := by
  obtain ⟨b2, h1, h2, h3, h4⟩ := h
  refine ⟨b2, ?_, h2, h3, fun i hi => ?_⟩
  · rw [World.cell?_setCell_other _ _ _ _ (fun e => by injection e; omega)]; exact h1
  · rw [World.cell?_setCell_other _ _ _ _ (fun e => by injection e; omega)]; exact h4 i hi
/-- cell j of block g is a slice of a block behind g, with lists of their own blocks -/
def RowNew (w : World) (g j : Nat) (L : List (List Int)) : Prop :=
  ∃ b, w.cell? ⟨g, j, none⟩ = some (.slice (some ⟨b, 0, none⟩) L.length L.length) ∧ g < b ∧ L.length ≤ 1048576 ∧ LNewTo w b L L.length
theorem RowNew.at {w : World} {g j : Nat} {L : List (List Int)} (h : RowNew w g j L) : ∃ u, w.cell? ⟨g, j, none⟩ = some u ∧ ListsAt w u L := by
  obtain ⟨b, h1, _, h2, h3⟩ := h
  exact ⟨_, h1, ListsAt.of_new h3 rfl (by omega)⟩
theorem RowNew.below {w w' : World} {g j : Nat} {L : List (List Int)} (h : RowNew w g j L) (hb : Below w.heap.size w w') : RowNew w' g j L := by
  obtain ⟨b, h1, h2, h3, h4⟩ := h
  exact ⟨b, (hb.cell (World.block_lt_of_cell? w _ h1)).trans h1, h2, h3, h4.below hb⟩
theorem RowNew.set {w : World} {g j : Nat} {L : List (List Int)} (h : RowNew w g j L) {o : Nat} (ho : o ≠ j) (v : Value) : RowNew (w.setCell ⟨g, o, none⟩ v) g j L := by
  obtain ⟨b, h1, h2, h3, h4⟩ := h
  refine ⟨b, ?_, h2, h3, fun i hi => (h4 i hi).setLow h2 o v⟩
  rw [World.cell?_setCell_other _ _ _ _ (fun e => by injection e; omega)]; exact h1
def GNewTo (w : World) (g : Nat) (G : List (List (List Int))) (k : Nat) : Prop := ∀ j, j < k → RowNew w g j (G.getD j [])
theorem GNewTo.zero (w : World) (g : Nat) (G : List (List (List Int))) : GNewTo w g G 0 := fun i h => absurd h (by omega)
theorem GNewTo.below {w w' : World} {g k : Nat} {G : List (List (List Int))} (h : GNewTo w g G k) (hb : Below w.heap.size w w') : GNewTo w' g G k := fun j hj => (h j hj).below hb
theorem GNewTo.put {w : World} {g n k b : Nat} {G : List (List (List Int))} {L : List (List Int)} (h : GNewTo w g G k) (hr : RoomL w g n) (hk : k < n) (hu : LNewTo w b L L.length) (hB : g < b) (hc : L.length ≤ 1048576) (hT : G.getD k [] = L) :
    GNewTo (w.setCell ⟨g, k, none⟩ (.slice (some ⟨b, 0, none⟩) L.length L.length)) g G (k + 1) := fun j hj => by
  by_cases hjk : j = k
  · subst hjk
    rw [hT]
    obtain ⟨u0, h0⟩ := hr.1 j hk
    exact ⟨b, World.cell?_setCell_same _ _ _ h0, hB, hc, fun i hi => (hu i hi).setLow hB j _⟩
  · exact (h j (by omega)).set (by omega) _
theorem GridAt.of_new {w : World} {g n : Nat} {G : List (List (List Int))} (h : GNewTo w g G n) (hn : G.length = n) (hm : n ≤ 9223372036854775807) : GridAt w (.slice (some ⟨g, 0, none⟩) n n) G := by
  refine ⟨_, n, by rw [hn], by omega, hm, .inr ⟨g, 0, rfl, fun i hi => ?_⟩⟩
  rw [Nat.zero_add]
  exact (h i (by omega)).at
set_option maxHeartbeats 2000000 in
theorem toIntSS_new (w : World) (v : Value) (L : List (List Int)) (hx : ListsAt w v L) (hs : ListsSmall L) :
    Calls Try.prog 41 #[v] w fun e w' => ∃ g, e = .returned (.slice (some ⟨g, 0, none⟩) L.length L.length) ∧ w.heap.size ≤ g ∧ LNewTo w' g L L.length ∧ Below w.heap.size w w' := by
  obtain ⟨i0, hi, hz0, hz1, hz2⟩ := info_parts infoIntL
  obtain ⟨a, cp, rfl, x1, x2, x3⟩ := hx
  obtain ⟨n, hn⟩ : ∃ n, L.length = n := ⟨_, rfl⟩
  rw [hn] at x1 x3 ⊢
  have hbig : n ≤ 1048576 := by have := hs.1; omega
  have HS := Lib.hid hs
  have HN := Lib.hid hn
  clear hs hn
  go_enter Try.func41, Try.ntmps41
  go_wp2_with (at_make; refine wpList_make_full _ rfl _ _ 30 rfl w.heap.size 27 i0 (.slice none 0 0) 1 Try.underlying30 hi hz0 hz1 .i64 .i64 n n n rfl rfl rfl rfl (by rw [hz2]; omega) (by unfold maxLen; omega) (Nat.le_refl _) ?_)
  intro w1 hown hgr
  have hB1 : Below w.heap.size w w1 := ⟨hgr.os, hgr.tape, hgr.output, hgr.size, fun k hk => hgr.block k hk (by simp)⟩
  have hR1 : RoomL w1 w.heap.size n := by
    refine ⟨fun o ho => ?_, fun o => hown.frozenAt o, (hown.lt _ rfl).2⟩
    rw [hown.cellAt o (by omega)]
    exact ⟨_, List.getElem?_eq_getElem (by rw [hown.1]; omega)⟩
  clear hown hgr hi hz0 hz1 hz2
  go_wp2
  go_loopw [4] (fun i wr => ∃ k : Nat, k ≤ n ∧ i = .int .i64 k ∧ LNewTo wr w.heap.size L k ∧ RoomL wr w.heap.size n ∧ Below w.heap.size w wr) (fun i _ => n - (intOf i).toNat)
  case atStart => exact ⟨0, Nat.zero_le _, rfl, LNewTo.zero _ _ _, hR1, hB1⟩
  case round =>
    clear hR1 hB1
    obtain ⟨k, hk, rfl, hnew, hroom, hb1⟩ := hrel
    have hsz := hb1.size
    by_cases hlt : k < n
    · rcases x3 with rfl | ⟨g, off, rfl, x3⟩
      · exact absurd HN.out (by simp; omega)
      obtain ⟨u, c1, hu⟩ := x3 k hlt
      obtain ⟨zs, hr⟩ : ∃ zs, L.getD k [] = zs := ⟨_, rfl⟩
      have hls : (L.getD k []).length ≤ 1048576 := HS.out.2 k (by rw [HN.out]; exact hlt)
      rw [hr] at hu hls
      have HR := Lib.hid hr
      clear hr x3
      have HU : Hid (IntsAt w u zs) := hu
      obtain ⟨a2, cp2, rfl, h1, h2, _⟩ := hu
      have c1 := (hb1.cell (World.block_lt_of_cell? w _ c1)).trans c1
      go_wp2_with fail
      refine (toIntS_any wr _ zs (HU.out.below hb1) hls).mono ?_
      rintro e w2 ⟨_, rfl, hO, hb2, g2, rfl⟩
      have hnew2 := hnew.below hb2
      have hroom2 := hroom.below hb2
      have hB2 := hb1.trans (hb2.mono hsz)
      have hlt2 := hroom.2.2
      have hg2 : w.heap.size < g2 := Nat.lt_of_lt_of_le hlt2 (hO.lt g2 rfl).1
      clear hnew hroom c1
      obtain ⟨u0, e0⟩ := hroom2.1 k hlt
      have f0 := hroom2.2.1 k
      have hnew3 := hnew2.put hroom2 hlt hO.at hg2 hls HR.out
      have hroom3 := hroom2.set k (.slice (some ⟨g2, 0, none⟩) zs.length zs.length)
      have hB3 := hB2.setCell (p := ⟨w.heap.size, k, none⟩) (Nat.le_refl _) (.slice (some ⟨g2, 0, none⟩) zs.length zs.length)
      have HN3 := Lib.hid hnew3
      have HR3 := Lib.hid hroom3
      have HB3 := Lib.hid hB3
      clear hnew2 hroom2 hB2 hO hnew3 hroom3 hB3
      go_wp2
      go_roundw
      case rel => exact ⟨k + 1, by omega, by go_num, HN3.out, HR3.out, HB3.out⟩
      case measure => simp [intOf]; omega
    · go_wp2
      go_ret
      obtain rfl : k = n := by omega
      exact ⟨w.heap.size, rfl, Nat.le_refl _, hnew, hb1⟩

set_option maxHeartbeats 2000000 in
theorem toIntSSS_any (w : World) (v : Value) (G : List (List (List Int))) (hx : GridAt w v G) (hs : GridSmall G) :
    Calls Try.prog 31 #[v] w fun e w' => ∃ u, e = .returned u ∧ GridAt w' u G ∧ Below w.heap.size w w' := by
  obtain ⟨i0, hi, hz0, hz1, hz2⟩ := info_parts infoIntLL
  obtain ⟨a, cp, rfl, x1, x2, x3⟩ := hx
  obtain ⟨n, hn⟩ : ∃ n, G.length = n := ⟨_, rfl⟩
  rw [hn] at x1 x3 ⊢
  have hbig : n ≤ 1048576 := by have := hs.1; omega
  have HS := Lib.hid hs
  have HN := Lib.hid hn
  clear hs hn
  go_enter Try.func31, Try.ntmps31
  go_wp2_with (at_make; refine wpList_make_full _ rfl _ _ 23 rfl w.heap.size 30 i0 (.slice none 0 0) 1 Try.underlying23 hi hz0 hz1 .i64 .i64 n n n rfl rfl rfl rfl (by rw [hz2]; omega) (by unfold maxLen; omega) (Nat.le_refl _) ?_)
  intro w1 hown hgr
  have hB1 : Below w.heap.size w w1 := ⟨hgr.os, hgr.tape, hgr.output, hgr.size, fun k hk => hgr.block k hk (by simp)⟩
  have hR1 : RoomL w1 w.heap.size n := by
    refine ⟨fun o ho => ?_, fun o => hown.frozenAt o, (hown.lt _ rfl).2⟩
    rw [hown.cellAt o (by omega)]
    exact ⟨_, List.getElem?_eq_getElem (by rw [hown.1]; omega)⟩
  clear hown hgr hi hz0 hz1 hz2
  go_wp2
  go_loopw [4] (fun i wr => ∃ k : Nat, k ≤ n ∧ i = .int .i64 k ∧ GNewTo wr w.heap.size G k ∧ RoomL wr w.heap.size n ∧ Below w.heap.size w wr) (fun i _ => n - (intOf i).toNat)
  case atStart => exact ⟨0, Nat.zero_le _, rfl, GNewTo.zero _ _ _, hR1, hB1⟩
  case round =>
    clear hR1 hB1
    obtain ⟨k, hk, rfl, hnew, hroom, hb1⟩ := hrel
    have hsz := hb1.size
    by_cases hlt : k < n
    · rcases x3 with rfl | ⟨g, off, rfl, x3⟩
      · exact absurd HN.out (by simp; omega)
      obtain ⟨u, c1, hu⟩ := x3 k hlt
      obtain ⟨L, hr⟩ : ∃ L, G.getD k [] = L := ⟨_, rfl⟩
      have hls : ListsSmall (G.getD k []) := HS.out.2 k (by rw [HN.out]; exact hlt)
      rw [hr] at hu hls
      have HR := Lib.hid hr
      clear hr x3
      have HU : Hid (ListsAt w u L) := hu
      obtain ⟨a2, cp2, rfl, h1, h2, _⟩ := hu
      have c1 := (hb1.cell (World.block_lt_of_cell? w _ c1)).trans c1
      go_wp2_with fail
      refine (toIntSS_new wr _ L (HU.out.below hb1) hls).mono ?_
      rintro e w2 ⟨g2, rfl, hg2a, hO, hb2⟩
      have hnew2 := hnew.below hb2
      have hroom2 := hroom.below hb2
      have hB2 := hb1.trans (hb2.mono hsz)
      have hlt2 := hroom.2.2
      have hg2 : w.heap.size < g2 := Nat.lt_of_lt_of_le hroom.2.2 hg2a
      clear hnew hroom c1
      obtain ⟨u0, e0⟩ := hroom2.1 k hlt
      have f0 := hroom2.2.1 k
      have hnew3 := hnew2.put hroom2 hlt hO hg2 hls.1 HR.out
      have hroom3 := hroom2.set k (.slice (some ⟨g2, 0, none⟩) L.length L.length)
      have hB3 := hB2.setCell (p := ⟨w.heap.size, k, none⟩) (Nat.le_refl _) (.slice (some ⟨g2, 0, none⟩) L.length L.length)
      have HN3 := Lib.hid hnew3
      have HR3 := Lib.hid hroom3
      have HB3 := Lib.hid hB3
      clear hnew2 hroom2 hB2 hO hnew3 hroom3 hB3
      go_wp2
      go_roundw
      case rel => exact ⟨k + 1, by omega, by go_num, HN3.out, HR3.out, HB3.out⟩
      case measure => simp [intOf]; omega
    · go_wp2
      go_ret
      obtain rfl : k = n := by omega
      exact ⟨_, rfl, GridAt.of_new hnew HN.out (by omega), hb1⟩

set_option maxHeartbeats 2000000 in
theorem eqIntSSS_same (w : World) (u v : Value) (G : List (List (List Int))) (hx : GridAt w u G) (hy : GridAt w v G) :
    Calls Try.prog 32 #[u, v] w fun e w' => e = .returned (.bool true) ∧ Below w.heap.size w w' := by
  obtain ⟨a, cp, rfl, x1, x2, x3⟩ := hx
  obtain ⟨a', cp', rfl, y1, y2, y3⟩ := hy
  obtain ⟨n, hn⟩ : ∃ n, G.length = n := ⟨_, rfl⟩
  rw [hn] at x1 x3 y1 y3 ⊢
  have HN := Lib.hid hn
  clear hn
  go_enter Try.func32, Try.ntmps32
  go_wp2
  go_loopw [5] (fun i wr => ∃ k : Nat, k ≤ n ∧ i = .int .i64 k ∧ Below w.heap.size w wr) (fun i _ => n - (intOf i).toNat)
  case atStart => exact ⟨0, Nat.zero_le _, rfl, Below.refl _ _⟩
  case round =>
    obtain ⟨k, hk, rfl, hb1⟩ := hrel
    have hsz := hb1.size
    by_cases hlt : k < n
    · rcases x3 with rfl | ⟨g, off, rfl, x3⟩
      · exact absurd HN.out (by simp; omega)
      rcases y3 with rfl | ⟨g', off', rfl, y3⟩
      · exact absurd HN.out (by simp; omega)
      obtain ⟨u, c1, hu⟩ := x3 k hlt
      obtain ⟨v, d1, hv⟩ := y3 k hlt
      clear x3 y3
      obtain ⟨L, hr⟩ : ∃ L, G.getD k [] = L := ⟨_, rfl⟩
      rw [hr] at hu hv
      clear hr
      have HU : Hid (ListsAt w u L) := hu
      have HV : Hid (ListsAt w v L) := hv
      obtain ⟨a2, cp2, rfl, _⟩ := hu
      obtain ⟨a3, cp3, rfl, _⟩ := hv
      have c1 := (hb1.cell (World.block_lt_of_cell? w _ c1)).trans c1
      have d1 := (hb1.cell (World.block_lt_of_cell? w _ d1)).trans d1
      have b1 : (0 : Int) ≤ (k : Int) := by omega
      have b2 : (k : Int) < (n : Int) := by omega
      have HU1 : Hid (ListsAt wr.drew (.slice a2 L.length cp2) L) := (show ListsAt wr (.slice a2 L.length cp2) L from HU.out.below hb1)
      have HV1 : Hid (ListsAt wr.drew (.slice a3 L.length cp3) L) := (show ListsAt wr (.slice a3 L.length cp3) L from HV.out.below hb1)
      have HK : Hid (∀ wx, Below wr.heap.size wr wx → wx.cell? ⟨g, off + k, none⟩ = some (.slice a2 L.length cp2) ∧ wx.cell? ⟨g', off' + k, none⟩ = some (.slice a3 L.length cp3)) := fun wx h => 
        ⟨(h.cell (World.block_lt_of_cell? wr _ c1)).trans c1, (h.cell (World.block_lt_of_cell? wr _ d1)).trans d1⟩
      go_wp2_with fail
      go_region_held3 (fun wx => wx.cell? ⟨g, off + k, none⟩ = some (.slice a2 L.length cp2) ∧ wx.cell? ⟨g', off' + k, none⟩ = some (.slice a3 L.length cp3)) (first | assumption | exact HK.out _ (Below.refl _ _).drew | exact HK.out _ ((Below.refl _ _).drew.trans hb2)) (first | (go_at_call 37; refine (eqIntSS_same wr.drew _ _ L HU1.out HV1.out).mono ?_; rintro e w2 ⟨rfl, hb2⟩))
      all_goals
        go_wp2
        go_roundw
        case rel => exact ⟨k + 1, by omega, by go_num, hb1.trans (((Below.refl _ _).drew.trans hb2).mono hsz)⟩
        case measure => simp [intOf]; omega
    · go_wp2
      go_ret
      exact ⟨rfl, hb1⟩
end Go.Proofs.Ytidjnhlioebchaa
