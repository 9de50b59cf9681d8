
/- The exact laws' own functions on tables: a copy of a whole table. -/
import Derived.Test.YtohgglhjcklbaaaTbE
namespace Go.Proofs.Ytohgglhjcklbaaa
open Go.RowKit

theorem infoRule : (Try.prog.info? 46).map (fun i => (i.zero, i.size, i.bytes)) = some (some (.agg #[.string ⟨#[]⟩, .slice none 0 0, .int .i64 0]), 3, 48) := by kernel_rfl

/-- the three cells from offset o of block g on read as the rule r, whose cells lie in block b, behind block g, in memory of their own -/
def RuleNew (w : World) (g o b : Nat) (r : PRule) : Prop :=
  w.cell? ⟨g, o, none⟩ = some (.string r.t) ∧ w.cell? ⟨g, o + 1, none⟩ = some (.slice (some ⟨b, 0, none⟩) r.c.length r.c.length) ∧ OwnInts w (g + 1) (.slice (some ⟨b, 0, none⟩) r.c.length r.c.length) r.c ∧ w.cell? ⟨g, o + 2, none⟩ = some (.int .i64 r.p)
theorem RuleNew.at {w : World} {g o b : Nat} {r : PRule} (h : RuleNew w g o b r) : RuleAt w g o r := by
  obtain ⟨h1, h2, h3, h4⟩ := h
  exact ⟨h1, ⟨_, h2, h3.at⟩, h4⟩
theorem RuleNew.lt {w : World} {g o b : Nat} {r : PRule} (h : RuleNew w g o b r) : g + 1 ≤ b ∧ b < w.heap.size := h.2.2.1.lt b rfl
theorem RuleNew.below {w w' : World} {g o b : Nat} {r : PRule} (h : RuleNew w g o b r) (hb : Below w.heap.size w w') : RuleNew w' g o b r := by
  obtain ⟨h1, h2, h3, h4⟩ := h
  exact ⟨(hb.cell (World.block_lt_of_cell? w _ h1)).trans h1, (hb.cell (World.block_lt_of_cell? w _ h2)).trans h2, h3.below hb, (hb.cell (World.block_lt_of_cell? w _ h4)).trans h4⟩
theorem RuleNew.set {w : World} {g o b : Nat} {r : PRule} (h : RuleNew w g o b r) {o' : Nat} (ho : o' < o ∨ o + 2 < o') (v : Value) : RuleNew (w.setCell ⟨g, o', none⟩ v) g o b r := by
  obtain ⟨h1, h2, h3, h4⟩ := h
  refine ⟨?_, ?_, ownsRow_setCell_below h3 (by simp) v, ?_⟩
  · rw [World.cell?_setCell_other _ _ _ _ (fun e => by injection e; omega)]; exact h1
  · rw [World.cell?_setCell_other _ _ _ _ (fun e => by injection e; omega)]; exact h2
  · rw [World.cell?_setCell_other _ _ _ _ (fun e => by injection e; omega)]; exact h4
/-- a write into another list's block -/
theorem RuleNew.grown {w w' : World} {g o b : Nat} {r : PRule} (h : RuleNew w g o b r) {k : Nat} (hg : w.grownBy w' (some k)) (hk : k ≠ g) (hb : k ≠ b) : RuleNew w' g o b r := by
  obtain ⟨h1, h2, h3, h4⟩ := h
  exact ⟨hg.cell h1 (by simp; omega), hg.cell h2 (by simp; omega), h3.kept hg (.inr (by simp [Value.ownBlock]; omega)), hg.cell h4 (by simp; omega)⟩
/-- block g has room for n rules, and may be written -/
def Room (w : World) (g n : Nat) : Prop := (∀ o, o < n * 3 → ∃ u, w.cell? ⟨g, o, none⟩ = some u) ∧ (∀ o, w.frozen? ⟨g, o, none⟩ = false) ∧ g < w.heap.size
theorem Room.below {w w' : World} {g n : Nat} (h : Room w g n) (hb : Below w.heap.size w w') : Room w' g n := by
  refine ⟨fun o ho => ?_, fun o => (hb.frozen h.2.2).trans (h.2.1 o), Nat.lt_of_lt_of_le h.2.2 hb.size⟩
  obtain ⟨u, hu⟩ := h.1 o ho
  exact ⟨u, (hb.cell (p := ⟨g, o, none⟩) h.2.2).trans hu⟩
theorem Room.set {w : World} {g n : Nat} (h : Room w g n) (o' : Nat) (v : Value) : Room (w.setCell ⟨g, o', none⟩ v) g n := by
  refine ⟨fun o ho => ?_, fun o => by rw [World.frozen?_setCell]; exact h.2.1 o, by simp [World.setCell]; exact h.2.2⟩
  obtain ⟨u, hu⟩ := h.1 o ho
  by_cases e : o' = o
  · subst e; exact ⟨v, World.cell?_setCell_same w _ v hu⟩
  · exact ⟨u, by rw [World.cell?_setCell_other _ _ _ _ (fun h => by injection h; omega)]; exact hu⟩
theorem Room.grown {w w' : World} {g n : Nat} (h : Room w g n) {k : Nat} (hg : w.grownBy w' (some k)) (hk : k ≠ g) : Room w' g n := by
  have hblk := hg.block g h.2.2 (by simp; omega)
  refine ⟨fun o ho => ?_, fun o => (World.frozen?_of_block (a := ⟨g, o, none⟩) hblk).trans (h.2.1 o), Nat.lt_of_lt_of_le h.2.2 hg.size⟩
  obtain ⟨u, hu⟩ := h.1 o ho
  exact ⟨u, (World.cell?_of_block (a := ⟨g, o, none⟩) hblk).trans hu⟩
theorem ruleNew_put {w : World} {g n o B b : Nat} {t : ByteArray} {c : List Int} {p : Int} (h : Room w g n) (ho : o + 2 < n * 3) (hu : OwnInts w B (.slice (some ⟨b, 0, none⟩) c.length c.length) c) (hB : g < B) :
    RuleNew (((w.setCell ⟨g, o, none⟩ (.string t)).setCell ⟨g, o + 1, none⟩ (.slice (some ⟨b, 0, none⟩) c.length c.length)).setCell ⟨g, o + 2, none⟩ (.int .i64 p)) g o b ⟨t, c, p⟩ := by
  have r1 := h.set o (.string t)
  have r2 := r1.set (o + 1) (.slice (some ⟨b, 0, none⟩) c.length c.length)
  obtain ⟨u0, h0⟩ := h.1 o (by omega)
  obtain ⟨u1, h1⟩ := r1.1 (o + 1) (by omega)
  obtain ⟨u2, h2⟩ := r2.1 (o + 2) (by omega)
  have k1 : OwnInts _ B _ c := ownsRow_setCell_below (a := ⟨g, o, none⟩) hu hB (.string t)
  have k2 : OwnInts _ B _ c := ownsRow_setCell_below (a := ⟨g, o + 1, none⟩) k1 hB (.slice (some ⟨b, 0, none⟩) c.length c.length)
  have k3 : OwnInts _ B _ c := ownsRow_setCell_below (a := ⟨g, o + 2, none⟩) k2 hB (.int .i64 p)
  refine ⟨?_, ?_, World.ownsRow.mono k3 (by omega), World.cell?_setCell_same _ _ _ h2⟩
  · rw [World.cell?_setCell_other _ _ _ _ (by simp), World.cell?_setCell_other _ _ _ _ (by simp)]
    exact World.cell?_setCell_same _ _ _ h0
  · rw [World.cell?_setCell_other _ _ _ _ (by simp)]
    exact World.cell?_setCell_same _ _ _ h1
/-- the first k rules of T lie in block g, their cells in the blocks bs, each behind the one before -/
def NewTo (w : World) (g : Nat) (bs : Nat → Nat) (T : List PRule) (k : Nat) : Prop := (∀ j, j < k → RuleNew w g (j * 3) (bs j) (T.getD j noR)) ∧ ∀ i j, i < j → j < k → bs i < bs j
theorem NewTo.zero (w : World) (g : Nat) (bs : Nat → Nat) (T : List PRule) : NewTo w g bs T 0 := ⟨fun i h => absurd h (by omega), fun i j _ h => absurd h (by omega)⟩
theorem NewTo.below {w w' : World} {g k : Nat} {bs : Nat → Nat} {T : List PRule} (h : NewTo w g bs T k) (hb : Below w.heap.size w w') : NewTo w' g bs T k := ⟨fun j hj => (h.1 j hj).below hb, h.2⟩
theorem NewTo.put {w : World} {g n k B b : Nat} {bs : Nat → Nat} {T : List PRule} {t : ByteArray} {c : List Int} {p : Int} (h : NewTo w g bs T k) (hs : ∀ j, j < k → bs j < B) (hr : Room w g n) (hk : k < n) (hu : OwnInts w B (.slice (some ⟨b, 0, none⟩) c.length c.length) c) (hB : g < B) (hT : T.getD k noR = ⟨t, c, p⟩) :
    NewTo (((w.setCell ⟨g, k * 3, none⟩ (.string t)).setCell ⟨g, k * 3 + 1, none⟩ (.slice (some ⟨b, 0, none⟩) c.length c.length)).setCell ⟨g, k * 3 + 2, none⟩ (.int .i64 p)) g (fun j => if j = k then b else bs j) T (k + 1) := by
  have hbB : B ≤ b := (hu.lt b rfl).1
  have e1 : (fun j => if j = k then b else bs j) k = b := if_pos rfl
  have e2 : ∀ j, j ≠ k → (fun j => if j = k then b else bs j) j = bs j := fun j hj => if_neg hj
  refine ⟨fun j hj => ?_, fun i j hij hj => ?_⟩
  · by_cases hjk : j = k
    · subst hjk
      rw [hT, e1]
      exact ruleNew_put hr (by omega) hu hB
    · have h0 := h.1 j (by omega)
      rw [e2 j hjk]
      exact ((h0.set (by omega) _).set (by omega) _).set (by omega) _
  · by_cases hjk : j = k
    · have := hs i (by omega)
      subst hjk
      rw [e1, e2 i (by omega)]; omega
    · rw [e2 j hjk, e2 i (by omega)]
      exact h.2 i j hij (by omega)
theorem TableAt.of_new {w : World} {g n : Nat} {bs : Nat → Nat} {T : List PRule} (h : NewTo w g bs T n) (hn : T.length = n) (hm : n ≤ 9223372036854775807) : TableAt w (.slice (some ⟨g, 0, none⟩) n n) T := by
  refine ⟨_, n, by rw [hn], by omega, hm, .inr ⟨g, 0, rfl, fun i hi => ?_⟩⟩
  rw [Nat.zero_add]
  exact (h.1 i (by omega)).at
/-- a copied table -/
def TableMade (T : List PRule) (n : Nat) (w : World) (e : Ending) (w' : World) : Prop :=
  e = .returned (.slice (some ⟨w.heap.size, 0, none⟩) n n) ∧ (∃ bs, NewTo w' w.heap.size bs T n) ∧ Room w' w.heap.size n ∧ Below w.heap.size w w'
set_option maxHeartbeats 2000000 in
theorem toRuleS_any (w : World) (v : Value) (T : List PRule) (n : Nat) (hx : TableAt w v T) (hs : TableSmall T) (hn : Hid (T.length = n)) :
    Calls Try.prog 20 #[v] w fun e w' => TableMade T n w e w' := by
  obtain ⟨i0, hi, hz0, hz1, hz2⟩ := info_parts infoRule
  obtain ⟨a, cp, rfl, x1, x2, x3⟩ := hx
  have hnn := hn.out
  rw [hnn] at x1 x3 ⊢
  have hbig : n ≤ 1048576 := by have := hs.1; omega
  have HS := Lib.hid hs
  clear hs hnn
  go_enter Try.func20, Try.ntmps20
  go_wp2_with (at_make; refine wpList_make_full _ rfl _ _ 30 rfl w.heap.size 46 i0 (.agg #[.string ⟨#[]⟩, .slice none 0 0, .int .i64 0]) 3 Try.underlying30 hi hz0 hz1 .i64 .i64 n n n rfl rfl rfl rfl (by rw [hz2]; omega) (by unfold maxLen; omega) (Nat.le_refl _) ?_)
  intro w1 hown hgr
  have hB1 : Below w.heap.size w w1 := ⟨hgr.os, hgr.tape, hgr.output, hgr.size, fun k hk => hgr.block k hk (by simp)⟩
  have hR1 : Room w1 w.heap.size n := by
    refine ⟨fun o ho => ?_, fun o => hown.frozenAt o, (hown.lt _ rfl).2⟩
    rw [hown.cellAt o ho]
    exact ⟨_, List.getElem?_eq_getElem (by rw [hown.1]; exact ho)⟩
  have hsz1 := hR1.2.2
  clear hown hgr hi hz0 hz1 hz2
  go_wp2
  go_loopw [4] (fun i wr => ∃ k : Nat, k ≤ n ∧ i = .int .i64 k ∧ (∃ bs, NewTo wr w.heap.size bs T k) ∧ Room wr w.heap.size n ∧ Below w.heap.size w wr) (fun i _ => n - (intOf i).toNat)
  case atStart => exact ⟨0, Nat.zero_le _, rfl, ⟨fun _ => 0, NewTo.zero _ _ _ _⟩, hR1, hB1⟩
  case round =>
    clear hR1 hB1 hsz1
    obtain ⟨k, hk, rfl, ⟨bs, hnew⟩, hroom, hb1⟩ := hrel
    have hsz := hb1.size
    by_cases hlt : k < n
    · rcases x3 with rfl | ⟨g, off, rfl, x3⟩
      · exact absurd hn.out (by simp; omega)
      obtain ⟨r, hr⟩ : ∃ r, T.getD k noR = r := ⟨_, rfl⟩
      have hra := x3 k hlt
      have hrs := HS.out.2 k (by rw [hn.out]; exact hlt)
      rw [hr] at hra hrs
      have HR := Lib.hid hr
      clear hr x3
      obtain ⟨t, zs, q⟩ := r
      obtain ⟨c0, ⟨u, c1, hu⟩, c2⟩ := hra
      have HU : Hid (IntsAt w u zs) := hu
      obtain ⟨a2, cp2, rfl, h1, h2, _⟩ := hu
      simp only at c0 c1 c2 h1
      have c0 := (hb1.cell (World.block_lt_of_cell? w _ c0)).trans c0
      have c1 := (hb1.cell (World.block_lt_of_cell? w _ c1)).trans c1
      have c2 := (hb1.cell (World.block_lt_of_cell? w _ c2)).trans c2
      have hls : zs.length ≤ 1048576 := hrs.2
      go_wp2_with fail
      refine (toRule_any wr _ t zs q (HU.out.below hb1) hls).mono ?_
      rintro e w2 ⟨g2, rfl, hO, hb2⟩
      have hnew2 := hnew.below hb2
      have hbs : ∀ j, j < k → bs j < wr.heap.size := fun j hj => (hnew.1 j hj).lt.2
      have hroom2 := hroom.below hb2
      have hB2 := hb1.trans (hb2.mono hsz)
      have hlt2 := hroom.2.2
      clear hnew hroom c0 c1 c2
      obtain ⟨u0, e0⟩ := hroom2.1 (k * 3) (by omega)
      obtain ⟨u1', e1⟩ := hroom2.1 (k * 3 + 1) (by omega)
      obtain ⟨u2', e2⟩ := hroom2.1 (k * 3 + 2) (by omega)
      have f0 := hroom2.2.1 (k * 3)
      have f1 := hroom2.2.1 (k * 3 + 1)
      have f2 := hroom2.2.1 (k * 3 + 2)
      have hnew3 := hnew2.put hbs hroom2 hlt hO hlt2 HR.out
      have hroom3 := ((hroom2.set (k * 3) (.string t)).set (k * 3 + 1) (.slice (some ⟨g2, 0, none⟩) zs.length zs.length)).set (k * 3 + 2) (.int .i64 q)
      have hB3 := ((hB2.setCell (p := ⟨w.heap.size, k * 3, none⟩) (Nat.le_refl _) (.string t)).setCell (p := ⟨w.heap.size, k * 3 + 1, none⟩) (Nat.le_refl _) (.slice (some ⟨g2, 0, none⟩) zs.length zs.length)).setCell (p := ⟨w.heap.size, k * 3 + 2, none⟩) (Nat.le_refl _) (.int .i64 q)
      have HN3 := Lib.hid hnew3
      have HR3 := Lib.hid hroom3
      have HB3 := Lib.hid hB3
      clear hnew2 hroom2 hB2 hO hnew3 hroom3 hB3 hbs
      go_wp2
      go_roundw
      case rel => exact ⟨k + 1, by omega, by go_num, ⟨_, HN3.out⟩, HR3.out, HB3.out⟩
      case measure => simp [intOf]; omega
    · go_wp2
      go_ret
      obtain rfl : k = n := by omega
      exact ⟨rfl, ⟨bs, hnew⟩, hroom, hb1⟩
end Go.Proofs.Ytohgglhjcklbaaa
