/- Merged: TbE TbF TbG TbH TbI TbJ TbM TbK Pc. -/
import Derived.Test.YthojahknocageaaMC
import Derived.Test.YthojahknocageaaMA
import Derived.Deep.RegionHeld3
import Derived.Deep.Onto
import Derived.Handy
import Derived.Deep.QuietTactic
import Derived.BigQuiet
import Derived.Laws.IdiomStrings
import Derived.Lib.BufferRead

/- The exact laws' own functions on tables: their size, a copy, whether two are the same. -/
namespace Go.Proofs.Ythojahknocageaa
open Go.RowKit

/-- a rule whose letters and cells are not too many -/
def RuleSmall (r : PRule) : Prop := r.t.size ≤ 1048576 ∧ r.c.length ≤ 1048576
def SmallTo (T : List PRule) (k : Nat) : Prop := ∀ i, i < k → RuleSmall (T.getD i noR)
theorem SmallTo.zero (T : List PRule) : SmallTo T 0 := fun i h => absurd h (by omega)
theorem SmallTo.succ {T : List PRule} {k : Nat} (h : SmallTo T k) (e : RuleSmall (T.getD k noR)) : SmallTo T (k + 1) := fun i hi => by
  by_cases hik : i = k
  · subst hik; exact e
  · exact h i (by omega)
def TableSmall (T : List PRule) : Prop := T.length ≤ 1048576 ∧ SmallTo T T.length

/-- a copied rule -/
def RuleMade (s : ByteArray) (zs : List Int) (p : Int) (w : World) (e : Ending) (w' : World) : Prop :=
  ∃ g, e = .returned (.agg #[.string s, .slice (some ⟨g, 0, none⟩) zs.length zs.length, .int .i64 p]) ∧ OwnInts w' w.heap.size (.slice (some ⟨g, 0, none⟩) zs.length zs.length) zs ∧ Below w.heap.size w w'
end Go.Proofs.Ythojahknocageaa


/- The exact laws' own functions on tables: a copy of a whole table. -/
namespace Go.Proofs.Ythojahknocageaa
open Go.RowKit

theorem infoRule : (Try.prog.info? 56).map (fun i => (i.zero, i.size, i.bytes)) = some (some (.agg #[.string ⟨#[]⟩, .slice none 0 0, .int .i64 0]), 3, 48) := by kernel_rfl

/-- the three cells from offset o of block g on read as the rule r, whose cells lie in block b, behind block g, in memory of their own -/
def RuleNew (w : World) (g o b : Nat) (r : PRule) : Prop :=
  w.cell? ⟨g, o, none⟩ = some (.string r.t) ∧ w.cell? ⟨g, o + 1, none⟩ = some (.slice (some ⟨b, 0, none⟩) r.c.length r.c.length) ∧ OwnInts w (g + 1) (.slice (some ⟨b, 0, none⟩) r.c.length r.c.length) r.c ∧ w.cell? ⟨g, o + 2, none⟩ = some (.int .i64 r.p)
theorem RuleNew.at {w : World} {g o b : Nat} {r : PRule} (h : RuleNew w g o b r) : RuleAt w g o r := by
  obtain ⟨h1, h2, h3, h4⟩ := h
  exact ⟨h1, ⟨_, h2, h3.at⟩, h4⟩
theorem RuleNew.lt {w : World} {g o b : Nat} {r : PRule} (h : RuleNew w g o b r) : g + 1 ≤ b ∧ b < w.heap.size := h.2.2.1.lt b rfl
theorem RuleNew.below {w w' : World} {g o b : Nat} {r : PRule} (h : RuleNew w g o b r) (hb : Below w.heap.size w w') : RuleNew w' g o b r := by
  obtain ⟨h1, h2, h3, h4⟩ := h
  exact ⟨(hb.cell (World.block_lt_of_cell? w _ h1)).trans h1, (hb.cell (World.block_lt_of_cell? w _ h2)).trans h2, h3.below hb, (hb.cell (World.block_lt_of_cell? w _ h4)).trans h4⟩
theorem RuleNew.set {w : World} {g o b : Nat} {r : PRule} (h : RuleNew w g o b r) {o' : Nat} (ho : o' < o ∨ o + 2 < o') (v : Value) : RuleNew (w.setCell ⟨g, o', none⟩ v) g o b r := by
  obtain ⟨h1, h2, h3, h4⟩ := h
  refine ⟨?_, ?_, ownsRow_setCell_below h3 (by simp) v, ?_⟩
  · rw [World.cell?_setCell_other _ _ _ _ (fun e => by injection e; omega)]; exact h1
  · rw [World.cell?_setCell_other _ _ _ _ (fun e => by injection e; omega)]; exact h2
  · rw [World.cell?_setCell_other _ _ _ _ (fun e => by injection e; omega)]; exact h4
/-- a write into another list's block -/
theorem RuleNew.grown {w w' : World} {g o b : Nat} {r : PRule} (h : RuleNew w g o b r) {k : Nat} (hg : w.grownBy w' (some k)) (hk : k ≠ g) (hb : k ≠ b) : RuleNew w' g o b r := by
  obtain ⟨h1, h2, h3, h4⟩ := h
  exact ⟨hg.cell h1 (by simp; omega), hg.cell h2 (by simp; omega), h3.kept hg (.inr (by simp [Value.ownBlock]; omega)), hg.cell h4 (by simp; omega)⟩
/-- block g has room for n rules, and may be written -/
def Room (w : World) (g n : Nat) : Prop := (∀ o, o < n * 3 → ∃ u, w.cell? ⟨g, o, none⟩ = some u) ∧ (∀ o, w.frozen? ⟨g, o, none⟩ = false) ∧ g < w.heap.size
theorem Room.below {w w' : World} {g n : Nat} (h : Room w g n) (hb : Below w.heap.size w w') : Room w' g n := by
  refine ⟨fun o ho => ?_, fun o => (hb.frozen h.2.2).trans (h.2.1 o), Nat.lt_of_lt_of_le h.2.2 hb.size⟩
  obtain ⟨u, hu⟩ := h.1 o ho
  exact ⟨u, (hb.cell (p := ⟨g, o, none⟩) h.2.2).trans hu⟩
theorem Room.set {w : World} {g n : Nat} (h : Room w g n) (o' : Nat) (v : Value) : Room (w.setCell ⟨g, o', none⟩ v) g n := by
  refine ⟨fun o ho => ?_, fun o => by rw [World.frozen?_setCell]; exact h.2.1 o, by simp [World.setCell]; exact h.2.2⟩
  obtain ⟨u, hu⟩ := h.1 o ho
  by_cases e : o' = o
  · subst e; exact ⟨v, World.cell?_setCell_same w _ v hu⟩
  · exact ⟨u, by rw [World.cell?_setCell_other _ _ _ _ (fun h => by injection h; omega)]; exact hu⟩
theorem Room.grown {w w' : World} {g n : Nat} (h : Room w g n) {k : Nat} (hg : w.grownBy w' (some k)) (hk : k ≠ g) : Room w' g n := by
  have hblk := hg.block g h.2.2 (by simp; omega)
  refine ⟨fun o ho => ?_, fun o => (World.frozen?_of_block (a := ⟨g, o, none⟩) hblk).trans (h.2.1 o), Nat.lt_of_lt_of_le h.2.2 hg.size⟩
  obtain ⟨u, hu⟩ := h.1 o ho
  exact ⟨u, (World.cell?_of_block (a := ⟨g, o, none⟩) hblk).trans hu⟩
theorem ruleNew_put {w : World} {g n o B b : Nat} {t : ByteArray} {c : List Int} {p : Int} (h : Room w g n) (ho : o + 2 < n * 3) (hu : OwnInts w B (.slice (some ⟨b, 0, none⟩) c.length c.length) c) (hB : g < B) :
    RuleNew (((w.setCell ⟨g, o, none⟩ (.string t)).setCell ⟨g, o + 1, none⟩ (.slice (some ⟨b, 0, none⟩) c.length c.length)).setCell ⟨g, o + 2, none⟩ (.int .i64 p)) g o b ⟨t, c, p⟩ := by
  have r1 := h.set o (.string t)
  have r2 := r1.set (o + 1) (.slice (some ⟨b, 0, none⟩) c.length c.length)
  obtain ⟨u0, h0⟩ := h.1 o (by omega)
  obtain ⟨u1, h1⟩ := r1.1 (o + 1) (by omega)
  obtain ⟨u2, h2⟩ := r2.1 (o + 2) (by omega)
  have k1 : OwnInts _ B _ c := ownsRow_setCell_below (a := ⟨g, o, none⟩) hu hB (.string t)
  have k2 : OwnInts _ B _ c := ownsRow_setCell_below (a := ⟨g, o + 1, none⟩) k1 hB (.slice (some ⟨b, 0, none⟩) c.length c.length)
  have k3 : OwnInts _ B _ c := ownsRow_setCell_below (a := ⟨g, o + 2, none⟩) k2 hB (.int .i64 p)
  refine ⟨?_, ?_, World.ownsRow.mono k3 (by omega), World.cell?_setCell_same _ _ _ h2⟩
  · rw [World.cell?_setCell_other _ _ _ _ (by simp), World.cell?_setCell_other _ _ _ _ (by simp)]
    exact World.cell?_setCell_same _ _ _ h0
  · rw [World.cell?_setCell_other _ _ _ _ (by simp)]
    exact World.cell?_setCell_same _ _ _ h1
/-- the first k rules of T lie in block g, their cells in the blocks bs, each behind the one before -/
def NewTo (w : World) (g : Nat) (bs : Nat → Nat) (T : List PRule) (k : Nat) : Prop := (∀ j, j < k → RuleNew w g (j * 3) (bs j) (T.getD j noR)) ∧ ∀ i j, i < j → j < k → bs i < bs j
theorem NewTo.zero (w : World) (g : Nat) (bs : Nat → Nat) (T : List PRule) : NewTo w g bs T 0 := ⟨fun i h => absurd h (by omega), fun i j _ h => absurd h (by omega)⟩
theorem NewTo.below {w w' : World} {g k : Nat} {bs : Nat → Nat} {T : List PRule} (h : NewTo w g bs T k) (hb : Below w.heap.size w w') : NewTo w' g bs T k := ⟨fun j hj => (h.1 j hj).below hb, h.2⟩
theorem NewTo.put {w : World} {g n k B b : Nat} {bs : Nat → Nat} {T : List PRule} {t : ByteArray} {c : List Int} {p : Int} (h : NewTo w g bs T k) (hs : ∀ j, j < k → bs j < B) (hr : Room w g n) (hk : k < n) (hu : OwnInts w B (.slice (some ⟨b, 0, none⟩) c.length c.length) c) (hB : g < B) (hT : T.getD k noR = ⟨t, c, p⟩) :
    NewTo (((w.setCell ⟨g, k * 3, none⟩ (.string t)).setCell ⟨g, k * 3 + 1, none⟩ (.slice (some ⟨b, 0, none⟩) c.length c.length)).setCell ⟨g, k * 3 + 2, none⟩ (.int .i64 p)) g (fun j => if j = k then b else bs j) T (k + 1) := by
  have hbB : B ≤ b := (hu.lt b rfl).1
  have e1 : (fun j => if j = k then b else bs j) k = b := if_pos rfl
  have e2 : ∀ j, j ≠ k → (fun j => if j = k then b else bs j) j = bs j := fun j hj => if_neg hj
  refine ⟨fun j hj => ?_, fun i j hij hj => ?_⟩
  · by_cases hjk : j = k
    · subst hjk
      rw [hT, e1]
      exact ruleNew_put hr (by omega) hu hB
    · have h0 := h.1 j (by omega)
      rw [e2 j hjk]
      exact ((h0.set (by omega) _).set (by omega) _).set (by omega) _
  · by_cases hjk : j = k
    · have := hs i (by omega)
      subst hjk
      rw [e1, e2 i (by omega)]; omega
    · rw [e2 j hjk, e2 i (by omega)]
      exact h.2 i j hij (by omega)
theorem TableAt.of_new {w : World} {g n : Nat} {bs : Nat → Nat} {T : List PRule} (h : NewTo w g bs T n) (hn : T.length = n) (hm : n ≤ 9223372036854775807) : TableAt w (.slice (some ⟨g, 0, none⟩) n n) T := by
  refine ⟨_, n, by rw [hn], by omega, hm, .inr ⟨g, 0, rfl, fun i hi => ?_⟩⟩
  rw [Nat.zero_add]
  exact (h.1 i (by omega)).at
/-- a copied table -/
def TableMade (T : List PRule) (n : Nat) (w : World) (e : Ending) (w' : World) : Prop :=
  e = .returned (.slice (some ⟨w.heap.size, 0, none⟩) n n) ∧ (∃ bs, NewTo w' w.heap.size bs T n) ∧ Room w' w.heap.size n ∧ Below w.heap.size w w'
end Go.Proofs.Ythojahknocageaa


/- The exact law of ValidTable. -/
namespace Go.Proofs.Ythojahknocageaa
open Go.RowKit

theorem eqIntS_sameT (w : World) (u v : Value) (xs : List Int) (hx : IntsAt w u xs) (hy : IntsAt w v xs) :
    Calls Try.prog 21 #[u, v] w fun e w' => e = .returned (.bool true) ∧ Below w.heap.size w w' := by
  have := eqIntS_any w u v xs xs hx hy
  rw [decide_eq_true rfl] at this
  exact this
end Go.Proofs.Ythojahknocageaa


/- Whether a rule applies to a word at a place, in the program and in its model. -/
namespace Go.Proofs.Ythojahknocageaa
open Go.RowKit

/-- the rule applies to the word s at the index a -/
def App (r : PRule) (s : ByteArray) (a : Int) : Prop := 0 ≤ a ∧ a + r.t.size ≤ s.size ∧ s.extract a.toNat (a.toNat + r.t.size) = r.t ∧ PFin r.p a (a + r.t.size) s.size
instance (r : PRule) (s : ByteArray) (a : Int) : Decidable (App r s a) := inferInstanceAs (Decidable (_ ∧ _))
theorem pf_iff {p a t m : Int} (h1 : 0 ≤ a) (h2 : a < t) (h3 : t ≤ m) (h4 : m ≤ 16) : PF p a t m ↔ PFin p a t m := ⟨fun h => h.2.2.2.2, fun h => ⟨h1, h2, h3, h4, h⟩⟩

theorem i_PlaceFits_w (p f t m : Int) (b : Bool) (w : World) (h : Hid (decide (PF p f t m) = b)) :
    Calls Try.prog 90 #[.int .i64 p, .int .i64 f, .int .i64 t, .int .i64 m] w fun e w' => e = .returned (.bool b) ∧ w' = w := by
  have := i_PlaceFits p f t m w
  rw [h.out] at this
  exact this.mono fun _ _ ⟨h1, h2⟩ => ⟨h1, h2.symm⟩

set_option maxHeartbeats 2000000 in
theorem i_ruleApplies (w : World) (u : Value) (r : PRule) (s : ByteArray) (a : Int) (hx : IntsAt w u r.c) (hr : ValidR r) (h1 : 1 ≤ s.size) (h2 : s.size ≤ 16) (ha0 : -9223372036854775808 ≤ a) (ha1 : a ≤ 9223372036854775807) :
    Calls Try.prog 86 #[.agg #[.string r.t, u, .int .i64 r.p], .string s, .int .i64 a] w fun e w' => e = .returned (.bool (decide (App r s a))) ∧ Below w.heap.size w w' := by
  obtain ⟨t, zs, p⟩ := r
  simp only at hx ⊢
  obtain ⟨a2, cp2, rfl, _⟩ := hx
  have ht1 : 1 ≤ t.size := by have := hr.1.1; have := wd_size t; simp only at *; omega
  have ht2 : t.size ≤ 6 := by have := hr.1.2.1; have := wd_size t; simp only at *; omega
  clear hr
  obtain ⟨m, hm⟩ : ∃ m, t.size = m := ⟨_, rfl⟩
  obtain ⟨n, hn⟩ : ∃ n, s.size = n := ⟨_, rfl⟩
  have HM := Lib.hid hm
  have HN := Lib.hid hn
  have uw : IntKind.i64.wrap ((s.size : Int) - (t.size : Int)) = (s.size : Int) - (t.size : Int) := IntWalk.i64_in _ (by omega)
  rw [hm] at ht1 ht2
  rw [hn] at h1 h2
  clear hm hn
  by_cases c1 : a < 0
  · have d1 : decide (a < 0) = true := decide_eq_true c1
    have HO : Hid (¬ App ⟨t, zs, p⟩ s a) := fun h => by have := h.1; omega
    clear c1
    go_enter Try.func86, Try.ntmps86
    go_wp2
    go_ret
    exact ⟨ret_bool (decide_eq_false HO.out).symm, (Below.refl _ _).alloc (Nat.le_refl _) _⟩
  · have d1 : decide (a < 0) = false := decide_eq_false c1
    by_cases c2 : (s.size : Int) - (t.size : Int) < a
    · have d2 : decide ((s.size : Int) - (t.size : Int) < a) = true := decide_eq_true c2
      have HO : Hid (¬ App ⟨t, zs, p⟩ s a) := fun h => by have := h.2.1; simp only at this; omega
      clear c1 c2
      go_enter Try.func86, Try.ntmps86
      go_wp2
      go_ret
      exact ⟨ret_bool (decide_eq_false HO.out).symm, (Below.refl _ _).alloc (Nat.le_refl _) _⟩
    · have d2 : decide ((s.size : Int) - (t.size : Int) < a) = false := decide_eq_false c2
      obtain ⟨k, rfl⟩ : ∃ k : Nat, a = k := ⟨a.toNat, by omega⟩
      have hk : k + t.size ≤ s.size := by omega
      have b1 : (0 : Int) ≤ (k : Int) := by omega
      have b2 : (k : Int) + (t.size : Int) ≤ (s.size : Int) := by omega
      have b3 : (k : Int) ≤ (k : Int) + (t.size : Int) := by omega
      have u2 : IntKind.i64.wrap ((k : Int) + (t.size : Int)) = (k : Int) + (t.size : Int) := IntWalk.i64_in _ (by have := HM.out; have := HN.out; omega)
      have n1 : ((k : Int) + (t.size : Int)).toNat = k + t.size := by omega
      have n2 : ((k : Int)).toNat = k := by omega
      have HA : Hid (App ⟨t, zs, p⟩ s (k : Int) ↔ s.extract k (k + t.size) = t ∧ PF p k (k + t.size) s.size) := by
        have := HM.out
        have := HN.out
        unfold App
        simp only [n2]
        rw [pf_iff (by omega) (by omega) (by omega) (by omega)]
        exact ⟨fun h => h.2.2, fun h => ⟨by omega, by omega, h⟩⟩
      obtain ⟨b, hb⟩ : ∃ b, decide (PF p k (k + t.size) s.size) = b := ⟨_, rfl⟩
      have HB := Lib.hid hb
      clear hb c1 c2
      go_enter Try.func86, Try.ntmps86
      by_cases e : s.extract k (k + t.size) = t
      · have e3 : (s.extract k (k + t.size)).toList = t.toList := by rw [e]
        have HO : Hid (decide (App ⟨t, zs, p⟩ s (k : Int)) = b) := by
          show decide _ = b
          rw [← HB.out]
          exact decide_eq_decide.2 (HA.out.trans ⟨fun h => h.2, fun h => ⟨e, h⟩⟩)
        clear e
        go_wp2_with fail
        go_quiet ((go_at_call 90; exact Calls.quiet_of_same (i_PlaceFits_w _ _ _ _ b _ HB)))
        go_wp2
        go_ret
        exact ⟨ret_bool HO.out.symm, below_drewN ((Below.refl _ _).alloc (Nat.le_refl _) _) _⟩
      · have e3 := toList_nei e
        have HO : Hid (¬ App ⟨t, zs, p⟩ s (k : Int)) := fun h => e (HA.out.1 h).1
        have e5 : ((s.extract k (k + t.size)).toList == t.toList) = false := by simpa using e3
        clear e
        go_wp2_with fail
        go_quiet (fail)
        go_wp2
        go_ret
        exact ⟨ret_bool (decide_eq_false HO.out).symm, below_drewN ((Below.refl _ _).alloc (Nat.le_refl _) _) _⟩

theorem s_placeFits_w (p f t m : Int) (b : Bool) (w : World) (h0 : 0 ≤ p ∧ p ≤ 4) (h : Hid (decide (PFin p f t m) = b)) :
    Calls Try.prog 89 #[.int .i64 p, .int .i64 f, .int .i64 t, .int .i64 m] w fun e w' => e = .returned (.bool b) ∧ w' = w := by
  have := s_placeFits p f t m w h0
  rw [h.out] at this
  exact this.mono fun _ _ ⟨h1, h2⟩ => ⟨h1, h2.symm⟩

set_option maxHeartbeats 2000000 in
theorem s_applies (w : World) (u : Value) (r : PRule) (s : ByteArray) (k : Nat) (hx : IntsAt w u r.c) (hr : ValidR r) (hk : k ≤ 1000) :
    Calls Try.prog 83 #[.agg #[.string r.t, u, .int .i64 r.p], .string s, .int .i64 k] w fun e w' => e = .returned (.bool (decide (App r s k))) ∧ Below w.heap.size w w' := by
  obtain ⟨t, zs, p⟩ := r
  simp only at hx ⊢
  obtain ⟨a2, cp2, rfl, _⟩ := hx
  have ht2 : t.size ≤ 6 := by have := hr.1.2.1; have := wd_size t; simp only at *; omega
  have HP : Hid (0 ≤ p ∧ p ≤ 4) := hr.2.2.2
  clear hr
  have u2 : IntKind.i64.wrap ((k : Int) + (t.size : Int)) = (k : Int) + (t.size : Int) := IntWalk.i64_in _ (by omega)
  have n1 : ((k : Int) + (t.size : Int)).toNat = k + t.size := by omega
  have n2 : ((k : Int)).toNat = k := by omega
  have b1 : (0 : Int) ≤ (k : Int) := by omega
  have b3 : (k : Int) ≤ (k : Int) + (t.size : Int) := by omega
  have HA : Hid (App ⟨t, zs, p⟩ s (k : Int) ↔ (k : Int) + t.size ≤ s.size ∧ s.extract k (k + t.size) = t ∧ PFin p k (k + t.size) s.size) := by
    unfold App
    simp only [n2]
    exact ⟨fun h => h.2, fun h => ⟨by omega, h⟩⟩
  by_cases c1 : (k : Int) + (t.size : Int) ≤ (s.size : Int)
  · have d1 : decide ((k : Int) + (t.size : Int) ≤ (s.size : Int)) = true := decide_eq_true c1
    by_cases e : s.extract k (k + t.size) = t
    · obtain ⟨b, hb⟩ : ∃ b, decide (PFin p k (k + t.size) s.size) = b := ⟨_, rfl⟩
      have HB := Lib.hid hb
      have e3 : (s.extract k (k + t.size)).toList = t.toList := by rw [e]
      have HO : Hid (decide (App ⟨t, zs, p⟩ s (k : Int)) = b) := by
        show decide _ = b
        rw [← HB.out]
        exact decide_eq_decide.2 (HA.out.trans ⟨fun h => h.2.2, fun h => ⟨c1, e, h⟩⟩)
      clear e hb
      go_enter Try.func83, Try.ntmps83
      go_wp2_with fail
      go_quiet ((go_at_call 89; exact Calls.quiet_of_same (s_placeFits_w _ _ _ _ b _ HP.out HB)))
      go_wp2
      go_ret
      exact ⟨ret_bool HO.out.symm, below_drewN ((Below.refl _ _).alloc (Nat.le_refl _) _) _⟩
    · have e3 := toList_nei e
      have HO : Hid (¬ App ⟨t, zs, p⟩ s (k : Int)) := fun h => e (HA.out.1 h).2.1
      have e5 : ((s.extract k (k + t.size)).toList == t.toList) = false := by simpa using e3
      clear e
      go_enter Try.func83, Try.ntmps83
      go_wp2_with fail
      go_quiet (fail)
      go_wp2
      go_ret
      exact ⟨ret_bool (decide_eq_false HO.out).symm, below_drewN ((Below.refl _ _).alloc (Nat.le_refl _) _) _⟩
  · have d1 : decide ((k : Int) + (t.size : Int) ≤ (s.size : Int)) = false := decide_eq_false c1
    have HO : Hid (¬ App ⟨t, zs, p⟩ s (k : Int)) := fun h => c1 (HA.out.1 h).1
    clear c1
    go_enter Try.func83, Try.ntmps83
    go_wp2_with fail
    go_quiet (fail)
    go_wp2
    go_ret
    exact ⟨ret_bool (decide_eq_false HO.out).symm, below_drewN ((Below.refl _ _).alloc (Nat.le_refl _) _) _⟩
end Go.Proofs.Ythojahknocageaa


/- The rules that apply to a word at a place, in the program and in its model. -/
namespace Go.Proofs.Ythojahknocageaa
open Go.RowKit

/-- the indices of the first k rules that apply -/
def rulesTo (T : List PRule) (s : ByteArray) (a : Int) : Nat → List Int
  | 0 => []
  | k + 1 => rulesTo T s a k ++ (if App (T.getD k noR) s a then [(k : Int)] else [])
def rulesL (T : List PRule) (s : ByteArray) (a : Int) : List Int := rulesTo T s a T.length
theorem rulesTo_yes {T : List PRule} {s : ByteArray} {a : Int} {k : Nat} (h : App (T.getD k noR) s a) : rulesTo T s a (k + 1) = rulesTo T s a k ++ [(k : Int)] := by
  show _ ++ _ = _
  rw [if_pos h]
theorem rulesTo_no {T : List PRule} {s : ByteArray} {a : Int} {k : Nat} (h : ¬ App (T.getD k noR) s a) : rulesTo T s a (k + 1) = rulesTo T s a k := by
  show _ ++ _ = _
  rw [if_neg h, List.append_nil]
theorem rulesTo_le (T : List PRule) (s : ByteArray) (a : Int) (k : Nat) : (rulesTo T s a k).length ≤ k := by
  induction k with
  | zero => simp [rulesTo]
  | succ k ih =>
    show (rulesTo T s a k ++ _).length ≤ _
    rw [List.length_append]
    split <;> simp <;> omega
theorem rulesTo_out {T : List PRule} {s : ByteArray} {a : Int} (h : a < 0 ∨ (s.size : Int) ≤ a) (hv : ∀ i, i < T.length → ValidR (T.getD i noR)) : ∀ k, k ≤ T.length → rulesTo T s a k = [] := by
  intro k
  induction k with
  | zero => intro _; rfl
  | succ k ih =>
    intro hk
    rw [rulesTo_no, ih (by omega)]
    intro hA
    have h1 := hA.1
    have h2 := hA.2.1
    have h3 := (hv k (by omega)).1.1
    rw [wd_size] at h3
    omega
theorem i_ruleApplies_v (w : World) (u : Value) (t : ByteArray) (zs : List Int) (p : Int) (s : ByteArray) (a : Int) (b : Bool) (hx : IntsAt w u zs) (hr : Hid (ValidR ⟨t, zs, p⟩)) (h1 : 1 ≤ s.size) (h2 : s.size ≤ 16) (ha0 : -9223372036854775808 ≤ a) (ha1 : a ≤ 9223372036854775807) (hb : Hid (decide (App ⟨t, zs, p⟩ s a) = b)) :
    Calls Try.prog 86 #[.agg #[.string t, u, .int .i64 p], .string s, .int .i64 a] w fun e w' => e = .returned (.bool b) ∧ Below w.heap.size w w' := by
  have := i_ruleApplies w u ⟨t, zs, p⟩ s a hx hr.out h1 h2 ha0 ha1
  rw [hb.out] at this
  exact this
theorem s_applies_v (w : World) (u : Value) (t : ByteArray) (zs : List Int) (p : Int) (s : ByteArray) (k : Nat) (b : Bool) (hx : IntsAt w u zs) (hr : Hid (ValidR ⟨t, zs, p⟩)) (hk : k ≤ 1000) (hb : Hid (decide (App ⟨t, zs, p⟩ s (k : Int)) = b)) :
    Calls Try.prog 83 #[.agg #[.string t, u, .int .i64 p], .string s, .int .i64 k] w fun e w' => e = .returned (.bool b) ∧ Below w.heap.size w w' := by
  have := s_applies w u ⟨t, zs, p⟩ s k hx hr.out hk
  rw [hb.out] at this
  exact this

/-- a list that the call made -/
def ListMade (L : List Int) (w : World) (e : Ending) (w' : World) : Prop := ∃ v, e = .returned v ∧ OwnInts w' w.heap.size v L ∧ Below w.heap.size w w' ∧ ∃ a n c, v = .slice a n c
theorem OwnInts.isSlice' {w : World} {base : Nat} {v : Value} {zs : List Int} (h : OwnInts w base v zs) : ∃ a n c, v = .slice a n c := by
  obtain ⟨a, c, rfl, _⟩ := h.at; exact ⟨a, _, c, rfl⟩

set_option maxHeartbeats 2000000 in
theorem i_rulesAt (w : World) (v : Value) (T : List PRule) (s : ByteArray) (a : Int) (hx : TableAt w v T) (hv : Hid (ValidTb T)) (h1 : 1 ≤ s.size) (h2 : s.size ≤ 16) (ha0 : -9223372036854775808 ≤ a) (ha1 : a ≤ 9223372036854775807) :
    Calls Try.prog 78 #[v, .string s, .int .i64 a] w fun e w' => ListMade (rulesL T s a) w e w' := by
  obtain ⟨i0, hi, hz0, hz1, hz2⟩ := info_parts infoInt
  obtain ⟨aa, cp, rfl, x1, x2, x3⟩ := hx
  obtain ⟨n, hn⟩ : ∃ n, T.length = n := ⟨_, rfl⟩
  rw [hn] at x1 x3 ⊢
  have hbig : n ≤ 16 := by have := hv.out.1; omega
  have HN := Lib.hid hn
  clear hn
  go_enter Try.func78, Try.ntmps78
  go_wp2
  go_loopw [7, 12] (fun o i wr => ∃ k : Nat, k ≤ n ∧ i = .int .i64 k ∧ OwnInts wr w.heap.size o (rulesTo T s a k) ∧ Below w.heap.size w wr) (fun _ i _ => n - (intOf i).toNat)
  case atStart => exact ⟨0, Nat.zero_le _, rfl, OwnInts.nil _ _, Below.refl _ _⟩
  case round =>
    obtain ⟨k, hk, rfl, hO, hb1⟩ := hrel
    have hsz := hb1.size
    by_cases hlt : k < n
    · rcases x3 with rfl | ⟨g, off, rfl, x3⟩
      · exact absurd HN.out (by simp; omega)
      obtain ⟨r, hr⟩ : ∃ r, T.getD k noR = r := ⟨_, rfl⟩
      have hra := x3 k hlt
      have hvr := hv.out.2.1 k (by rw [HN.out]; exact hlt)
      rw [hr] at hra hvr
      have HR := Lib.hid hr
      clear hr x3
      obtain ⟨t, zs, q⟩ := r
      have HVR := Lib.hid hvr
      obtain ⟨c0, ⟨u, c1, hu⟩, c2⟩ := hra
      have HU : Hid (IntsAt w u zs) := hu
      obtain ⟨a2, cp2, rfl, _⟩ := hu
      simp only at c0 c1 c2
      have c0 := (hb1.cell (World.block_lt_of_cell? w _ c0)).trans c0
      have c1 := (hb1.cell (World.block_lt_of_cell? w _ c1)).trans c1
      have c2 := (hb1.cell (World.block_lt_of_cell? w _ c2)).trans c2
      have hBW := hb1.alloc hsz (.cells #[.string t, .slice a2 zs.length cp2, .int .i64 q] 56)
      have hOW : OwnInts (wr.alloc (.cells #[.string t, .slice a2 zs.length cp2, .int .i64 q] 56)) w.heap.size _ _ := hO.alloc (.cells #[.string t, .slice a2 zs.length cp2, .int .i64 q] 56)
      go_wp2_with fail
      generalize wr.alloc (.cells #[.string t, .slice a2 zs.length cp2, .int .i64 q] 56) = W1 at hBW hOW ⊢
      clear c0 c1 c2
      have hU1 := HU.out.below hBW
      have hszW := hBW.size
      by_cases hA : App ⟨t, zs, q⟩ s a
      · have HA := Lib.hid (decide_eq_true hA)
        have HL := Lib.hid (rulesTo_yes (T := T) (s := s) (a := a) (k := k) (by rw [HR.out]; exact hA))
        have hle := rulesTo_le T s a k
        clear hA
        refine (i_ruleApplies_v W1 _ t zs q s a true hU1 HVR h1 h2 ha0 ha1 HA).mono ?_
        rintro e w2 ⟨rfl, hb2⟩
        have hB2 := hBW.trans (hb2.mono hszW)
        have hO2 := hOW.below hb2
        have hs2 := hB2.size
        clear hO hOW hBW
        obtain ⟨L, hL⟩ : ∃ L, rulesTo T s a k = L := ⟨_, rfl⟩
        rw [hL] at hO2 hle HL
        clear hL
        obtain ⟨a3, n3, c3, rfl⟩ := hO2.isSlice'
        go_wp2_with (at_builtin; refine wpList_append_own _ rfl _ _ 23 rfl w.heap.size 3 i0 (.int .i64 0) 1 8 Try.underlying23 hi hz0 hz1 hz2 rfl (by decide) _ _ _ rfl (hO2.alloc _) ⟨w2.heap.size, 0, none⟩ 1 1 [.int .i64 (k : Int)] rfl rfl new_one one_cell (by unfold maxLen; omega) (by omega) (by simp; omega) ?_)
        intro v' w3 hown' hgrow _
        have hO3 := OwnInts.snoc hown'
        have hB3 := below_append hB2 hs2 hO2 hgrow
        have HL3 : Hid (OwnInts w3 w.heap.size v' (rulesTo T s a (k + 1))) := by show OwnInts _ _ _ _; rw [HL.out]; exact hO3
        clear hown' hgrow hO2 hO3
        go_wp2
        go_roundw
        case rel => exact ⟨k + 1, by omega, by go_num, HL3.out, hB3⟩
        case measure => simp [intOf]; omega
      · have HA := Lib.hid (decide_eq_false hA)
        have HL := Lib.hid (rulesTo_no (T := T) (s := s) (a := a) (k := k) (by rw [HR.out]; exact hA))
        clear hA
        refine (i_ruleApplies_v W1 _ t zs q s a false hU1 HVR h1 h2 ha0 ha1 HA).mono ?_
        rintro e w2 ⟨rfl, hb2⟩
        have hB2 := hBW.trans (hb2.mono hszW)
        have hO2 := hOW.below hb2
        rw [← HL.out] at hO2
        have HO2 := Lib.hid hO2
        clear hO hOW hBW hO2
        go_wp2
        go_roundw
        case rel => exact ⟨k + 1, by omega, by go_num, HO2.out, hB2⟩
        case measure => simp [intOf]; omega
    · go_wp2
      go_ret
      obtain rfl : k = n := by omega
      exact ⟨_, rfl, by rw [rulesL, HN.out]; exact hO, hb1, hO.isSlice'⟩

theorem bool_iff_false {P : Prop} (h : ¬ P) : false = true ↔ P := ⟨fun e => absurd e (by simp), fun e => absurd e h⟩
end Go.Proofs.Ythojahknocageaa


/- The rules that apply to a word at a place, in the model. -/
namespace Go.Proofs.Ythojahknocageaa
open Go.RowKit

theorem s_validWord (s : ByteArray) (w : World) (hs : s.size ≤ 9223372036854775807) :
    Calls Try.prog 39 #[.string s] w fun e w' => e = .returned (.bool (decide (WordB 16 s.data.toList))) ∧ w = w' := by
  have hl := wd_size s
  obtain ⟨b, hb⟩ : ∃ b, decide (SmallB s.data.toList) = b := ⟨_, rfl⟩
  have HW : Hid (∀ wx, Calls Try.prog 53 #[.string s] wx fun e w' => e = .returned (.bool b) ∧ wx = w') := fun wx => by
    have := s_isWord s wx hs
    rw [hb] at this
    exact this
  have HV : Hid (WordB 16 s.data.toList ↔ b = true ∧ s.size ≤ 16) := by
    rw [← hb]
    exact ⟨fun h => ⟨decide_eq_true ⟨h.1, h.2.2⟩, by have := h.2.1; omega⟩, fun h => by
      have h1 : SmallB s.data.toList := of_decide_eq_true h.1
      exact ⟨h1.1, by omega, h1.2⟩⟩
  clear hb hl
  cases b with
  | false =>
    have HO : Hid (¬ WordB 16 s.data.toList) := fun h => absurd (HV.out.1 h).1 (by simp)
    go_enter Try.func39, Try.ntmps39
    go_wp2_with fail
    refine (HW.out _).mono ?_
    rintro e w' ⟨rfl, rfl⟩
    go_wp2
    go_ret
    exact ⟨ret_bool (decide_eq_false HO.out).symm, rfl⟩
  | true =>
    by_cases c : s.size ≤ 16
    · have HO : Hid (WordB 16 s.data.toList) := HV.out.2 ⟨rfl, c⟩
      have d1 : decide ((s.size : Int) ≤ 16) = true := decide_eq_true (by omega)
      go_enter Try.func39, Try.ntmps39
      go_wp2_with fail
      refine (HW.out _).mono ?_
      rintro e w' ⟨rfl, rfl⟩
      go_wp2
      go_ret
      exact ⟨ret_bool (decide_eq_true HO.out).symm, rfl⟩
    · have HO : Hid (¬ WordB 16 s.data.toList) := fun h => c (HV.out.1 h).2
      have d1 : decide ((s.size : Int) ≤ 16) = false := decide_eq_false (by omega)
      go_enter Try.func39, Try.ntmps39
      go_wp2_with fail
      refine (HW.out _).mono ?_
      rintro e w' ⟨rfl, rfl⟩
      go_wp2
      go_ret
      exact ⟨ret_bool (decide_eq_false HO.out).symm, rfl⟩

end Go.Proofs.Ythojahknocageaa


/- Marks written into a copied table. -/
namespace Go.Proofs.Ythojahknocageaa
open Go.RowKit

set_option maxHeartbeats 1000000 in
theorem markIntS_g (w : World) (base b n cap : Nat) (zs : List Int) (s : Int) (hx : OwnInts w base (.slice (some ⟨b, 0, none⟩) n cap) zs) (hn : Hid (zs.length = n)) (h0 : 0 ≤ s) (h1 : s ≤ 1000000000000000000) (hl : n ≤ 4000000000000000000) :
    Calls Try.prog 22 #[.slice (some ⟨b, 0, none⟩) n cap, .int .i64 s] w fun e w' => e = .returned (.int .i64 (s + n)) ∧ w.grownBy w' (some b) := by
  have hO0 : OwnInts w base (.slice (some ⟨b, 0, none⟩) n cap) (marked zs s 0) := by rw [marked_zero]; exact hx
  clear hx
  go_enter Try.func22, Try.ntmps22
  go_wp2
  go_loopw [1, 5] (fun m i wr => ∃ k : Nat, k ≤ n ∧ i = .int .i64 k ∧ m = .int .i64 (s + k) ∧ OwnInts wr base (.slice (some ⟨b, 0, none⟩) n cap) (marked zs s k) ∧ w.grownBy wr (some b)) (fun _ i _ => n - (intOf i).toNat)
  case atStart => exact ⟨0, Nat.zero_le _, rfl, by simp, hO0, ⟨rfl, rfl, rfl, Nat.le_refl _, fun _ _ _ => rfl⟩⟩
  case round =>
    clear hO0
    obtain ⟨k, hk, rfl, rfl, hO, hB⟩ := hrel
    by_cases hlt : k < n
    · have hml : (marked zs s k).length = n := by rw [marked_length zs s k (by have := hn.out; omega), hn.out]
      have hO2 := hO.store hml k (s + k)
      rw [marked_set zs s k (by have := hn.out; omega)] at hO2
      have hB2 : w.grownBy (wr.setCell ⟨b, k, none⟩ (.int .i64 (s + k))) (some b) := by
        have h := (hO.stored' hml k (.int .i64 (s + k)))
        exact ⟨h.os.trans hB.os, h.tape.trans hB.tape, h.output.trans hB.output, Nat.le_trans hB.size h.size, fun i hi hne => (h.block i (Nat.lt_of_lt_of_le hi hB.size) hne).trans (hB.block i hi hne)⟩
      have hc := hO.cell hml hlt
      have hf := hO.free hml k
      clear hO hB hml
      go_wp2
      go_roundw
      case rel => exact ⟨k + 1, by omega, by go_num, by go_num, hO2, hB2⟩
      case measure => simp [intOf]; omega
    · go_wp2
      go_ret
      obtain rfl : k = n := by omega
      exact ⟨rfl, hB⟩

/-- only blocks from g on, below B, have turned, of those that were there -/
def Mid (g B : Nat) (w w' : World) : Prop := w'.os = w.os ∧ w'.tape = w.tape ∧ w'.output = w.output ∧ w.heap.size ≤ w'.heap.size ∧ ∀ k, k < w.heap.size → (k < g ∨ B ≤ k) → w'.heap[k]? = w.heap[k]?
theorem Mid.refl (g B : Nat) (w : World) : Mid g B w w := ⟨rfl, rfl, rfl, Nat.le_refl _, fun _ _ _ => rfl⟩
theorem Mid.trans {g B : Nat} {a b c : World} (h : Mid g B a b) (k : Mid g B b c) : Mid g B a c :=
  ⟨k.1.trans h.1, k.2.1.trans h.2.1, k.2.2.1.trans h.2.2.1, Nat.le_trans h.2.2.2.1 k.2.2.2.1, fun i hi hne => (k.2.2.2.2 i (Nat.lt_of_lt_of_le hi h.2.2.2.1) hne).trans (h.2.2.2.2 i hi hne)⟩
theorem Mid.of_below {g B : Nat} {a b : World} (h : Below a.heap.size a b) : Mid g B a b := ⟨h.os, h.tape, h.output, h.size, fun k hk _ => h.block k hk⟩
theorem Mid.of_grown {g B k : Nat} {a b : World} (h : a.grownBy b (some k)) (h1 : g ≤ k) (h2 : k < B) : Mid g B a b := ⟨h.os, h.tape, h.output, h.size, fun i hi hne => h.block i hi (by simp; omega)⟩
theorem Mid.of_set {g B : Nat} (a : World) (k o : Nat) (u : Value) (h1 : g ≤ k) (h2 : k < B) : Mid g B a (a.setCell ⟨k, o, none⟩ u) :=
  ⟨rfl, rfl, rfl, by simp [World.setCell], fun i _ hne => Below.heap_setCell a _ u i (by show i ≠ k; omega)⟩

end Go.Proofs.Ythojahknocageaa


/- The exact law of RulesAt. -/
namespace Go.Proofs.Ythojahknocageaa
open Go.RowKit

theorem own_of_block {w w' : World} {base : Nat} {v : Value} {zs : List Int} (h : OwnInts w base v zs) (hk : ∀ k, v.ownBlock = some k → w'.heap[k]? = w.heap[k]?) : OwnInts w' base v zs := by
  rcases h with ⟨h0, ⟨hv, hn⟩ | ⟨g, cap, cur, hv, hb, hg, h1, h2, h3, h4⟩⟩
  · exact ⟨h0, .inl ⟨hv, hn⟩⟩
  · exact ⟨h0, .inr ⟨g, cap, cur, hv, hb, (hk g (by rw [hv]; rfl)).trans hg, h1, h2, h3, h4⟩⟩
theorem Mid.below {g B C : Nat} {w a b : World} (h : Below C w a) (k : Mid g B a b) (hC : C ≤ g) (hs : C ≤ a.heap.size) : Below C w b :=
  ⟨k.1.trans h.os, k.2.1.trans h.tape, k.2.2.1.trans h.output, Nat.le_trans h.size k.2.2.2.1, fun i hi => (k.2.2.2.2 i (by omega) (.inl (by omega))).trans (h.block i hi)⟩
theorem OwnInts.mid {g B base : Nat} {w w' : World} {v : Value} {zs : List Int} (h : OwnInts w base v zs) (k : Mid g B w w') (hk : ∀ b, v.ownBlock = some b → b < g ∨ B ≤ b) : OwnInts w' base v zs :=
  own_of_block h fun b hb => k.2.2.2.2 b (h.lt b hb).2 (hk b hb)

end Go.Proofs.Ythojahknocageaa


/- Pieces: what it means that a slice reads as a list of pieces; a copy; whether two are the same. -/
namespace Go.Proofs.Ythojahknocageaa
open Go.RowKit Go.ChangeShapes Go.WideShapes

/-- a piece: its rule, where it begins, where it ends -/
structure PPiece where
  r : Int
  f : Int
  t : Int
def noP : PPiece := ⟨0, 0, 0⟩
instance : Inhabited PPiece := ⟨noP⟩
def PieceAt (w : World) (g o : Nat) (p : PPiece) : Prop :=
  w.cell? ⟨g, o, none⟩ = some (.int .i64 p.r) ∧ w.cell? ⟨g, o + 1, none⟩ = some (.int .i64 p.f) ∧ w.cell? ⟨g, o + 2, none⟩ = some (.int .i64 p.t)
/-- the slice value v reads as the pieces P -/
def PiecesAt (w : World) (v : Value) (P : List PPiece) : Prop :=
  ∃ a cap, v = .slice a P.length cap ∧ P.length ≤ cap ∧ cap ≤ 9223372036854775807 ∧
    (P = [] ∨ ∃ g off, a = some ⟨g, off, none⟩ ∧ ∀ i, i < P.length → PieceAt w g (off + i * 3) (P.getD i noP))
theorem PieceAt.below {w w' : World} {g o : Nat} {p : PPiece} (h : PieceAt w g o p) (hb : Below w.heap.size w w') : PieceAt w' g o p := by
  obtain ⟨h1, h2, h3⟩ := h
  exact ⟨(hb.cell (World.block_lt_of_cell? w _ h1)).trans h1, (hb.cell (World.block_lt_of_cell? w _ h2)).trans h2, (hb.cell (World.block_lt_of_cell? w _ h3)).trans h3⟩
theorem PiecesAt.below {w w' : World} {v : Value} {P : List PPiece} (h : PiecesAt w v P) (hb : Below w.heap.size w w') : PiecesAt w' v P := by
  obtain ⟨a, cap, h1, h2, h3, h4⟩ := h
  refine ⟨a, cap, h1, h2, h3, ?_⟩
  rcases h4 with h4 | ⟨g, off, h4, h5⟩
  · exact .inl h4
  · exact .inr ⟨g, off, h4, fun i hi => (h5 i hi).below hb⟩
def PieceFits (p : PPiece) : Prop := (-9223372036854775808 ≤ p.r ∧ p.r ≤ 9223372036854775807) ∧ (-9223372036854775808 ≤ p.f ∧ p.f ≤ 9223372036854775807) ∧ -9223372036854775808 ≤ p.t ∧ p.t ≤ 9223372036854775807
def PiecesFit (P : List PPiece) : Prop := ∀ p ∈ P, PieceFits p
theorem PiecesFit.at {P : List PPiece} (h : PiecesFit P) (k : Nat) : PieceFits (P.getD k noP) := by
  rw [List.getD_eq_getElem?_getD]
  by_cases hk : k < P.length
  · rw [List.getElem?_eq_getElem hk, Option.getD_some]; exact h _ (List.getElem_mem _)
  · rw [List.getElem?_eq_none (by omega), Option.getD_none]
    simp [PieceFits, noP]
section SXPc
variable {H : Type} {enc : TypeId × Value → H} {W : World} {base : Nat} {spare : Nat → Bool} {held : Bool}
end SXPc

theorem infoPiece : (Try.prog.info? 67).map (fun i => (i.zero, i.size, i.bytes)) = some (some (.agg #[.int .i64 0, .int .i64 0, .int .i64 0]), 3, 24) := by kernel_rfl
theorem PieceAt.set {w : World} {g o : Nat} {p : PPiece} (h : PieceAt w g o p) {o' : Nat} (ho : o' < o ∨ o + 2 < o') (v : Value) : PieceAt (w.setCell ⟨g, o', none⟩ v) g o p := by
  obtain ⟨h1, h2, h3⟩ := h
  refine ⟨?_, ?_, ?_⟩
  · rw [World.cell?_setCell_other _ _ _ _ (fun e => by injection e; omega)]; exact h1
  · rw [World.cell?_setCell_other _ _ _ _ (fun e => by injection e; omega)]; exact h2
  · rw [World.cell?_setCell_other _ _ _ _ (fun e => by injection e; omega)]; exact h3
theorem piece_put {w : World} {g n o : Nat} {r f t : Int} (h : Room w g n) (ho : o + 2 < n * 3) :
    PieceAt (((w.setCell ⟨g, o, none⟩ (.int .i64 r)).setCell ⟨g, o + 1, none⟩ (.int .i64 f)).setCell ⟨g, o + 2, none⟩ (.int .i64 t)) g o ⟨r, f, t⟩ := by
  have r1 := h.set o (.int .i64 r)
  have r2 := r1.set (o + 1) (.int .i64 f)
  obtain ⟨u0, h0⟩ := h.1 o (by omega)
  obtain ⟨u1, h1⟩ := r1.1 (o + 1) (by omega)
  obtain ⟨u2, h2⟩ := r2.1 (o + 2) (by omega)
  refine ⟨?_, ?_, World.cell?_setCell_same _ _ _ h2⟩
  · rw [World.cell?_setCell_other _ _ _ _ (by simp), World.cell?_setCell_other _ _ _ _ (by simp)]
    exact World.cell?_setCell_same _ _ _ h0
  · rw [World.cell?_setCell_other _ _ _ _ (by simp)]
    exact World.cell?_setCell_same _ _ _ h1
/-- the first k pieces of P lie in block g -/
def PcTo (w : World) (g : Nat) (P : List PPiece) (k : Nat) : Prop := ∀ j, j < k → PieceAt w g (j * 3) (P.getD j noP)
theorem PcTo.zero (w : World) (g : Nat) (P : List PPiece) : PcTo w g P 0 := fun i h => absurd h (by omega)
theorem PcTo.below {w w' : World} {g k : Nat} {P : List PPiece} (h : PcTo w g P k) (hb : Below w.heap.size w w') : PcTo w' g P k := fun j hj => (h j hj).below hb
theorem PcTo.put {w : World} {g n k : Nat} {P : List PPiece} {r f t : Int} (h : PcTo w g P k) (hr : Room w g n) (hk : k < n) (hT : P.getD k noP = ⟨r, f, t⟩) :
    PcTo (((w.setCell ⟨g, k * 3, none⟩ (.int .i64 r)).setCell ⟨g, k * 3 + 1, none⟩ (.int .i64 f)).setCell ⟨g, k * 3 + 2, none⟩ (.int .i64 t)) g P (k + 1) := fun j hj => by
  by_cases hjk : j = k
  · subst hjk
    rw [hT]
    exact piece_put hr (by omega)
  · have h0 := h j (by omega)
    exact ((h0.set (by omega) _).set (by omega) _).set (by omega) _
theorem PiecesAt.of_new {w : World} {g n : Nat} {P : List PPiece} (h : PcTo w g P n) (hn : P.length = n) (hm : n ≤ 9223372036854775807) : PiecesAt w (.slice (some ⟨g, 0, none⟩) n n) P := by
  refine ⟨_, n, by rw [hn], by omega, hm, .inr ⟨g, 0, rfl, fun i hi => ?_⟩⟩
  rw [Nat.zero_add]
  exact h i (by omega)

/-- a copied list of pieces -/
def PcMade (P : List PPiece) (n : Nat) (w : World) (e : Ending) (w' : World) : Prop :=
  e = .returned (.slice (some ⟨w.heap.size, 0, none⟩) n n) ∧ PcTo w' w.heap.size P n ∧ Room w' w.heap.size n ∧ Below w.heap.size w w'
end Go.Proofs.Ythojahknocageaa

