
/- leastCosts, ProofCost of the program. -/
import Derived.Test.YtekchmbbafjmmaaPdf
import Derived.Deep.RegionHeld3
namespace Go.Proofs.Ytekchmbbafjmmaa
open Go.RowKit

/-- what a double loop from the end has written so far -/
def dnTo (f : Nat → Nat → Int) (k q : Nat) : Nat → Nat → Int := fun y x => if k ≤ y ∨ (y + 1 = k ∧ q ≤ x) then f y x else 0
theorem dn_none {f : Nat → Nat → Int} {h m : Nat} : gridOf h m (dnTo f h m) = gridOf h m fun _ _ => 0 := by
  refine gridOf_congr fun y x hy hx => ?_
  unfold dnTo; rw [if_neg (by omega)]
theorem dn_row {f : Nat → Nat → Int} {h m y : Nat} : gridOf h m (dnTo f (y + 1) 0) = gridOf h m (dnTo f y m) := by
  refine gridOf_congr fun i j hi hj => ?_
  unfold dnTo
  by_cases h1 : y ≤ i
  · rw [if_pos (by omega), if_pos (by omega)]
  · rw [if_neg (by omega), if_neg (by omega)]
theorem dn_all {f : Nat → Nat → Int} {h m : Nat} : gridOf h m (dnTo f 0 m) = gridOf h m f := by
  refine gridOf_congr fun i j hi hj => ?_
  unfold dnTo; rw [if_pos (by omega)]
theorem dn_upd {f : Nat → Nat → Int} {h m y x : Nat} : gridOf h m (upd (dnTo f (y + 1) (x + 1)) y x (f y x)) = gridOf h m (dnTo f (y + 1) x) := by
  refine gridOf_congr fun i j hi hj => ?_
  unfold upd dnTo
  by_cases h1 : i = y ∧ j = x
  · obtain ⟨rfl, rfl⟩ := h1
    rw [if_pos ⟨rfl, rfl⟩, if_pos (by omega)]
  · rw [if_neg h1]
    by_cases h2 : y + 1 ≤ i ∨ (i + 1 = y + 1 ∧ x + 1 ≤ j)
    · rw [if_pos h2, if_pos (by omega)]
    · rw [if_neg h2, if_neg (by omega)]
/-- the rows of a picture lie elsewhere than the numbers -/
theorem OwnLL.ne {w : World} {base top n c : Nat} {a : Option Addr} {L : List (List Int)} (h : OwnLL w base top (.slice a n c) L) {i : Nat} (hi : i < n) {g b d m : Nat} (ha : a = some ⟨g, 0, none⟩) (hcl : w.cell? ⟨g, i, none⟩ = some (.slice (some ⟨b, 0, none⟩) m d)) : g ≠ b := by
  obtain ⟨k0, kv, us, B, C, k1, k2, k3⟩ := h
  have hc := k1
  rcases k1.2 with ⟨hv, hn⟩ | ⟨g', cap, cur, hv, hgb, hgg, _⟩
  · injection hv with _ e _; omega
  · injection hv with e1 e2 e3
    subst e1 e2 e3
    injection ha with ha
    injection ha with ha _ _
    subst ha
    obtain ⟨k4, k5, k6⟩ := k2 i hi
    have := hc.cells (g := g') (by simp [Value.ownBlock]) i _ k4
    rw [show (⟨g', 0, none⟩ : Addr).add i = ⟨g', 0 + i, none⟩ from by unfold Addr.add; split <;> simp_all, Nat.zero_add, hcl] at this
    injection this with this
    injection this with this _ _
    injection this with this
    injection this with this _ _
    intro e
    obtain ⟨_, cur', h5⟩ := k5.typ
    rw [← this, ← e, hgg] at h5
    injection h5 with h5
    injection h5 with _ h5 _
    exact absurd h5 (by decide)
theorem cell_setO {w : World} {g y b x : Nat} {v u : Value} (h : w.cell? ⟨g, y, none⟩ = some v) (hne : g ≠ b) : (w.setCell ⟨b, x, none⟩ u).cell? ⟨g, y, none⟩ = some v :=
  (World.cell?_of_block (a := ⟨g, y, none⟩) (heap_setCell_other w ⟨b, x, none⟩ g u (by simpa using hne))).trans h
set_option maxHeartbeats 4000000 in
theorem i_leastCosts (w : World) (u v : Value) (A B : List Int) (hA : IntsAt w u A) (hB : IntsAt w v B) (ha30 : A.length ≤ 30) (hb30 : B.length ≤ 30) (hcA : ∀ z ∈ A, Cl z) (hcB : ∀ z ∈ B, Cl z) :
    Calls Try.prog 60 #[u, v] w fun e w' => PlOut (gridOf (A.length + 1) (B.length + 1) (dF A B)) w e w' := by
  have HA := keptI hA
  have HB := keptI hB
  have HCA := keptI hcA
  have HCB := keptI hcB
  obtain ⟨a, n, ca, rfl, hn, _, _, _⟩ := hA.partsI
  obtain ⟨b, m, cb, rfl, hm, _, _, _⟩ := hB.partsI
  have HN := Lib.hid hn
  have HM := Lib.hid hm
  rw [hn] at ha30
  rw [hm] at hb30
  obtain ⟨n1, hn1⟩ : ∃ n1, n + 1 = n1 := ⟨_, rfl⟩
  obtain ⟨m1, hm1⟩ : ∃ m1, m + 1 = m1 := ⟨_, rfl⟩
  obtain ⟨f, hf⟩ : ∃ f, dF A B = f := ⟨_, rfl⟩
  have HF := Lib.hid hf
  have HN1 := Lib.hid hn1
  have HM1 := Lib.hid hm1
  rw [hn, hm, hn1, hm1, hf]
  have u1 : IntKind.i64.wrap ((n : Int) + 1) = (n1 : Int) := by rw [show ((n : Int) + 1) = (n1 : Int) from by omega]; exact IntWalk.i64_in _ (by omega)
  have u2 : IntKind.i64.wrap ((m : Int) + 1) = (m1 : Int) := by rw [show ((m : Int) + 1) = (m1 : Int) from by omega]; exact IntWalk.i64_in _ (by omega)
  have bn1 : 1 ≤ n1 ∧ n1 ≤ 31 := by omega
  have bm1 : 1 ≤ m1 ∧ m1 ≤ 31 := by omega
  clear hA hB hcA hcB hn hm hn1 hm1 hf
  go_enter Try.func60, Try.ntmps60
  go_wp2_with fail
  refine (i_zeroBlock n1 m1 w (by omega) (by omega)).mono ?_
  rintro e w1 ⟨a1, n2, c1, rfl, hO1, hb1⟩
  rw [← dn_none (f := f)] at hO1
  obtain ⟨hn2, g1, _, _, ha1, _⟩ := hO1.dot (y := 0) (x := 0) (by omega) (by omega)
  obtain rfl : n2 = n1 := hn2
  subst ha1
  have HO1 := keptI hO1
  have HB1 := keptI hb1
  have hs1 := hb1.size
  clear hO1 hb1 u1 u2
  go_wp2
  go_loopw [6] (fun i wr => ∃ (k : Nat) (ii : Int), k ≤ n2 ∧ i = .int .i64 ii ∧ Hid (ii = (k : Int) - 1) ∧ OwnLL wr w.heap.size w1.heap.size (.slice (some ⟨g1, 0, none⟩) n2 c1) (gridOf n2 m1 (dnTo f k m1)) ∧ Below w.heap.size w wr) (fun i _ => (intOf i + 1).toNat)
  case atStart => exact ⟨n2, n, Nat.le_refl _, rfl, by show _ = _; have := HN1.out; omega, HO1.out, HB1.out⟩
  case round =>
    clear HO1 HB1
    obtain ⟨k, ii, hk, rfl, hii, hO, hB⟩ := hrel
    rename World => wo
    have hsz := hB.size
    have HO := keptI hO
    have HBo := keptI hB
    clear hO hB
    by_cases hk0 : k = 0
    · subst hk0
      have d0 : decide (0 ≤ ii) = false := decide_eq_false (by have := hii.out; omega)
      go_wp2
      go_ret
      exact ⟨_, _, _, rfl, by have h9 := HO.out; rw [dn_all] at h9; exact h9.top h9.1 (Nat.le_refl _), HBo.out⟩
    · obtain ⟨y, rfl⟩ : ∃ y, k = y + 1 := ⟨k - 1, by omega⟩
      obtain rfl : ii = (y : Int) := by have := hii.out; omega
      clear hii
      go_wp2
      go_loopw [7] (fun j wx => ∃ (q : Nat) (jj : Int), q ≤ m1 ∧ j = .int .i64 jj ∧ Hid (jj = (q : Int) - 1) ∧ OwnLL wx w.heap.size w1.heap.size (.slice (some ⟨g1, 0, none⟩) n2 c1) (gridOf n2 m1 (dnTo f (y + 1) q)) ∧ Below w.heap.size w wx) (fun j _ => (intOf j + 1).toNat)
      case atStart => exact ⟨m1, m, Nat.le_refl _, rfl, by show _ = _; have := HM1.out; omega, HO.out, HBo.out⟩
      case round =>
        clear HO HBo
        obtain ⟨q, jj, hq, rfl, hjj, hO, hB⟩ := hrel
        have HO := keptI hO
        have HBx := keptI hB
        have hszr := hB.size
        by_cases hq0 : q = 0
        · subst hq0
          have d0 : decide (0 ≤ jj) = false := decide_eq_false (by have := hjj.out; omega)
          clear hO hB
          go_wp2
          go_roundw
          case rel => exact ⟨y, (y : Int) - 1, by omega, by go_num, rfl, by have h9 := HO.out; rw [dn_row] at h9; exact h9, HBx.out⟩
          case measure => simp [intOf]
        · obtain ⟨x, rfl⟩ : ∃ x, q = x + 1 := ⟨q - 1, by omega⟩
          obtain rfl : jj = (x : Int) := by have := hjj.out; omega
          clear hjj
          have hy : y < n2 := by omega
          have hx : x < m1 := by omega
          obtain ⟨_, hp⟩ := hO.pic (by omega) (by omega)
          obtain ⟨V, hV⟩ : ∃ V, f y x = V := ⟨_, rfl⟩
          have HLC : Hid (Calls Try.prog 75 #[.slice a n ca, .slice b m cb, .int .i64 (y : Int), .int .i64 (x : Int), .slice (some ⟨g1, 0, none⟩) n2 c1] wr.drew fun e w' => KInt V wr.drew e w') := by
            have h9 := i_leastCostAt wr.drew _ _ A B _ n2 c1 m1 (dnTo f (y + 1) (x + 1)) y x ((HA.out.below hB).below (Below.refl _ _).drew) ((HB.out.below hB).below (Below.refl _ _).drew) (hp.below (Below.refl _ _).drew) (by have := HN.out; have := HN1.out; omega) (by have := HM.out; have := HM1.out; omega) (by have := HN.out; have := HN1.out; omega) (by have := HM.out; have := HM1.out; omega) (by have := HN.out; omega) (by have := HM.out; omega) HCA.out HCB.out (fun _ _ => by
              rw [HF.out]
              unfold dnTo
              exact ⟨by rw [if_pos (by omega)], by rw [if_pos (by omega)], by rw [if_pos (by omega)]⟩)
            rw [HF.out, hV] at h9
            exact h9
          obtain ⟨_, g2, b2, d2, e2, hb1, hb2, k1, k2, k3, k4, k5, kset⟩ := hO.dot hy hx
          injection e2 with e2
          injection e2 with e2 _
          subst e2
          have hall : ∀ wy, Below wr.heap.size wr wy → wy.cell? ⟨g1, y, none⟩ = some (.slice (some ⟨b2, 0, none⟩) m1 d2) ∧ wy.cell? ⟨b2, x, none⟩ = some (.int .i64 (dnTo f (y + 1) (x + 1) y x)) ∧ wy.frozen? ⟨b2, x, none⟩ = false ∧ OwnLL (wy.setCell ⟨b2, x, none⟩ (.int .i64 V)) w.heap.size w1.heap.size (.slice (some ⟨g1, 0, none⟩) n2 c1) (gridOf n2 m1 (dnTo f (y + 1) x)) := fun wy hb => by
            have hO2 := hO.below hb hO.1
            obtain ⟨_, g3, b3, d3, e3, _, _, k1', k2', k3', _, _, kset'⟩ := hO2.dot hy hx
            injection e3 with e3
            injection e3 with e3 _
            subst e3
            have e4 := (hb.cell (World.block_lt_of_cell? wr _ k1)).trans k1
            rw [k1'] at e4
            injection e4 with e4
            injection e4 with e4 _ _
            injection e4 with e4
            injection e4 with e4 _ _
            subst e4
            refine ⟨(hb.cell (World.block_lt_of_cell? wr _ k1)).trans k1, k2', k3', ?_⟩
            have h9 := (kset' V).1
            rw [← hV, dn_upd] at h9
            rw [← hV]; exact h9
          have HALL := keptI hall
          obtain ⟨Q, hQ⟩ : ∃ Q, dnTo f (y + 1) (x + 1) y x = Q := ⟨_, rfl⟩
          rw [hQ] at HALL
          have hb2w := hb1
          have q1 : (0 : Int) ≤ (y : Int) := by omega
          have q2 : (y : Int) < (n2 : Int) := by omega
          have q3 : (0 : Int) ≤ (x : Int) := by omega
          have q4 : (x : Int) < (m1 : Int) := by omega
          have hgb : g1 ≠ b2 := hO.ne hy rfl k1
          clear hall kset k1 k2 k3 k4 k5 hV hQ hp hO hB
          go_wp2_with fail
          go_region_held3 (fun wy => wy.cell? ⟨g1, y, none⟩ = some (.slice (some ⟨b2, 0, none⟩) m1 d2)) (first | assumption | exact (HALL.out _ (Below.refl _ _).drew).1 | exact (HALL.out _ ((Below.refl _ _).drew.trans hb9)).1 | exact (cell_setO (HALL.out _ ((Below.refl _ _).drew.trans hb9)).1 hgb)) (first | (go_at_call 75; (with_reducible refine HLC.out.mono ?_); rintro e w9 ⟨rfl, hb9⟩; obtain ⟨_, f4, f5, _⟩ := HALL.out _ ((Below.refl _ _).drew.trans hb9)))
          all_goals
            go_wp2
            go_roundw
            case rel => exact ⟨x, (x : Int) - 1, by omega, by go_num, rfl, (HALL.out _ ((Below.refl _ _).drew.trans hb9)).2.2.2, (HBx.out.trans (((Below.refl _ _).drew.trans hb9).mono hszr)).setCell (p := ⟨b2, x, none⟩) hb2w _⟩
            case measure => simp [intOf]
end Go.Proofs.Ytekchmbbafjmmaa
