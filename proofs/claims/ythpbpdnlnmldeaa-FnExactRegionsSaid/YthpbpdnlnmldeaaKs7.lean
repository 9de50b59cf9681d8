
/- The dots beside a dot: the program's list of them. -/
import Derived.Test.YthpbpdnlnmldeaaKr7
import Derived.Test.YthpbpdnlnmldeaaKj7
namespace Go.Proofs.Ythpbpdnlnmldeaa
open Go.RowKit

def spc (p : Nat × Nat) : List Value := [.int .i64 p.1, .int .i64 p.2]
def spcs (P : List (Nat × Nat)) : List Value := P.flatMap spc
theorem spcs_len (P : List (Nat × Nat)) : (spcs P).length = P.length * 2 := by
  induction P with
  | nil => rfl
  | cons q P ih => simp [spcs, spc] at ih ⊢; omega
theorem spcs_at : ∀ (P : List (Nat × Nat)) (i : Nat) (_ : i < P.length), (spcs P)[i * 2]? = some (.int .i64 (P.getD i (0, 0)).1) ∧ (spcs P)[i * 2 + 1]? = some (.int .i64 (P.getD i (0, 0)).2) := by
  intro P
  induction P with
  | nil => intro i h; simp at h
  | cons q P ih =>
    intro i h
    have hc : spcs (q :: P) = spc q ++ spcs P := rfl
    have hl : (spc q).length = 2 := rfl
    cases i with
    | zero => rw [hc]; exact ⟨rfl, rfl⟩
    | succ i =>
      have h' : i < P.length := by simpa using h
      obtain ⟨e0, e1⟩ := ih i h'
      have hg : (q :: P).getD (i + 1) (0, 0) = P.getD i (0, 0) := by simp [List.getD_eq_getElem?_getD]
      rw [hc, hg]
      refine ⟨?_, ?_⟩
      · rw [List.getElem?_append_right (by rw [hl]; omega), hl, show (i + 1) * 2 - 2 = i * 2 from by omega, e0]
      · rw [List.getElem?_append_right (by rw [hl]; omega), hl, show (i + 1) * 2 + 1 - 2 = i * 2 + 1 from by omega, e1]
theorem spcs_snoc (P : List (Nat × Nat)) (p : Nat × Nat) : spcs P ++ spc p = spcs (P ++ [p]) := by simp [spcs]
def OwnSp (w : World) (S : Nat) (v : Value) (P : List (Nat × Nat)) : Prop := w.ownsRow S 48 2 v P.length (spcs P)
theorem OwnSp.nil (w : World) (S : Nat) : OwnSp w S (.slice none 0 0) [] := World.ownsRow_nil _ _ _ _
theorem OwnSp.below {w w' : World} {S : Nat} {v : Value} {P : List (Nat × Nat)} (h : OwnSp w S v P) (hb : Below w.heap.size w w') : OwnSp w' S v P :=
  World.ownsRow.kept (row := none) h ⟨hb.os, hb.tape, hb.output, hb.size, fun k hk _ => hb.block k hk⟩ (by cases hv : v.ownBlock <;> simp)
theorem OwnSp.isSlice {w : World} {S : Nat} {v : Value} {P : List (Nat × Nat)} (h : OwnSp w S v P) : ∃ a c, v = .slice a P.length c := by
  rcases h.2 with ⟨rfl, e⟩ | ⟨g, cap, cur, rfl, _⟩
  · exact ⟨none, 0, by rw [e]⟩
  · exact ⟨_, _, rfl⟩
theorem OwnSp.nth {w : World} {S : Nat} {a : Option Addr} {n c : Nat} {P : List (Nat × Nat)} (h : OwnSp w S (.slice a n c) P) {k : Nat} (hk : k < P.length) : ∃ g, a = some ⟨g, 0, none⟩ ∧ S ≤ g ∧ w.cell? ⟨g, k * 2, none⟩ = some (.int .i64 (P.getD k (0, 0)).1) ∧ w.cell? ⟨g, k * 2 + 1, none⟩ = some (.int .i64 (P.getD k (0, 0)).2) := by
  have hh := h
  rcases h.2 with ⟨_, hn⟩ | ⟨g, cap, cur, e, hb, _⟩
  · omega
  · injection e with e1 e2 e3
    subst e1 e2 e3
    obtain ⟨e0, e1⟩ := spcs_at P k hk
    exact ⟨g, rfl, hb, (World.ownsRow.cellAt hh (k * 2) (by omega)).trans e0, (World.ownsRow.cellAt hh (k * 2 + 1) (by omega)).trans e1⟩
theorem wpList_append_sp {ops : Array Oper} {rest : List Oper} {o : Oper} {a : Act} {w : World} {Q : Exit → Act → World → Prop} (hgd : o.guard = none) (s x : Operand)
    (ho : o.op = .call { callee := .builtin .append, args := #[s, x], argTypes := #[58, 58] }) (base g : Nat) {v : Value} {P : List (Nat × Nat)} (p : Nat × Nat) (hs : a.eval s = v) (hx : a.eval x = .slice (some ⟨g, 0, none⟩) 1 1)
    (h1 : OwnSp w base v P) (h2 : w.cell? ⟨g, 0, none⟩ = some (.int .i64 p.1) ∧ w.cell? ⟨g, 1, none⟩ = some (.int .i64 p.2)) (hl : P.length ≤ 100000000) (hbase : base ≤ w.heap.size)
    (h : ∀ v' w', OwnSp w' base v' (P ++ [p]) → w.grownBy w' v.ownBlock → wpList Try.prog ops Q rest (a.put o.dst v') w') : wpList Try.prog ops Q (o :: rest) a w := by
  obtain ⟨i0, hi, hz0, hz1, hz2⟩ := info_parts infoSpot
  refine wpList_append_own w hgd s x 58 ho base 48 i0 (.agg #[.int .i64 0, .int .i64 0]) 2 16 Try.underlying58 hi hz0 hz1 hz2 rfl (by decide) v P.length (spcs P) hs h1 ⟨g, 0, none⟩ 1 1 (spc p) hx rfl ?_ ?_ (by unfold maxLen; omega) (by omega) hbase ?_
  · intro j u hj
    obtain ⟨c0, c1⟩ := h2
    rw [Addr.add_lit]
    match j, hj with
    | 0, hj => rw [c0]; exact hj
    | 1, hj => rw [c1]; exact hj
  · intro u hu
    simp [spc] at hu
    rcases hu with rfl | rfl <;> rfl
  · intro v' w' hown hgrow hnil
    refine h v' w' ?_ hgrow
    unfold OwnSp
    rw [List.length_append, ← spcs_snoc]
    exact hown
theorem spot_cells (w : World) (p : Nat × Nat) : (w.alloc (.cells #[.int .i64 p.1, .int .i64 p.2] 48)).cell? ⟨w.heap.size, 0, none⟩ = some (.int .i64 p.1) ∧ (w.alloc (.cells #[.int .i64 p.1, .int .i64 p.2] 48)).cell? ⟨w.heap.size, 1, none⟩ = some (.int .i64 p.2) :=
  ⟨by rw [cell_of_row _ w.heap.size 0 _ _ _ (heap_alloc_new w _)]; rfl, by rw [cell_of_row _ w.heap.size 1 _ _ _ (heap_alloc_new w _)]; rfl⟩
/-- behind an append to a row of spots of one's own -/
theorem grown_sp {B S : Nat} {w wr wx w' : World} {v : Value} {P : List (Nat × Nat)} (hb : Below B w wr) (hx : Below wr.heap.size wr wx) (hs : B ≤ wr.heap.size) (hBS : B ≤ S) (hO : OwnSp wr S v P) (hg : wx.grownBy w' v.ownBlock) : Below B w w' :=
  (hb.trans (hx.mono hs)).grown hg (Nat.le_trans hs hx.size) fun k hk => by
    rcases hO.2 with ⟨rfl, _⟩ | ⟨g, cap, cur, rfl, hb2, _⟩
    · simp [Value.ownBlock] at hk
    · simp [Value.ownBlock] at hk; omega
theorem OwnSp.lower {w : World} {S S' : Nat} {v : Value} {P : List (Nat × Nat)} (h : OwnSp w S v P) (hS : S' ≤ S) : OwnSp w S' v P := by
  refine ⟨h.1, ?_⟩
  rcases h.2 with k | ⟨g, cap, cur, hv, hb, rest⟩
  · exact .inl k
  · exact .inr ⟨g, cap, cur, hv, Nat.le_trans hS hb, rest⟩
/-- all the dots around a place -/
structure BesAll (g : Nat → Nat → Int) (y x : Nat) (B : List (Nat × Nat)) : Prop where
  each : ∀ p ∈ B, Adj y x p.1 p.2 ∧ g p.1 p.2 = 1
  once : B.Nodup
  full : ∀ a b, Adj y x a b → g a b = 1 → (a, b) ∈ B
theorem Bes.fin {g : Nat → Nat → Int} {y x k : Nat} {B : List (Nat × Nat)} (h : Bes g y x k 0 B) (hk : ∀ a b, k ≤ a → Adj y x a b → g a b ≠ 1) : BesAll g y x B :=
  ⟨fun p hp => ⟨(h.each p hp).1, (h.each p hp).2.1⟩, h.once, fun a b ha h1 => by
    by_cases c : k ≤ a
    · exact absurd h1 (hk a b c ha)
    · exact h.full a b ha h1 (by omega)⟩
def BesOut (f : Nat → Nat → Int) (y x : Nat) (w : World) (e : Ending) (w' : World) : Prop := ∃ B a c, e = .returned (.slice a B.length c) ∧ OwnSp w' w.heap.size (.slice a B.length c) B ∧ BesAll f y x B ∧ Below w.heap.size w w'
set_option maxHeartbeats 1000000 in
theorem i_beside (w : World) (a : Option Addr) (n c m : Nat) (f : Nat → Nat → Int) (y x : Nat) (hp : PicAt w a n c m f) (hn : n ≤ 1000) (hm : m ≤ 1000) (hy : y < n) (hx : x < m) (ho : OutF f n m) :
    Calls Try.prog 64 #[.slice a n c, .agg #[.int .i64 y, .int .i64 x]] w fun e w' => BesOut f y x w e w' := by
  have HP := keptI hp
  have HOUT := keptI ho
  obtain ⟨g, off, _, _, _, rfl, _⟩ := hp.row hy
  clear hp ho
  have u1 : IntKind.i64.wrap ((y : Int) - 1) = (y : Int) - 1 := IntWalk.i64_in _ (by omega)
  have u2 : IntKind.i64.wrap ((x : Int) - 1) = (x : Int) - 1 := IntWalk.i64_in _ (by omega)
  have u3 : IntKind.i64.wrap ((y : Int) + 1) = (y : Int) + 1 := IntWalk.i64_in _ (by omega)
  have u4 : IntKind.i64.wrap ((x : Int) + 1) = (x : Int) + 1 := IntWalk.i64_in _ (by omega)
  obtain ⟨hA0, hA1⟩ := spot_cells w (y, x)
  simp only at hA0 hA1
  have hBA : Below w.heap.size w (w.alloc (.cells #[.int .i64 y, .int .i64 x] 48)) := (Below.refl _ _).alloc (Nat.le_refl _) _
  have HPA := keptI (HP.out.below hBA)
  have HBA := keptI hBA
  obtain ⟨Y, hY⟩ : ∃ Y, ((y : Int) - 1).toNat = Y := ⟨_, rfl⟩
  obtain ⟨X, hX⟩ : ∃ X, ((x : Int) - 1).toNat = X := ⟨_, rfl⟩
  have HY1 : Hid (Y = y - 1) := by show _ = _; omega
  have HX1 : Hid (X = x - 1) := by show _ = _; omega
  have hY2 : Y < n ∧ y ≤ Y + 1 := by omega
  have hX2 : X < m ∧ x ≤ X + 1 := by omega
  obtain ⟨hY2, hY3⟩ := hY2
  obtain ⟨hX2, hX3⟩ := hX2
  have HNY : Hid (∀ wy, Calls Try.prog 66 #[.int .i64 ((y : Int) - 1)] wy fun e w' => e = .returned (.int .i64 (Y : Int)) ∧ wy = w') := fun wy => by rw [← hY]; exact i_notNegative _ wy
  have HNX : Hid (∀ wy, Calls Try.prog 66 #[.int .i64 ((x : Int) - 1)] wy fun e w' => e = .returned (.int .i64 (X : Int)) ∧ wy = w') := fun wy => by rw [← hX]; exact i_notNegative _ wy
  clear hBA hY hX HP
  go_enter Try.func64, Try.ntmps64
  go_wp2_with fail
  generalize (w.alloc (.cells #[.int .i64 y, .int .i64 x] 48)) = wA at HPA HBA hA0 hA1 ⊢
  have HA0 := Lib.hid hA0
  have HA1 := Lib.hid hA1
  refine (HNY.out wA).mono ?_
  rintro e w1 ⟨rfl, rfl⟩
  clear hA0 hA1
  go_wp2
  go_loopw [5, 6] (fun o i wr => ∃ (k : Nat) (B : List (Nat × Nat)) (a : Option Addr) (c : Nat), o = .slice a B.length c ∧ i = .int .i64 k ∧ k ≤ n ∧ y ≤ k + 1 ∧ Hid (OwnSp wr wA.heap.size (.slice a B.length c) B) ∧ Hid (Bes f y x k 0 B) ∧ B.length ≤ 1000 * k ∧ Hid (Below wA.heap.size wA wr)) (fun _ i _ => n - (intOf i).toNat)
  case atStart => exact ⟨Y, [], none, 0, rfl, rfl, by omega, by omega, OwnSp.nil _ _, Bes.start HY1.out, Nat.zero_le _, Below.refl _ _⟩
  case round =>
    obtain ⟨k, B, a5, c5, rfl, rfl, hk, hyk, HO, HBE, hBl, HBW⟩ := hrel
    rename World => wo
    have hA0 := (HBW.out.cell (World.block_lt_of_cell? wA _ HA0.out)).trans HA0.out
    have hA1 := (HBW.out.cell (World.block_lt_of_cell? wA _ HA1.out)).trans HA1.out
    by_cases hlt : k < n
    · have d1 : decide ((k : Int) < (n : Int)) = true := decide_eq_true (by omega)
      have d1' : decide (k < n) = true := decide_eq_true hlt
      by_cases hle : k ≤ y + 1
      · have d2 : decide ((k : Int) ≤ (y : Int) + 1) = true := decide_eq_true (by omega)
        obtain ⟨_, _, b, o, d, e1, c0, _, _, hcx⟩ := HPA.out.row hlt
        injection e1 with e1
        injection e1 with e1 e2
        subst e1 e2
        have HC0 := Lib.hid c0
        have HCX := keptI hcx
        have c0 := (HBW.out.cell (World.block_lt_of_cell? wA _ HC0.out)).trans HC0.out
        have HBE2 : Hid (Bes f y x k X B) := HBE.out.col HX1.out
        have p1 : (0 : Int) ≤ (k : Int) := by omega
        have p2 : (k : Int) < (n : Int) := by omega
        clear hcx
        go_wp2_with fail
        refine (HNX.out _).mono ?_
        rintro e w1 ⟨rfl, rfl⟩
        clear hA0 hA1 c0
        go_wp2
        go_loopw [5, 7] (fun o j wx => ∃ (q : Nat) (B : List (Nat × Nat)) (a : Option Addr) (c : Nat), o = .slice a B.length c ∧ j = .int .i64 q ∧ q ≤ m ∧ x ≤ q + 1 ∧ Hid (OwnSp wx wA.heap.size (.slice a B.length c) B) ∧ Hid (Bes f y x k q B) ∧ B.length ≤ 1000 * k + q ∧ Hid (Below wA.heap.size wA wx)) (fun _ j _ => m - (intOf j).toNat)
        case atStart => exact ⟨X, B, a5, c5, rfl, rfl, by omega, by omega, HO, HBE2, by omega, HBW⟩
        case round =>
          clear HO HBE HBE2 hBl HBW
          obtain ⟨q, B, a5, c5, rfl, rfl, hq, hxq, HO, HBE, hBl, HBW⟩ := hrel
          have hA0 := (HBW.out.cell (World.block_lt_of_cell? wA _ HA0.out)).trans HA0.out
          have hA1 := (HBW.out.cell (World.block_lt_of_cell? wA _ HA1.out)).trans HA1.out
          have c0 := (HBW.out.cell (World.block_lt_of_cell? wA _ HC0.out)).trans HC0.out
          by_cases hqt : q < m
          · have d3 : decide ((q : Int) < (m : Int)) = true := decide_eq_true (by omega)
            have d3' : decide (q < m) = true := decide_eq_true hqt
            by_cases hqe : q ≤ x + 1
            · have d4 : decide ((q : Int) ≤ (x : Int) + 1) = true := decide_eq_true (by omega)
              have cx := (HBW.out.cell (World.block_lt_of_cell? wA _ (HCX.out q hqt))).trans (HCX.out q hqt)
              have p3 : (0 : Int) ≤ (q : Int) := by omega
              have p4 : (q : Int) < (m : Int) := by omega
              by_cases hz : f k q = 1
              · have ha : Adj y x k q := by unfold Adj; omega
                have HBE6 : Hid (Bes f y x k (q + 1) (B ++ [(k, q)])) := HBE.out.add ha hz
                rw [hz] at cx
                have hal : Below wr.heap.size wr (wr.alloc (.cells #[.int .i64 k, .int .i64 q] 48)) := (Below.refl _ _).alloc (Nat.le_refl _) _
                have HO8 := keptI (HO.out.below hal)
                have CF := Lib.hid (spot_cells wr (k, q))
                have hsz := HBW.out.size
                have hbase := Nat.le_trans hsz hal.size
                have HAL := keptI hal
                have hl8 : B.length ≤ 100000000 := by omega
                clear hz hal ha
                go_wp2_with (at_builtin; refine wpList_append_sp rfl _ _ rfl wA.heap.size wr.heap.size (k, q) rfl rfl HO8.out CF.out hl8 hbase ?_)
                intro v9 w9 hown9 hgrow9
                obtain ⟨a9, c9, hv9⟩ := hown9.isSlice
                subst hv9
                have HO9 := keptI hown9
                have HB9 := keptI (grown_sp HBW.out HAL.out hsz (Nat.le_refl _) HO.out hgrow9)
                have hlen : (B ++ [(k, q)]).length ≤ 1000 * k + (q + 1) := by rw [List.length_append, List.length_singleton]; omega
                clear hown9 hgrow9 CF HO8 HAL c0 cx hA0 hA1
                set_option maxRecDepth 20000 in
                go_wp2
                go_roundw
                case rel => exact ⟨q + 1, B ++ [(k, q)], a9, c9, rfl, by go_num, by omega, by omega, HO9, HBE6, hlen, HB9⟩
                case measure => simp [intOf]; omega
              · have HBE6 : Hid (Bes f y x k (q + 1) B) := HBE.out.skip hz
                obtain ⟨z, hzz⟩ : ∃ z, f k q = z := ⟨_, rfl⟩
                rw [hzz] at cx hz
                have d5 : (z == 1) = false := by simp; exact hz
                clear hzz
                go_wp2
                go_roundw
                case rel => exact ⟨q + 1, B, a5, c5, rfl, by go_num, by omega, by omega, HO, HBE6, by omega, HBW⟩
                case measure => simp [intOf]; omega
            · have d4 : decide ((q : Int) ≤ (x : Int) + 1) = false := decide_eq_false (by omega)
              have HBE6 : Hid (Bes f y x (k + 1) 0 B) := HBE.out.row fun b hb ha => by unfold Adj at ha; omega
              go_wp2
              go_roundw
              case rel => exact ⟨k + 1, B, a5, c5, rfl, by go_num, by omega, by omega, HO, HBE6, by omega, HBW⟩
              case measure => simp [intOf]; omega
          · have d3 : decide ((q : Int) < (m : Int)) = false := decide_eq_false (by omega)
            have d3' : decide (q < m) = false := decide_eq_false hqt
            have HBE6 : Hid (Bes f y x (k + 1) 0 B) := HBE.out.row fun b hb ha => by rw [HOUT.out k b (.inr (by omega))]; omega
            go_wp2
            go_roundw
            case rel => exact ⟨k + 1, B, a5, c5, rfl, by go_num, by omega, by omega, HO, HBE6, by omega, HBW⟩
            case measure => simp [intOf]; omega
      · have d2 : decide ((k : Int) ≤ (y : Int) + 1) = false := decide_eq_false (by omega)
        have HBF : Hid (BesAll f y x B) := HBE.out.fin fun a b ha hb => by unfold Adj at hb; omega
        go_wp2
        go_ret
        exact ⟨B, _, _, rfl, HO.out.lower HBA.out.size, HBF.out, below_next HBA.out HBW.out⟩
    · have d1 : decide ((k : Int) < (n : Int)) = false := decide_eq_false (by omega)
      have d1' : decide (k < n) = false := decide_eq_false hlt
      have HBF : Hid (BesAll f y x B) := HBE.out.fin fun a b ha hb => by rw [HOUT.out a b (.inl (by omega))]; omega
      go_wp2
      go_ret
      exact ⟨B, _, _, rfl, HO.out.lower HBA.out.size, HBF.out, below_next HBA.out HBW.out⟩
end Go.Proofs.Ythpbpdnlnmldeaa
