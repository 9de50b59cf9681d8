
/- The longest rule of those that apply, the first of several. -/
import Derived.Test.YtohgglhjcklbaaaTbJ
import Derived.Test.YtohgglhjcklbaaaPw
import Derived.Test.YtohgglhjcklbaaaDu
import Derived.Deep.QuietTactic
import Derived.BigQuiet
namespace Go.Proofs.Ytohgglhjcklbaaa
open Go.RowKit

def szR (T : List PRule) (r : Int) : Nat := (T.getD r.toNat noR).t.size
/-- the longest of the first k rules of a list, the first of several, -1 for none -/
def lgTo (T : List PRule) (L : List Int) : Nat → Int
  | 0 => -1
  | k + 1 => if lgTo T L k = -1 ∨ szR T (lgTo T L k) < szR T (L.getD k 0) then L.getD k 0 else lgTo T L k
theorem lgTo_mem (T : List PRule) (L : List Int) : ∀ k, k ≤ L.length → lgTo T L k = -1 ∨ lgTo T L k ∈ L := by
  intro k
  induction k with
  | zero => intro _; exact .inl rfl
  | succ k ih =>
    intro hk
    show (if _ then _ else _) = _ ∨ (if _ then _ else _) ∈ _
    split
    · exact .inr (getD_mem (by omega))
    · exact ih (by omega)
/-- the rule with the index r is the best one at a place; -1 if none applies -/
def Bst (T : List PRule) (s : ByteArray) (a : Int) (r : Int) : Prop :=
  (r = -1 ∧ ∀ i, i < T.length → ¬ App (T.getD i noR) s a) ∨
  (∃ j : Nat, r = j ∧ j < T.length ∧ App (T.getD j noR) s a ∧ ∀ i, i < T.length → App (T.getD i noR) s a → (T.getD i noR).t.size < (T.getD j noR).t.size ∨ ((T.getD i noR).t.size = (T.getD j noR).t.size ∧ j ≤ i))
theorem Bst.same {T : List PRule} {s : ByteArray} {a r r' : Int} (h : Bst T s a r) (h' : Bst T s a r') : r = r' := by
  rcases h with ⟨rfl, h⟩ | ⟨j, rfl, hj, hA, h⟩
  · rcases h' with ⟨rfl, _⟩ | ⟨j', rfl, hj', hA', _⟩
    · rfl
    · exact absurd hA' (h j' hj')
  · rcases h' with ⟨rfl, h'⟩ | ⟨j', rfl, hj', hA', h'⟩
    · exact absurd hA (h' j hj)
    · have h1 := h j' hj' hA'
      have h2 := h' j hj hA
      have : j = j' := by omega
      rw [this]
theorem lgTo_grow {T : List PRule} {L : List Int} {k : Nat} (x : Int) : lgTo T (L ++ [x]) (L.length + 1) = (if lgTo T L L.length = -1 ∨ szR T (lgTo T L L.length) < szR T x then x else lgTo T L L.length) ∨ k < 0 := by
  left
  have hle : ∀ m, m ≤ L.length → lgTo T (L ++ [x]) m = lgTo T L m := by
    intro m
    induction m with
    | zero => intro _; rfl
    | succ m ih =>
      intro hm
      have hg : (L ++ [x]).getD m 0 = L.getD m 0 := by rw [List.getD_eq_getElem?_getD, List.getElem?_append_left (by omega), ← List.getD_eq_getElem?_getD]
      show (if lgTo T (L ++ [x]) m = -1 ∨ szR T (lgTo T (L ++ [x]) m) < szR T ((L ++ [x]).getD m 0) then (L ++ [x]).getD m 0 else lgTo T (L ++ [x]) m) = (if lgTo T L m = -1 ∨ szR T (lgTo T L m) < szR T (L.getD m 0) then L.getD m 0 else lgTo T L m)
      rw [ih (by omega), hg]
  have hg : (L ++ [x]).getD L.length 0 = x := by simp [List.getD_eq_getElem?_getD]
  show (if lgTo T (L ++ [x]) L.length = -1 ∨ szR T (lgTo T (L ++ [x]) L.length) < szR T ((L ++ [x]).getD L.length 0) then (L ++ [x]).getD L.length 0 else lgTo T (L ++ [x]) L.length) = _
  rw [hle _ (Nat.le_refl _), hg]
/-- best among the first n rules -/
def BstTo (T : List PRule) (s : ByteArray) (a : Int) (n : Nat) (r : Int) : Prop :=
  (r = -1 ∧ ∀ i, i < n → ¬ App (T.getD i noR) s a) ∨
  (∃ j : Nat, r = j ∧ j < n ∧ App (T.getD j noR) s a ∧ ∀ i, i < n → App (T.getD i noR) s a → (T.getD i noR).t.size < (T.getD j noR).t.size ∨ ((T.getD i noR).t.size = (T.getD j noR).t.size ∧ j ≤ i))
theorem lgTo_best (T : List PRule) (s : ByteArray) (a : Int) : ∀ n, BstTo T s a n (lgTo T (rulesTo T s a n) (rulesTo T s a n).length) := by
  intro n
  induction n with
  | zero => exact .inl ⟨rfl, fun i hi => by omega⟩
  | succ n ih =>
    by_cases hA : App (T.getD n noR) s a
    · rw [rulesTo_yes hA, List.length_append, List.length_singleton]
      rcases lgTo_grow (T := T) (L := rulesTo T s a n) (k := 0) (n : Int) with e | e
      · rw [e]
        right
        rcases ih with ⟨h1, h2⟩ | ⟨j, h1, hj, hAj, h2⟩
        · rw [h1, if_pos (.inl rfl)]
          refine ⟨n, rfl, by omega, hA, fun i hi hi2 => ?_⟩
          by_cases hin : i < n
          · exact absurd hi2 (h2 i hin)
          · have : i = n := by omega
            subst this
            exact .inr ⟨rfl, Nat.le_refl _⟩
        · rw [h1]
          by_cases hs : (T.getD j noR).t.size < (T.getD n noR).t.size
          · rw [if_pos (.inr (by unfold szR; simpa using hs))]
            refine ⟨n, rfl, by omega, hA, fun i hi hi2 => ?_⟩
            by_cases hin : i < n
            · have := h2 i hin hi2; omega
            · have : i = n := by omega
              subst this
              exact .inr ⟨rfl, Nat.le_refl _⟩
          · rw [if_neg (by
              intro h
              rcases h with h | h
              · omega
              · exact hs (by unfold szR at h; simpa using h))]
            refine ⟨j, rfl, by omega, hAj, fun i hi hi2 => ?_⟩
            by_cases hin : i < n
            · exact h2 i hin hi2
            · have : i = n := by omega
              subst this
              omega
      · omega
    · rw [rulesTo_no hA]
      rcases ih with ⟨h1, h2⟩ | ⟨j, h1, hj, hAj, h2⟩
      · exact .inl ⟨h1, fun i hi hi2 => by
          by_cases hin : i < n
          · exact h2 i hin hi2
          · have : i = n := by omega
            subst this
            exact hA hi2⟩
      · exact .inr ⟨j, h1, by omega, hAj, fun i hi hi2 => by
          by_cases hin : i < n
          · exact h2 i hin hi2
          · have : i = n := by omega
            subst this
            exact absurd hi2 hA⟩
theorem lgTo_bst (T : List PRule) (s : ByteArray) (a : Int) : Bst T s a (lgTo T (rulesL T s a) (rulesL T s a).length) := lgTo_best T s a T.length

set_option maxHeartbeats 4000000 in
theorem i_longestRule (w : World) (v u : Value) (T : List PRule) (L : List Int) (hx : TableAt w v T) (hf : Hid (∀ k, (T.getD k noR).t.size ≤ 100)) (hy : IntsAt w u L) (hL : Hid (∀ z ∈ L, 0 ≤ z ∧ z < T.length)) :
    Calls Try.prog 79 #[v, u] w fun e w' => e = .returned (.int .i64 (lgTo T L L.length)) ∧ Below w.heap.size w w' := by
  have HX := Lib.hid hx
  obtain ⟨ta, tc, rfl, hxx⟩ := hx
  clear hxx
  have HY := Lib.hid hy
  obtain ⟨a2, c2, rfl, x1, x2, x3⟩ := hy
  obtain ⟨m, hm⟩ : ∃ m, L.length = m := ⟨_, rfl⟩
  rw [hm] at x1 x3 ⊢
  have HM := Lib.hid hm
  clear hm
  obtain ⟨tn, htn⟩ : ∃ tn, T.length = tn := ⟨_, rfl⟩
  rw [htn] at HX hL ⊢
  have HTN := Lib.hid htn
  clear htn
  go_enter Try.func79, Try.ntmps79
  go_wp2
  go_loopw [5, 10] (fun o i wr => ∃ k : Nat, k ≤ m ∧ i = .int .i64 k ∧ o = .int .i64 (lgTo T L k) ∧ Below w.heap.size w wr) (fun _ i _ => m - (intOf i).toNat)
  case atStart => exact ⟨0, Nat.zero_le _, rfl, rfl, Below.refl _ _⟩
  case round =>
    obtain ⟨k, hk, rfl, rfl, hb⟩ := hrel
    by_cases hlt : k < m
    · rcases x3 with rfl | ⟨g2, off2, rfl, x3⟩
      · exact absurd HM.out (by simp; omega)
      have cz := x3 k hlt
      have cz := (hb.cell (World.block_lt_of_cell? w _ cz)).trans cz
      have hz := hL.out (L.getD k 0) (getD_mem (by rw [HM.out]; exact hlt))
      have hmem := lgTo_mem T L k (by rw [HM.out]; omega)
      have hstep : lgTo T L (k + 1) = if lgTo T L k = -1 ∨ szR T (lgTo T L k) < szR T (L.getD k 0) then L.getD k 0 else lgTo T L k := rfl
      obtain ⟨z, hze⟩ : ∃ z, L.getD k 0 = z := ⟨_, rfl⟩
      rw [hze] at cz hz hstep
      clear hze x3
      obtain ⟨j, rfl⟩ : ∃ j : Nat, z = j := ⟨z.toNat, by omega⟩
      have hj : j < tn := by omega
      obtain ⟨gt, offt, rfl⟩ := HX.out.someAddr (by rw [HTN.out]; omega)
      have r1 := ((HX.out.below hb).nth (k := j) (by rw [HTN.out]; exact hj)).1
      have hs1 := hf.out j
      obtain ⟨t1, ht1⟩ : ∃ t1, (T.getD j noR).t = t1 := ⟨_, rfl⟩
      have hsz1 : szR T (j : Int) = t1.size := by unfold szR; rw [Int.toNat_natCast, ht1]
      rw [ht1] at r1 hs1
      rw [hsz1] at hstep
      obtain ⟨bs, hbs⟩ : ∃ bs, lgTo T L k = bs := ⟨_, rfl⟩
      rw [hbs] at hstep hmem
      have b1 : (0 : Int) ≤ (j : Int) := by omega
      have b2 : (j : Int) < (tn : Int) := by omega
      clear ht1 hsz1
      rcases hmem with rfl | hmem
      · rw [if_pos (.inl rfl)] at hstep
        have HST := Lib.hid hstep
        have HBR := keptH hb
        clear hstep hb hz
        rw [hbs]
        clear hbs
        go_wp2_with fail
        go_quiet (fail)
        go_wp2
        go_roundw
        case rel => exact ⟨k + 1, by omega, by go_num, by rw [HST.out], below_drewN HBR.out _⟩
        case measure => simp [intOf]; omega
      · have hz2 := hL.out bs hmem
        obtain ⟨j2, rfl⟩ : ∃ j2 : Nat, bs = j2 := ⟨bs.toNat, by omega⟩
        have hj2 : j2 < tn := by omega
        have r2 := ((HX.out.below hb).nth (k := j2) (by rw [HTN.out]; exact hj2)).1
        have hs2 := hf.out j2
        obtain ⟨t2, ht2⟩ : ∃ t2, (T.getD j2 noR).t = t2 := ⟨_, rfl⟩
        have hsz2 : szR T (j2 : Int) = t2.size := by unfold szR; rw [Int.toNat_natCast, ht2]
        rw [ht2] at r2 hs2
        rw [hsz2] at hstep
        have b3 : (0 : Int) ≤ (j2 : Int) := by omega
        have b4 : (j2 : Int) < (tn : Int) := by omega
        have d0 : ((j2 : Int) == -1) = false := by simp
        have HBR := keptH hb
        rw [hbs]
        clear ht2 hsz2 hbs hb hz hz2 hmem
        by_cases hcmp : t2.size < t1.size
        · rw [if_pos (.inr hcmp)] at hstep
          have HST := Lib.hid hstep
          have d1 : decide ((t2.size : Int) < (t1.size : Int)) = true := decide_eq_true (by omega)
          clear hstep
          go_wp2_with fail
          go_quiet (fail)
          go_wp2
          go_roundw
          case rel => exact ⟨k + 1, by omega, by go_num, by rw [HST.out], below_drewN HBR.out _⟩
          case measure => simp [intOf]; omega
        · rw [if_neg (by omega)] at hstep
          have HST := Lib.hid hstep
          have d1 : decide ((t2.size : Int) < (t1.size : Int)) = false := decide_eq_false (by omega)
          clear hstep
          go_wp2_with fail
          go_quiet (fail)
          go_wp2
          go_roundw
          case rel => exact ⟨k + 1, by omega, by go_num, by rw [HST.out], below_drewN HBR.out _⟩
          case measure => simp [intOf]; omega
    · obtain rfl : k = m := by omega
      go_wp2
      go_ret
      exact ⟨rfl, hb⟩
end Go.Proofs.Ytohgglhjcklbaaa
