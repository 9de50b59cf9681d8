
/- FnRulesAtLess: its walk. -/
import Derived.Test.YtohgglhjcklbaaaVw
import Derived.Test.YtohgglhjcklbaaaTbK
import Derived.Test.YtohgglhjcklbaaaEqInts
import Derived.Test.YtohgglhjcklbaaaIsIn
import Derived.Laws.AppendOwnNone
namespace Go.Proofs.Ytohgglhjcklbaaa
open Go.RowKit

theorem equalInts_alike (w : World) (u v : Value) (xs : List Int) (hx : IntsAt w u xs) (hy : IntsAt w v xs) :
    Calls Try.prog 32 #[u, v] w fun e w' => e = .returned (.bool true) ∧ Below w.heap.size w w' := by
  have := equalInts_any w u v xs xs hx hy
  rw [decide_eq_true rfl] at this
  exact this
theorem isIn_told (w : World) (u : Value) (zs : List Int) (z : Int) (b : Bool) (hx : IntsAt w u zs) (hb : Hid (decide (z ∈ zs) = b)) :
    Calls Try.prog 34 #[u, .int .i64 z] w fun e w' => e = .returned (.bool b) ∧ w = w' := by
  have := isIn_any w u zs z hx
  rw [hb.out] at this
  exact this
theorem wpList_append_ints {ops : Array Oper} {rest : List Oper} {o : Oper} {a : Act} {w : World} {Q : Exit → Act → World → Prop} (hgd : o.guard = none) (s x : Operand)
    (ho : o.op = .call { callee := .builtin .append, args := #[s, x], argTypes := #[36, 36] }) (base B2 : Nat) {v u : Value} {xs ys : List Int} (hs : a.eval s = v) (hx : a.eval x = u)
    (h1 : OwnInts w base v xs) (h2 : OwnInts w B2 u ys) (hl : xs.length + ys.length ≤ 1000000) (hbase : base ≤ w.heap.size)
    (h : ∀ v' w', OwnInts w' base v' (xs ++ ys) → w.grownBy w' v.ownBlock → wpList Try.prog ops Q rest (a.put o.dst v') w') : wpList Try.prog ops Q (o :: rest) a w := by
  obtain ⟨i0, hi, hz0, hz1, hz2⟩ := info_parts infoInt
  have hx2 := h2.at
  rcases h2.2 with ⟨e, hn⟩ | ⟨g, cap, cur, e, _⟩
  · have hy : ys = [] := List.length_eq_zero_iff.1 hn
    subst hy
    subst e
    exact wpList_append_own_none hgd s x 36 ho base 3 i0 1 Try.underlying36 hi v _ (ints xs) hs h1 hx (h v w (by rw [List.append_nil]; exact h1) (World.grownBy.refl w _))
  · subst e
    refine wpList_append_own w hgd s x 36 ho base 3 i0 (.int .i64 0) 1 8 Try.underlying36 hi hz0 hz1 hz2 rfl (by decide) v xs.length (ints xs) hs h1 ⟨g, 0, none⟩ ys.length cap (ints ys) hx (by rw [ints_length, Nat.mul_one]) hx2.news (ints_oneCell' ys) (by unfold maxLen; omega) (by omega) hbase ?_
    intro v' w' hown' hgrow _
    have hO := OwnInts.addAll' hown' rfl
    exact h v' w' hO hgrow

theorem TableAt.takeN {w : World} {g n c k : Nat} {T : List PRule} (h : TableAt w (.slice (some ⟨g, 0, none⟩) n c) T) (hn : T.length = n) (hk : k ≤ n) : TableAt w (.slice (some ⟨g, 0, none⟩) k c) (T.take k) := by
  obtain ⟨a, cp, e, x1, x2, x3⟩ := h
  injection e with e1 e2 e3
  subst e1 e3
  have hl : (T.take k).length = k := by simp; omega
  refine ⟨_, c, by rw [hl], by omega, x2, ?_⟩
  rcases x3 with rfl | ⟨g', off, e, x3⟩
  · exact .inl (by simp)
  · refine .inr ⟨g', off, e, fun i hi => ?_⟩
    rw [takeD (by omega)]
    exact x3 i (by omega)
theorem rulesTo_take (T : List PRule) (s : ByteArray) (p : Int) (m : Nat) : ∀ k, k ≤ m → rulesTo (T.take m) s p k = rulesTo T s p k := by
  intro k
  induction k with
  | zero => intro _; rfl
  | succ k ih =>
    intro hk
    show rulesTo (T.take m) s p k ++ _ = rulesTo T s p k ++ _
    rw [ih (by omega), takeD (by omega)]
theorem rulesTo_lt {T : List PRule} {s : ByteArray} {p : Int} : ∀ (k : Nat) {z : Int}, z ∈ rulesTo T s p k → z < k := by
  intro k
  induction k with
  | zero => intro z h; exact absurd h (by simp [rulesTo])
  | succ k ih =>
    intro z h
    rcases List.mem_append.1 h with h | h
    · have := ih h; omega
    · split at h
      · simp at h; omega
      · simp at h
theorem validTb_take {T : List PRule} (h : ValidTb T) (k : Nat) (hk : k ≤ T.length) : ValidTb (T.take k) := by
  have hl : (T.take k).length = k := by simp; omega
  refine ⟨by have := h.1; omega, fun i hi => ?_, fun i j hi hj => ?_⟩
  · rw [takeD (by omega)]; exact h.2.1 i (by omega)
  · rw [takeD (by omega), takeD (by omega)]; exact h.2.2 i j (by omega) hj
theorem fits_take {T : List PRule} (h : TableFits T) (k : Nat) : TableFits (T.take k) := fun x hx => h x (List.mem_of_mem_take hx)

/-- the indices without the last rule, and with it -/
theorem less_lists (T : List PRule) (s : ByteArray) (p : Int) (n : Nat) (hn : T.length = n) (hf : TableFits T) (hn9 : n ≤ 9) (hs : s.size ≤ 17) (hp0 : -1 ≤ p) (hp1 : p ≤ 17) :
    ∃ (L L' : List Int) (c : Bool), Hid (∀ wx u, TableAt wx u T → Calls Try.prog 25 #[u, .string s, .int .i64 p] wx fun e w' => ListMade L wx e w') ∧ Hid (∀ wx u, TableAt wx u T → Calls Try.prog 26 #[u, .string s, .int .i64 p] wx fun e w' => ListMade L wx e w') ∧
      Hid (ValidTb T → ∀ wx u, TableAt wx u (T.take (n - 1)) → Calls Try.prog 26 #[u, .string s, .int .i64 p] wx fun e w' => ListMade L' wx e w') ∧
      Hid (1 ≤ n → decide (((n : Int) - 1) ∈ L) = c) ∧ Hid (1 ≤ n → L' ++ (if c then [(n : Int) - 1] else []) = L) ∧ Hid (L'.length ≤ 100) := by
  have hss : s.size ≤ 9223372036854775807 := by omega
  by_cases hw : WordB 16 s.data.toList
  · by_cases hv : ValidTb T
    · have hl : (T.take (n - 1)).length = n - 1 := by simp; omega
      refine ⟨rulesL T s p, rulesTo T s p (n - 1), decide (1 ≤ n ∧ App (T.getD (n - 1) noR) s p), fun wx u h => s_RulesAt wx u T s p h hf (Lib.hid hv) hss (Lib.hid hw), fun wx u h => i_RulesAt wx u T s p h hf (Lib.hid hv) hss (Lib.hid hw) (by omega) (by omega), fun _ wx u h => ?_, ?_, ?_, ?_⟩
      · have := i_RulesAt wx u (T.take (n - 1)) s p h (fits_take hf _) (Lib.hid (validTb_take hv _ (by omega))) hss (Lib.hid hw) (by omega) (by omega)
        rw [rulesL, hl, rulesTo_take T s p (n - 1) (n - 1) (Nat.le_refl _)] at this
        exact this
      · intro h1
        obtain ⟨m, rfl⟩ : ∃ m, n = m + 1 := ⟨n - 1, by omega⟩
        have e1 : ((m + 1 : Nat) : Int) - 1 = (m : Int) := by omega
        rw [rulesL, hn, e1, decide_eq_decide, Nat.add_sub_cancel]
        constructor
        · intro h
          refine ⟨by omega, ?_⟩
          by_cases ha : App (T.getD m noR) s p
          · exact ha
          · rw [rulesTo_no ha] at h
            have := rulesTo_lt m h
            omega
        · intro h
          rw [rulesTo_yes h.2]
          simp
      · intro h1
        obtain ⟨m, rfl⟩ : ∃ m, n = m + 1 := ⟨n - 1, by omega⟩
        have e1 : ((m + 1 : Nat) : Int) - 1 = (m : Int) := by omega
        rw [rulesL, hn, e1, Nat.add_sub_cancel]
        by_cases ha : App (T.getD m noR) s p
        · rw [rulesTo_yes ha, decide_eq_true ⟨h1, ha⟩, if_pos rfl]
        · rw [rulesTo_no ha, decide_eq_false (fun h => ha h.2), if_neg (by simp), List.append_nil]
      · have := rulesTo_le T s p (n - 1)
        show _ ≤ _
        omega
    · exact ⟨[], [], false, fun wx u h => s_RulesAt_no wx u T s p h hf hss (Lib.hid (fun h => hv h.1)), fun wx u h => i_RulesAt_no wx u T s p h hf hss (Lib.hid (fun h => hv h.1)), fun h => absurd h hv, fun _ => by simp, fun _ => by simp, by show _ ≤ _; simp⟩
  · exact ⟨[], [], false, fun wx u h => s_RulesAt_no wx u T s p h hf hss (Lib.hid (fun h => hw h.2)), fun wx u h => i_RulesAt_no wx u T s p h hf hss (Lib.hid (fun h => hw h.2)), fun _ wx u h => i_RulesAt_no wx u (T.take (n - 1)) s p h (fits_take hf _) hss (Lib.hid (fun h => hw h.2)), fun _ => by simp, fun _ => by simp, by show _ ≤ _; simp⟩
end Go.Proofs.Ytohgglhjcklbaaa
