
/- The rules that apply to a word at a place, in the program and in its model. -/
import Derived.Test.YtdjgodemeaneeaaTbH
import Derived.Test.YtdjgodemeaneeaaTbD
import Derived.Deep.Onto
namespace Go.Proofs.Ytdjgodemeaneeaa
open Go.RowKit

/-- the indices of the first k rules that apply -/
def rulesTo (T : List PRule) (s : ByteArray) (a : Int) : Nat → List Int
  | 0 => []
  | k + 1 => rulesTo T s a k ++ (if App (T.getD k noR) s a then [(k : Int)] else [])
def rulesL (T : List PRule) (s : ByteArray) (a : Int) : List Int := rulesTo T s a T.length
theorem rulesTo_yes {T : List PRule} {s : ByteArray} {a : Int} {k : Nat} (h : App (T.getD k noR) s a) : rulesTo T s a (k + 1) = rulesTo T s a k ++ [(k : Int)] := by
  show _ ++ _ = _
  rw [if_pos h]
theorem rulesTo_no {T : List PRule} {s : ByteArray} {a : Int} {k : Nat} (h : ¬ App (T.getD k noR) s a) : rulesTo T s a (k + 1) = rulesTo T s a k := by
  show _ ++ _ = _
  rw [if_neg h, List.append_nil]
theorem rulesTo_le (T : List PRule) (s : ByteArray) (a : Int) (k : Nat) : (rulesTo T s a k).length ≤ k := by
  induction k with
  | zero => simp [rulesTo]
  | succ k ih =>
    show (rulesTo T s a k ++ _).length ≤ _
    rw [List.length_append]
    split <;> simp <;> omega
theorem rulesTo_out {T : List PRule} {s : ByteArray} {a : Int} (h : a < 0 ∨ (s.size : Int) ≤ a) (hv : ∀ i, i < T.length → ValidR (T.getD i noR)) : ∀ k, k ≤ T.length → rulesTo T s a k = [] := by
  intro k
  induction k with
  | zero => intro _; rfl
  | succ k ih =>
    intro hk
    rw [rulesTo_no, ih (by omega)]
    intro hA
    have h1 := hA.1
    have h2 := hA.2.1
    have h3 := (hv k (by omega)).1.1
    rw [wd_size] at h3
    omega
theorem i_ruleApplies_v (w : World) (u : Value) (t : ByteArray) (zs : List Int) (p : Int) (s : ByteArray) (a : Int) (b : Bool) (hx : IntsAt w u zs) (hr : Hid (ValidR ⟨t, zs, p⟩)) (h1 : 1 ≤ s.size) (h2 : s.size ≤ 16) (ha0 : -9223372036854775808 ≤ a) (ha1 : a ≤ 9223372036854775807) (hb : Hid (decide (App ⟨t, zs, p⟩ s a) = b)) :
    Calls Try.prog 73 #[.agg #[.string t, u, .int .i64 p], .string s, .int .i64 a] w fun e w' => e = .returned (.bool b) ∧ Below w.heap.size w w' := by
  have := i_ruleApplies w u ⟨t, zs, p⟩ s a hx hr.out h1 h2 ha0 ha1
  rw [hb.out] at this
  exact this
theorem s_applies_v (w : World) (u : Value) (t : ByteArray) (zs : List Int) (p : Int) (s : ByteArray) (k : Nat) (b : Bool) (hx : IntsAt w u zs) (hr : Hid (ValidR ⟨t, zs, p⟩)) (hk : k ≤ 1000) (hb : Hid (decide (App ⟨t, zs, p⟩ s (k : Int)) = b)) :
    Calls Try.prog 104 #[.agg #[.string t, u, .int .i64 p], .string s, .int .i64 k] w fun e w' => e = .returned (.bool b) ∧ Below w.heap.size w w' := by
  have := s_applies w u ⟨t, zs, p⟩ s k hx hr.out hk
  rw [hb.out] at this
  exact this

/-- a list that the call made -/
def ListMade (L : List Int) (w : World) (e : Ending) (w' : World) : Prop := ∃ v, e = .returned v ∧ OwnInts w' w.heap.size v L ∧ Below w.heap.size w w' ∧ ∃ a n c, v = .slice a n c
theorem OwnInts.isSlice' {w : World} {base : Nat} {v : Value} {zs : List Int} (h : OwnInts w base v zs) : ∃ a n c, v = .slice a n c := by
  obtain ⟨a, c, rfl, _⟩ := h.at; exact ⟨a, _, c, rfl⟩

set_option maxHeartbeats 2000000 in
theorem i_rulesAt (w : World) (v : Value) (T : List PRule) (s : ByteArray) (a : Int) (hx : TableAt w v T) (hv : Hid (ValidTb T)) (h1 : 1 ≤ s.size) (h2 : s.size ≤ 16) (ha0 : -9223372036854775808 ≤ a) (ha1 : a ≤ 9223372036854775807) :
    Calls Try.prog 43 #[v, .string s, .int .i64 a] w fun e w' => ListMade (rulesL T s a) w e w' := by
  obtain ⟨i0, hi, hz0, hz1, hz2⟩ := info_parts infoInt
  obtain ⟨aa, cp, rfl, x1, x2, x3⟩ := hx
  obtain ⟨n, hn⟩ : ∃ n, T.length = n := ⟨_, rfl⟩
  rw [hn] at x1 x3 ⊢
  have hbig : n ≤ 16 := by have := hv.out.1; omega
  have HN := Lib.hid hn
  clear hn
  go_enter Try.func43, Try.ntmps43
  go_wp2
  go_loopw [7, 12] (fun o i wr => ∃ k : Nat, k ≤ n ∧ i = .int .i64 k ∧ OwnInts wr w.heap.size o (rulesTo T s a k) ∧ Below w.heap.size w wr) (fun _ i _ => n - (intOf i).toNat)
  case atStart => exact ⟨0, Nat.zero_le _, rfl, OwnInts.nil _ _, Below.refl _ _⟩
  case round =>
    obtain ⟨k, hk, rfl, hO, hb1⟩ := hrel
    have hsz := hb1.size
    by_cases hlt : k < n
    · rcases x3 with rfl | ⟨g, off, rfl, x3⟩
      · exact absurd HN.out (by simp; omega)
      obtain ⟨r, hr⟩ : ∃ r, T.getD k noR = r := ⟨_, rfl⟩
      have hra := x3 k hlt
      have hvr := hv.out.2.1 k (by rw [HN.out]; exact hlt)
      rw [hr] at hra hvr
      have HR := Lib.hid hr
      clear hr x3
      obtain ⟨t, zs, q⟩ := r
      have HVR := Lib.hid hvr
      obtain ⟨c0, ⟨u, c1, hu⟩, c2⟩ := hra
      have HU : Hid (IntsAt w u zs) := hu
      obtain ⟨a2, cp2, rfl, _⟩ := hu
      simp only at c0 c1 c2
      have c0 := (hb1.cell (World.block_lt_of_cell? w _ c0)).trans c0
      have c1 := (hb1.cell (World.block_lt_of_cell? w _ c1)).trans c1
      have c2 := (hb1.cell (World.block_lt_of_cell? w _ c2)).trans c2
      have hBW := hb1.alloc hsz (.cells #[.string t, .slice a2 zs.length cp2, .int .i64 q] 36)
      have hOW : OwnInts (wr.alloc (.cells #[.string t, .slice a2 zs.length cp2, .int .i64 q] 36)) w.heap.size _ _ := hO.alloc (.cells #[.string t, .slice a2 zs.length cp2, .int .i64 q] 36)
      go_wp2_with fail
      generalize wr.alloc (.cells #[.string t, .slice a2 zs.length cp2, .int .i64 q] 36) = W1 at hBW hOW ⊢
      clear c0 c1 c2
      have hU1 := HU.out.below hBW
      have hszW := hBW.size
      by_cases hA : App ⟨t, zs, q⟩ s a
      · have HA := Lib.hid (decide_eq_true hA)
        have HL := Lib.hid (rulesTo_yes (T := T) (s := s) (a := a) (k := k) (by rw [HR.out]; exact hA))
        have hle := rulesTo_le T s a k
        clear hA
        refine (i_ruleApplies_v W1 _ t zs q s a true hU1 HVR h1 h2 ha0 ha1 HA).mono ?_
        rintro e w2 ⟨rfl, hb2⟩
        have hB2 := hBW.trans (hb2.mono hszW)
        have hO2 := hOW.below hb2
        have hs2 := hB2.size
        clear hO hOW hBW
        obtain ⟨L, hL⟩ : ∃ L, rulesTo T s a k = L := ⟨_, rfl⟩
        rw [hL] at hO2 hle HL
        clear hL
        obtain ⟨a3, n3, c3, rfl⟩ := hO2.isSlice'
        go_wp2_with (at_builtin; refine wpList_append_own _ rfl _ _ 31 rfl w.heap.size 3 i0 (.int .i64 0) 1 8 Try.underlying31 hi hz0 hz1 hz2 rfl (by decide) _ _ _ rfl (hO2.alloc _) ⟨w2.heap.size, 0, none⟩ 1 1 [.int .i64 (k : Int)] rfl rfl new_one one_cell (by unfold maxLen; omega) (by omega) (by simp; omega) ?_)
        intro v' w3 hown' hgrow _
        have hO3 := OwnInts.snoc hown'
        have hB3 := below_append hB2 hs2 hO2 hgrow
        have HL3 : Hid (OwnInts w3 w.heap.size v' (rulesTo T s a (k + 1))) := by show OwnInts _ _ _ _; rw [HL.out]; exact hO3
        clear hown' hgrow hO2 hO3
        go_wp2
        go_roundw
        case rel => exact ⟨k + 1, by omega, by go_num, HL3.out, hB3⟩
        case measure => simp [intOf]; omega
      · have HA := Lib.hid (decide_eq_false hA)
        have HL := Lib.hid (rulesTo_no (T := T) (s := s) (a := a) (k := k) (by rw [HR.out]; exact hA))
        clear hA
        refine (i_ruleApplies_v W1 _ t zs q s a false hU1 HVR h1 h2 ha0 ha1 HA).mono ?_
        rintro e w2 ⟨rfl, hb2⟩
        have hB2 := hBW.trans (hb2.mono hszW)
        have hO2 := hOW.below hb2
        rw [← HL.out] at hO2
        have HO2 := Lib.hid hO2
        clear hO hOW hBW hO2
        go_wp2
        go_roundw
        case rel => exact ⟨k + 1, by omega, by go_num, HO2.out, hB2⟩
        case measure => simp [intOf]; omega
    · go_wp2
      go_ret
      obtain rfl : k = n := by omega
      exact ⟨_, rfl, by rw [rulesL, HN.out]; exact hO, hb1, hO.isSlice'⟩

set_option maxHeartbeats 2000000 in
theorem i_RulesAt (w : World) (v : Value) (T : List PRule) (s : ByteArray) (a : Int) (hx : TableAt w v T) (hf : TableFits T) (hv : Hid (ValidTb T)) (hs : s.size ≤ 9223372036854775807) (hw : Hid (WordB 16 s.data.toList)) (ha0 : -9223372036854775808 ≤ a) (ha1 : a ≤ 9223372036854775807) :
    Calls Try.prog 16 #[v, .string s, .int .i64 a] w fun e w' => ListMade (rulesL T s a) w e w' := by
  have hsl : 1 ≤ s.size ∧ s.size ≤ 16 := by have := hw.out.1; have := hw.out.2.1; have := wd_size s; omega
  have HX := Lib.hid hx
  have HF := Lib.hid hf
  have HT : Hid (true = true ↔ ValidTb T) := ⟨fun _ => hv.out, fun _ => rfl⟩
  obtain ⟨_, _, rfl, _⟩ := hx
  have HIW : ∀ wx, Hid (Calls Try.prog 40 #[.string s] wx fun e w' => e = .returned (.bool true) ∧ wx = w') := fun wx => by
    have := i_isWord s wx hs
    rw [decide_eq_true hw.out] at this
    exact this
  have HIT : Hid (∀ wx u, TableAt wx u T → Calls Try.prog 39 #[u] wx fun e w' => e = .returned (.bool true) ∧ Below wx.heap.size wx w') := fun wx u h => i_ValidTable wx u T true h HF.out HT
  clear HT
  go_enter Try.func16, Try.ntmps16
  go_wp2_with fail
  refine (HIT.out _ _ HX.out).mono ?_
  rintro e w1 ⟨rfl, hb1⟩
  have hx1 := HX.out.below hb1
  go_wp2_with fail
  refine (HIW _).out.mono ?_
  rintro e w' ⟨rfl, rfl⟩
  go_wp2_with fail
  refine (i_rulesAt _ _ T s a hx1 hv hsl.1 hsl.2 ha0 ha1).mono ?_
  rintro e w2 ⟨v, rfl, hO, hb2, _⟩
  go_wp2
  go_ret
  exact ⟨v, rfl, World.ownsRow.mono hO hb1.size, below_next hb1 hb2, hO.isSlice'⟩
theorem bool_iff_false {P : Prop} (h : ¬ P) : false = true ↔ P := ⟨fun e => absurd e (by simp), fun e => absurd e h⟩
set_option maxHeartbeats 2000000 in
theorem i_RulesAt_no (w : World) (v : Value) (T : List PRule) (s : ByteArray) (a : Int) (hx : TableAt w v T) (hf : TableFits T) (hs : s.size ≤ 9223372036854775807) (hv : Hid (¬ (ValidTb T ∧ WordB 16 s.data.toList))) :
    Calls Try.prog 16 #[v, .string s, .int .i64 a] w fun e w' => ListMade [] w e w' := by
  have HX := Lib.hid hx
  have HF := Lib.hid hf
  obtain ⟨_, _, rfl, _⟩ := hx
  by_cases hT : ValidTb T
  · have HW : Hid (¬ WordB 16 s.data.toList) := fun h => hv.out ⟨hT, h⟩
    have HIT : Hid (∀ wx u, TableAt wx u T → Calls Try.prog 39 #[u] wx fun e w' => e = .returned (.bool true) ∧ Below wx.heap.size wx w') := fun wx u h => i_ValidTable wx u T true h HF.out ⟨fun _ => hT, fun _ => rfl⟩
    have HIW : ∀ wx, Hid (Calls Try.prog 40 #[.string s] wx fun e w' => e = .returned (.bool false) ∧ wx = w') := fun wx => by
      have := i_isWord s wx hs
      rw [decide_eq_false HW.out] at this
      exact this
    clear hT
    go_enter Try.func16, Try.ntmps16
    go_wp2_with fail
    refine (HIT.out _ _ HX.out).mono ?_
    rintro e w1 ⟨rfl, hb1⟩
    go_wp2_with fail
    refine (HIW _).out.mono ?_
    rintro e w' ⟨rfl, rfl⟩
    go_wp2
    go_ret
    exact ⟨_, rfl, OwnInts.nil _ _, hb1, _, _, _, rfl⟩
  · have HIT : Hid (∀ wx u, TableAt wx u T → Calls Try.prog 39 #[u] wx fun e w' => e = .returned (.bool false) ∧ Below wx.heap.size wx w') := fun wx u h => i_ValidTable wx u T false h HF.out (bool_iff_false hT)
    clear hT
    go_enter Try.func16, Try.ntmps16
    go_wp2_with fail
    refine (HIT.out _ _ HX.out).mono ?_
    rintro e w1 ⟨rfl, hb1⟩
    go_wp2
    go_ret
    exact ⟨_, rfl, OwnInts.nil _ _, hb1, _, _, _, rfl⟩
end Go.Proofs.Ytdjgodemeaneeaa
