
/- Tables: whether they are valid, in the program and in its model. -/
import Derived.Test.YtdjgodemeaneeaaTbB
import Derived.Test.YtdjgodemeaneeaaReg
namespace Go.Proofs.Ytdjgodemeaneeaa
open Go.RowKit

/-- one of the rules has the letters s and the place p -/
def HasR (T : List PRule) (s : ByteArray) (p : Int) : Prop := ∃ r ∈ T, r.t = s ∧ r.p = p
def NoUp (T : List PRule) (s : ByteArray) (p : Int) (k : Nat) : Prop := ∀ i, i < k → ¬ ((T.getD i noR).t = s ∧ (T.getD i noR).p = p)
theorem NoUp.zero (T : List PRule) (s : ByteArray) (p : Int) : NoUp T s p 0 := fun i h => absurd h (by omega)
theorem NoUp.succ {T : List PRule} {s : ByteArray} {p : Int} {k : Nat} (h : NoUp T s p k) (e : ¬ ((T.getD k noR).t = s ∧ (T.getD k noR).p = p)) : NoUp T s p (k + 1) := fun i hi => by
  by_cases hik : i = k
  · subst hik; exact e
  · exact h i (by omega)
theorem NoUp.all {T : List PRule} {s : ByteArray} {p : Int} {n : Nat} (h : NoUp T s p n) (hn : T.length = n) : ¬ HasR T s p := by
  rintro ⟨r, hr, e⟩
  obtain ⟨i, hi, rfl⟩ := List.getElem_of_mem hr
  refine h i (by omega) ?_
  simpa [List.getD_eq_getElem?_getD, hi] using e
theorem hasR_of {T : List PRule} {s : ByteArray} {p : Int} {k n : Nat} (hn : T.length = n) (hk : k < n) (e : (T.getD k noR).t = s ∧ (T.getD k noR).p = p) : HasR T s p := by
  refine ⟨T.getD k noR, ?_, e⟩
  rw [List.getD_eq_getElem?_getD, List.getElem?_eq_getElem (by omega), Option.getD_some]; exact List.getElem_mem _

theorem toList_inj {s t : ByteArray} (h : s.toList = t.toList) : s = t := by
  rw [ByteArray.toList_eq, ByteArray.toList_eq] at h
  cases s
  cases t
  simp at h
  rw [h]
theorem toList_nei {s t : ByteArray} (h : ¬ s = t) : ¬ s.toList = t.toList := fun e => h (toList_inj e)

set_option maxHeartbeats 2000000 in
theorem i_hasRule (w : World) (v : Value) (T : List PRule) (s : ByteArray) (p : Int) (b : Bool) (hx : TableAt w v T) (hb : Hid (b = true ↔ HasR T s p)) :
    Calls Try.prog 71 #[v, .string s, .int .i64 p] w fun e w' => e = .returned (.bool b) ∧ Below w.heap.size w w' := by
  obtain ⟨a, cp, rfl, x1, x2, x3⟩ := hx
  obtain ⟨n, hn⟩ : ∃ n, T.length = n := ⟨_, rfl⟩
  rw [hn] at x1 x3 ⊢
  have HN := Lib.hid hn
  clear hn
  go_enter Try.func71, Try.ntmps71
  go_wp2
  go_loopw [11] (fun i wr => ∃ k : Nat, k ≤ n ∧ i = .int .i64 k ∧ NoUp T s p k ∧ Below w.heap.size w wr) (fun i _ => n - (intOf i).toNat)
  case atStart => exact ⟨0, Nat.zero_le _, rfl, NoUp.zero _ _ _, Below.refl _ _⟩
  case round =>
    obtain ⟨k, hk, rfl, hok, hb1⟩ := hrel
    have hsz := hb1.size
    by_cases hlt : k < n
    · rcases x3 with rfl | ⟨g, off, rfl, x3⟩
      · exact absurd HN.out (by simp; omega)
      obtain ⟨r, hr⟩ : ∃ r, T.getD k noR = r := ⟨_, rfl⟩
      have hra := x3 k hlt
      rw [hr] at hra
      have HR := Lib.hid hr
      clear hr x3
      obtain ⟨t, zs, q⟩ := r
      obtain ⟨c0, ⟨u, c1, a2, cp2, rfl, h1, h2, _⟩, c2⟩ := hra
      simp only at c0 c1 c2 h1
      have c0 := (hb1.cell (World.block_lt_of_cell? w _ c0)).trans c0
      have c1 := (hb1.cell (World.block_lt_of_cell? w _ c1)).trans c1
      have c2 := (hb1.cell (World.block_lt_of_cell? w _ c2)).trans c2
      by_cases e1 : t = s
      · by_cases e2 : q = p
        · have HB : Hid (b = true) := hb.out.2 (hasR_of HN.out hlt (by rw [HR.out]; exact ⟨e1, e2⟩))
          have e3 : t.toList = s.toList := by rw [e1]
          have e4 : (q == p) = true := by simpa using e2
          clear e1 e2 hok
          go_wp2
          go_ret
          exact ⟨by rw [HB.out]; rfl, hb1.alloc hsz _⟩
        · have hok' := hok.succ (by rw [HR.out]; exact fun h => e2 h.2)
          have e3 : t.toList = s.toList := by rw [e1]
          have e4 : (q == p) = false := by simpa using e2
          clear e1 e2 hok
          go_wp2
          go_roundw
          case rel => exact ⟨k + 1, by omega, by go_num, hok', hb1.alloc hsz _⟩
          case measure => simp [intOf]; omega
      · have hok' := hok.succ (by rw [HR.out]; exact fun h => e1 h.1)
        have e3 := toList_nei e1
        clear e1 hok
        go_wp2
        go_roundw
        case rel => exact ⟨k + 1, by omega, by go_num, hok', hb1.alloc hsz _⟩
        case measure => simp [intOf]; omega
    · go_wp2
      go_ret
      obtain rfl : k = n := by omega
      have HB : Hid (b = false) := by
        show b = false
        cases b
        · rfl
        · exact absurd (hb.out.1 rfl) (hok.all HN.out)
      exact ⟨by rw [HB.out]; rfl, hb1⟩

theorem i_hasRule_yes (w : World) (v : Value) (T : List PRule) (s : ByteArray) (p : Int) (hx : TableAt w v T) (hb : Hid (HasR T s p)) :
    Calls Try.prog 71 #[v, .string s, .int .i64 p] w fun e w' => e = .returned (.bool true) ∧ Below w.heap.size w w' :=
  i_hasRule w v T s p true hx ⟨fun _ => hb.out, fun _ => rfl⟩
theorem i_hasRule_no (w : World) (v : Value) (T : List PRule) (s : ByteArray) (p : Int) (hx : TableAt w v T) (hb : Hid (¬ HasR T s p)) :
    Calls Try.prog 71 #[v, .string s, .int .i64 p] w fun e w' => e = .returned (.bool false) ∧ Below w.heap.size w w' :=
  i_hasRule w v T s p false hx ⟨fun h => absurd h (by simp), fun h => absurd h hb.out⟩
/-- a valid table -/
def ValidTb (T : List PRule) : Prop := T.length ≤ 16 ∧ (∀ i, i < T.length → ValidR (T.getD i noR)) ∧ ∀ i j, i < T.length → j < i → ¬ ((T.getD j noR).t = (T.getD i noR).t ∧ (T.getD j noR).p = (T.getD i noR).p)
/-- the first k rules are valid, and no two of them have the same letters and place -/
def TbUp (T : List PRule) (k : Nat) : Prop := (∀ i, i < k → ValidR (T.getD i noR)) ∧ ∀ i j, i < k → j < i → ¬ ((T.getD j noR).t = (T.getD i noR).t ∧ (T.getD j noR).p = (T.getD i noR).p)
theorem TbUp.zero (T : List PRule) : TbUp T 0 := ⟨fun i h => absurd h (by omega), fun i j h => absurd h (by omega)⟩
theorem TbUp.succ {T : List PRule} {k : Nat} (h : TbUp T k) (h1 : ValidR (T.getD k noR)) (h2 : ∀ j, j < k → ¬ ((T.getD j noR).t = (T.getD k noR).t ∧ (T.getD j noR).p = (T.getD k noR).p)) : TbUp T (k + 1) := by
  refine ⟨fun i hi => ?_, fun i j hi hj => ?_⟩
  · by_cases hik : i = k
    · subst hik; exact h1
    · exact h.1 i (by omega)
  · by_cases hik : i = k
    · subst hik; exact h2 j hj
    · exact h.2 i j (by omega) hj
theorem takeD {T : List PRule} {k j : Nat} (hj : j < k) : (T.take k).getD j noR = T.getD j noR := by
  rw [List.getD_eq_getElem?_getD, List.getD_eq_getElem?_getD, List.getElem?_take, if_pos hj]
theorem hasR_take {T : List PRule} {s : ByteArray} {p : Int} {k : Nat} (hk : k ≤ T.length) : HasR (T.take k) s p ↔ ∃ j, j < k ∧ (T.getD j noR).t = s ∧ (T.getD j noR).p = p := by
  constructor
  · rintro ⟨r, hr, e⟩
    obtain ⟨j, hj, rfl⟩ := List.getElem_of_mem hr
    have hj' : j < k := by simp at hj; omega
    refine ⟨j, hj', ?_⟩
    have : (T.take k)[j] = T.getD j noR := by rw [← takeD hj', List.getD_eq_getElem?_getD, List.getElem?_eq_getElem hj, Option.getD_some]
    rw [← this]; exact e
  · rintro ⟨j, hj, e⟩
    exact hasR_of (T := T.take k) (n := k) (by simp; omega) hj (by rw [takeD hj]; exact e)
theorem TableAt.cut {w : World} {g off n cp : Nat} {T : List PRule} {k : Nat} (h : ∀ i, i < n → RuleAt w g (off + i * 3) (T.getD i noR)) (hn : T.length = n) (hk : k ≤ n) (hc : n ≤ cp) (hm : cp ≤ 9223372036854775807) :
    TableAt w (.slice (some ⟨g, off, none⟩) k cp) (T.take k) := by
  have hl : (T.take k).length = k := by simp; omega
  refine ⟨_, cp, by rw [hl], by omega, hm, .inr ⟨g, off, rfl, fun i hi => ?_⟩⟩
  rw [takeD (by omega)]
  exact h i (by omega)

theorem i_isRule_v (w : World) (u : Value) (t : ByteArray) (zs : List Int) (q : Int) (b : Bool) (hx : IntsAt w u zs) (hs : t.size ≤ 9223372036854775807) (hb : Hid (decide (ValidR ⟨t, zs, q⟩) = b)) :
    Calls Try.prog 70 #[.agg #[.string t, u, .int .i64 q]] w fun e w' => e = .returned (.bool b) ∧ Below w.heap.size w w' := by
  have := i_isRule w u ⟨t, zs, q⟩ hx hs
  rw [hb.out] at this
  exact this
theorem s_validRule_v (w : World) (u : Value) (t : ByteArray) (zs : List Int) (q : Int) (b : Bool) (hx : IntsAt w u zs) (hs : t.size ≤ 9223372036854775807) (hb : Hid (decide (ValidR ⟨t, zs, q⟩) = b)) :
    Calls Try.prog 74 #[.agg #[.string t, u, .int .i64 q]] w fun e w' => e = .returned (.bool b) ∧ Below w.heap.size w w' := by
  have := s_validRule w u ⟨t, zs, q⟩ hx hs
  rw [hb.out] at this
  exact this
set_option maxHeartbeats 2000000 in
theorem i_ValidTable (w : World) (v : Value) (T : List PRule) (b : Bool) (hx : TableAt w v T) (hf : TableFits T) (hb : Hid (b = true ↔ ValidTb T)) :
    Calls Try.prog 39 #[v] w fun e w' => e = .returned (.bool b) ∧ Below w.heap.size w w' := by
  obtain ⟨a, cp, rfl, x1, x2, x3⟩ := hx
  obtain ⟨n, hn⟩ : ∃ n, T.length = n := ⟨_, rfl⟩
  rw [hn] at x1 x3 ⊢
  have HN := Lib.hid hn
  clear hn
  have HF := Lib.hid hf
  clear hf
  by_cases hbig : n ≤ 16
  · go_enter Try.func39, Try.ntmps39
    go_wp2
    go_loopw [10] (fun i wr => ∃ k : Nat, k ≤ n ∧ i = .int .i64 k ∧ TbUp T k ∧ Below w.heap.size w wr) (fun i _ => n - (intOf i).toNat)
    case atStart => exact ⟨0, Nat.zero_le _, rfl, TbUp.zero _, Below.refl _ _⟩
    case round =>
      obtain ⟨k, hk, rfl, hok, hb1⟩ := hrel
      have hsz := hb1.size
      by_cases hlt : k < n
      · rcases x3 with rfl | ⟨g, off, rfl, x3⟩
        · exact absurd HN.out (by simp; omega)
        have HT : Hid (TableAt w (.slice (some ⟨g, off, none⟩) k cp) (T.take k)) := TableAt.cut x3 HN.out hk x1 x2
        obtain ⟨r, hr⟩ : ∃ r, T.getD k noR = r := ⟨_, rfl⟩
        have hra := x3 k hlt
        have hrf := HF.out.at k
        rw [hr] at hra hrf
        have HR := Lib.hid hr
        clear hr x3
        obtain ⟨t, zs, q⟩ := r
        obtain ⟨c0, ⟨u, c1, hu⟩, c2⟩ := hra
        have HU : Hid (IntsAt w u zs) := hu
        obtain ⟨a2, cp2, rfl, h1, h2, _⟩ := hu
        simp only at c0 c1 c2 h1
        have c0 := (hb1.cell (World.block_lt_of_cell? w _ c0)).trans c0
        have c1 := (hb1.cell (World.block_lt_of_cell? w _ c1)).trans c1
        have c2 := (hb1.cell (World.block_lt_of_cell? w _ c2)).trans c2
        have d0 : (wr.alloc (.cells #[.string t, .slice a2 zs.length cp2, .int .i64 q] 36)).cell? ⟨wr.heap.size, 0, none⟩ = some (.string t) := by rw [cell_of_row _ wr.heap.size 0 _ _ _ (heap_alloc_new wr _)]; rfl
        have d1 : (wr.alloc (.cells #[.string t, .slice a2 zs.length cp2, .int .i64 q] 36)).cell? ⟨wr.heap.size, 1, none⟩ = some (.slice a2 zs.length cp2) := by rw [cell_of_row _ wr.heap.size 1 _ _ _ (heap_alloc_new wr _)]; rfl
        have d2 : (wr.alloc (.cells #[.string t, .slice a2 zs.length cp2, .int .i64 q] 36)).cell? ⟨wr.heap.size, 2, none⟩ = some (.int .i64 q) := by rw [cell_of_row _ wr.heap.size 2 _ _ _ (heap_alloc_new wr _)]; rfl
        have hBW := hb1.alloc hsz (.cells #[.string t, .slice a2 zs.length cp2, .int .i64 q] 36)
        go_wp2_with fail
        generalize wr.alloc (.cells #[.string t, .slice a2 zs.length cp2, .int .i64 q] 36) = W1 at d0 d1 d2 hBW ⊢
        have HU1 : Hid (IntsAt W1.drew (.slice a2 zs.length cp2) zs) := (show IntsAt W1 (.slice a2 zs.length cp2) zs from HU.out.below hBW)
        have HT1 : Hid (∀ wx, Below W1.heap.size W1.drew wx → TableAt wx (.slice (some ⟨g, off, none⟩) k cp) (T.take k)) := fun wx h => (HT.out.below hBW).below ((Below.refl _ _).drew.trans h)
        have HK : Hid (∀ wx, Below W1.heap.size W1.drew wx → wx.cell? ⟨wr.heap.size, 0, none⟩ = some (.string t) ∧ wx.cell? ⟨wr.heap.size, 1, none⟩ = some (.slice a2 zs.length cp2) ∧ wx.cell? ⟨wr.heap.size, 2, none⟩ = some (.int .i64 q) ∧ Below W1.heap.size W1 wx) := fun wx h =>
          ⟨(h.cell (World.block_lt_of_cell? W1 _ d0)).trans d0, (h.cell (World.block_lt_of_cell? W1 _ d1)).trans d1, (h.cell (World.block_lt_of_cell? W1 _ d2)).trans d2, (Below.refl _ _).drew.trans h⟩
        have b1 : (0 : Int) ≤ (k : Int) := by omega
        have b2 : (k : Int) ≤ (cp : Int) := by omega
        clear c0 c1 c2
        by_cases hv : ValidR ⟨t, zs, q⟩
        · have HV : Hid (decide (ValidR ⟨t, zs, q⟩) = true) := decide_eq_true hv
          by_cases hh : HasR (T.take k) t q
          · have HH := Lib.hid hh
            have HB : Hid (b = false) := by
              show b = false
              cases b
              · rfl
              · obtain ⟨j, hj, e⟩ := (hasR_take (by rw [HN.out]; exact hk)).1 hh
                refine absurd e ?_
                have := (hb.out.1 rfl).2.2 k j (by rw [HN.out]; exact hlt) hj
                rw [HR.out] at this
                exact this
            clear hv hh hok
            go_region_held3 (fun w' => w'.cell? ⟨wr.heap.size, 0, none⟩ = some (.string t) ∧ w'.cell? ⟨wr.heap.size, 1, none⟩ = some (.slice a2 zs.length cp2) ∧ w'.cell? ⟨wr.heap.size, 2, none⟩ = some (.int .i64 q) ∧ Below W1.heap.size W1 w') (first | assumption | exact HK.out _ (Below.refl _ _) | exact HK.out _ hb2 | exact HK.out _ (hb2.trans (hb3.mono hb2.size))) (first | (go_at_call 70; refine (i_isRule_v W1.drew _ t zs q true HU1.out hrf.1 HV).mono ?_; rintro e w2 ⟨rfl, hb2⟩) | (go_at_call 71; refine (i_hasRule_yes w2 _ (T.take k) t q (HT1.out _ hb2) HH).mono ?_; rintro e w3 ⟨rfl, hb3⟩))
            all_goals
              go_wp2
              go_ret
              exact ⟨by rw [HB.out]; rfl, hBW.trans (((Below.refl _ _).drew.trans (hb2.trans (hb3.mono hb2.size))).mono hBW.size)⟩
          · have HH := Lib.hid hh
            have hok' : TbUp T (k + 1) := hok.succ (by rw [HR.out]; exact hv) (fun j hj e => hh ((hasR_take (by rw [HN.out]; exact hk)).2 ⟨j, hj, by rw [HR.out] at e; exact e⟩))
            clear hv hh hok
            go_region_held3 (fun w' => w'.cell? ⟨wr.heap.size, 0, none⟩ = some (.string t) ∧ w'.cell? ⟨wr.heap.size, 1, none⟩ = some (.slice a2 zs.length cp2) ∧ w'.cell? ⟨wr.heap.size, 2, none⟩ = some (.int .i64 q) ∧ Below W1.heap.size W1 w') (first | assumption | exact HK.out _ (Below.refl _ _) | exact HK.out _ hb2 | exact HK.out _ (hb2.trans (hb3.mono hb2.size))) (first | (go_at_call 70; refine (i_isRule_v W1.drew _ t zs q true HU1.out hrf.1 HV).mono ?_; rintro e w2 ⟨rfl, hb2⟩) | (go_at_call 71; refine (i_hasRule_no w2 _ (T.take k) t q (HT1.out _ hb2) HH).mono ?_; rintro e w3 ⟨rfl, hb3⟩))
            all_goals
              go_wp2
              go_roundw
              case rel => exact ⟨k + 1, by omega, by go_num, hok', hBW.trans (((Below.refl _ _).drew.trans (hb2.trans (hb3.mono hb2.size))).mono hBW.size)⟩
              case measure => simp [intOf]; omega
        · have HV : Hid (decide (ValidR ⟨t, zs, q⟩) = false) := decide_eq_false hv
          have HB : Hid (b = false) := by
            show b = false
            cases b
            · rfl
            · have := (hb.out.1 rfl).2.1 k (by rw [HN.out]; exact hlt)
              rw [HR.out] at this
              exact absurd this hv
          clear hv hok
          refine wp_region_held_drew (S := fun w' => w'.cell? ⟨wr.heap.size, 0, none⟩ = some (.string t) ∧ w'.cell? ⟨wr.heap.size, 1, none⟩ = some (.slice a2 zs.length cp2) ∧ w'.cell? ⟨wr.heap.size, 2, none⟩ = some (.int .i64 q) ∧ Below W1.heap.size W1 w') (by kernel_rfl) (HK.out _ (Below.refl _ _)) (fun hHeld => ?_)
          refine reg_take (i := 0) (d := 15) (.agg #[.string t, .slice a2 zs.length cp2, .int .i64 q]) rfl rfl (by kernel_rfl) (by kernel_rfl) (by kernel_rfl) (fun _ _ _ h => h) (by rfl) (by intro wq hq; (try obtain ⟨q0, q1, q2, _⟩ := hq); go_simp) (by assumption) ?_
          simp only [Act.put, List.setIfInBounds_toArray, List.set_cons_zero, List.set_cons_succ]
          refine wpAnyH_ready (rs := [1]) (by kernel_rfl) (by simp) ?_
          refine AllReadyH.cons rfl (fun K hK => ?_) AllReadyH.nil
          go_simp
          refine (i_isRule_v W1.drew _ t zs q false HU1.out hrf.1 HV).mono ?_
          rintro e w2 ⟨rfl, hb2⟩
          refine hK.out _ _ (HK.out _ hb2) (fun hHeld2 => ?_)
          clear hK hHeld
          refine reg_take (i := 2) (d := 17) (.bool true) rfl rfl (by kernel_rfl) (by kernel_rfl) (by kernel_rfl) (fun _ _ _ h => h) (by rfl) (by intro wq hq; go_simp) (by assumption) ?_
          simp only [Act.put, List.setIfInBounds_toArray, List.set_cons_zero, List.set_cons_succ]
          refine reg_take (i := 3) (d := 18) (.bool true) rfl rfl (by kernel_rfl) (by kernel_rfl) (by kernel_rfl) (fun _ _ _ h => h) (by rfl) (by intro wq hq; go_simp) (by assumption) ?_
          simp only [Act.put, List.setIfInBounds_toArray, List.set_cons_zero, List.set_cons_succ]
          refine reg_skip (i := 4) (d := 19) rfl rfl (by kernel_rfl) (by kernel_rfl) (by kernel_rfl) (fun _ _ _ h => h) (by rfl) (by assumption) ?_
          simp only [Act.put, List.setIfInBounds_toArray, List.set_cons_zero, List.set_cons_succ]
          refine reg_skip (i := 5) (d := 20) rfl rfl (by kernel_rfl) (by kernel_rfl) (by kernel_rfl) (fun _ _ _ h => h) (by rfl) (by assumption) ?_
          simp only [Act.put, List.setIfInBounds_toArray, List.set_cons_zero, List.set_cons_succ]
          refine reg_skip (i := 6) (d := 21) rfl rfl (by kernel_rfl) (by kernel_rfl) (by kernel_rfl) (fun _ _ _ h => h) (by rfl) (by assumption) ?_
          simp only [Act.put, List.setIfInBounds_toArray, List.set_cons_zero, List.set_cons_succ]
          refine reg_skip (i := 7) (d := 22) rfl rfl (by kernel_rfl) (by kernel_rfl) (by kernel_rfl) (fun _ _ _ h => h) (by rfl) (by assumption) ?_
          simp only [Act.put, List.setIfInBounds_toArray, List.set_cons_zero, List.set_cons_succ]
          refine reg_skip (i := 8) (d := 23) rfl rfl (by kernel_rfl) (by kernel_rfl) (by kernel_rfl) (fun _ _ _ h => h) (by rfl) (by assumption) ?_
          simp only [Act.put, List.setIfInBounds_toArray, List.set_cons_zero, List.set_cons_succ]
          refine reg_skip (i := 9) (d := 24) rfl rfl (by kernel_rfl) (by kernel_rfl) (by kernel_rfl) (fun _ _ _ h => h) (by rfl) (by assumption) ?_
          simp only [Act.put, List.setIfInBounds_toArray, List.set_cons_zero, List.set_cons_succ]
          refine reg_skip (i := 10) (d := 25) rfl rfl (by kernel_rfl) (by kernel_rfl) (by kernel_rfl) (fun _ _ _ h => h) (by rfl) (by assumption) ?_
          simp only [Act.put, List.setIfInBounds_toArray, List.set_cons_zero, List.set_cons_succ]
          refine reg_skip (i := 11) (d := 26) rfl rfl (by kernel_rfl) (by kernel_rfl) (by kernel_rfl) (fun _ _ _ h => h) (by rfl) (by assumption) ?_
          simp only [Act.put, List.setIfInBounds_toArray, List.set_cons_zero, List.set_cons_succ]
          refine reg_take (i := 12) (d := 27) (.bool true) rfl rfl (by kernel_rfl) (by kernel_rfl) (by kernel_rfl) (fun _ _ _ h => h) (by rfl) (by intro wq hq; go_simp) (by assumption) ?_
          simp only [Act.put, List.setIfInBounds_toArray, List.set_cons_zero, List.set_cons_succ]
          refine wpAnyH_done (by kernel_rfl) ?_ _
          all_goals
            go_wp2
            go_ret
            exact ⟨by rw [HB.out]; rfl, hBW.trans (((Below.refl _ _).drew.trans hb2).mono hBW.size)⟩
      · go_wp2
        go_ret
        obtain rfl : k = n := by omega
        have HB : Hid (b = true) := hb.out.2 ⟨by rw [HN.out]; exact hbig, fun i hi => hok.1 i (by have := HN.out; omega), fun i j hi hj => hok.2 i j (by have := HN.out; omega) hj⟩
        exact ⟨by rw [HB.out]; rfl, hb1⟩
  · have hbig' : 16 < n := by omega
    have HB : Hid (b = false) := by
      show b = false
      cases b
      · rfl
      · have := (hb.out.1 rfl).1; have := HN.out; omega
    go_enter Try.func39, Try.ntmps39
    go_wp2
    go_ret
    exact ⟨by rw [HB.out]; rfl, Below.refl _ _⟩
end Go.Proofs.Ytdjgodemeaneeaa
