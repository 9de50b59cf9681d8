
/- CellsOfAscii of both sides. -/
import Derived.Test.YthojahknocageaaAc
import Derived.Test.YthojahknocageaaRdB
import Derived.Deep.RegionHeld3
namespace Go.Proofs.Ythojahknocageaa
open Go.RowKit

theorem results_twoA {fn : Func} {t u : Tmp} (h : fn.results = #[.tmp t, .tmp u]) (tmps : Array Value) (P : Program) (w : World) :
    (results fn tmps).run P w = .ok (.tuple #[tmps.getD t undef, tmps.getD u undef]) w := by
  simp [results, h]
theorem OwnInts.isSliceA {w : World} {base : Nat} {v : Value} {zs : List Int} (h : OwnInts w base v zs) : ∃ a n c, v = .slice a n c := by
  rcases h.2 with ⟨h, _⟩ | ⟨g, cap, _, h, _⟩ <;> exact ⟨_, _, _, h⟩
/-- the first index of a character from an index on -/
def ixF (l : List UInt8) (b : UInt8) (k : Nat) : Nat := k + (l.drop k).findIdx (fun c => c == b)
theorem ixF_stop {l : List UInt8} {b : UInt8} {k : Nat} (h : k < l.length) (e : l[k] = b) : ixF l b k = k := by
  unfold ixF
  rw [List.drop_eq_getElem_cons h, List.findIdx_cons, e]
  simp
theorem ixF_go {l : List UInt8} {b : UInt8} {k : Nat} (h : k < l.length) (e : l[k] ≠ b) : ixF l b k = ixF l b (k + 1) := by
  unfold ixF
  rw [List.drop_eq_getElem_cons h, List.findIdx_cons]
  have : (l[k] == b) = false := by simpa using e
  rw [this]
  simp only [cond_false]
  omega
theorem ixF_end {l : List UInt8} {b : UInt8} : ixF l b l.length = l.length := by
  unfold ixF
  rw [List.drop_length]; rfl
theorem ixF_amap (b : UInt8) : ixF amap b 0 = acell b := by unfold ixF acell; rw [List.drop_zero, Nat.zero_add]
theorem data_size (s : ByteArray) : s.data.toList.length = s.size := by rw [Array.length_toList]; rfl
theorem byte_at {s : ByteArray} {k : Nat} (h : k < s.size) (h2 : k < s.data.toList.length) : s.data.toList[k]'h2 = s[k]'h := rfl
theorem u8_int_ne {b c : UInt8} (h : b ≠ c) : ((b.toNat : Int) != (c.toNat : Int)) = true := by
  have : b.toNat ≠ c.toNat := fun e => h (UInt8.toNat_inj.1 e)
  simp
  omega
theorem u8_int_eq {b c : UInt8} (h : b = c) : ((b.toNat : Int) != (c.toNat : Int)) = false := by
  subst h; simp
set_option maxHeartbeats 1000000 in
theorem i_indexFrom (s : ByteArray) (l : List UInt8) (k0 r : Nat) (b : UInt8) (w : World) (hL : Hid (s.data.toList = l)) (hs : s.size ≤ 9223372036854775000) (h0 : k0 ≤ s.size) (hr : Hid (ixF l b k0 = r)) :
    Calls Try.prog 29 #[.string s, .int .i64 k0, .int .u8 (b.toNat : Int)] w fun e w' => e = .returned (.int .i64 r) ∧ w = w' := by
  have HL : Hid (l.length = s.size) := by show _ = _; rw [← hL.out, data_size]
  have HE : Hid (∀ k (h : k < s.size), ∃ h2 : k < l.length, l[k] = s[k]) := fun k h => by
    have := hL.out
    subst this
    exact ⟨by rw [data_size]; exact h, rfl⟩
  clear hL
  go_enter Try.func29, Try.ntmps29
  go_wp2
  go_loop [7] (fun i => ∃ k : Nat, k ≤ s.size ∧ i = .int .i64 k ∧ Hid (ixF l b k0 = ixF l b k)) (fun i => s.size - (intOf i).toNat)
  case atStart => exact ⟨k0, h0, rfl, rfl⟩
  case round =>
    obtain ⟨k, hk, rfl, ht⟩ := hrel
    by_cases hlt : k < s.size
    · obtain ⟨h2, hb⟩ := HE.out k hlt
      by_cases e : s[k] = b
      · have e1 := u8_int_eq e
        have hT : Hid (r = k) := by show _ = _; rw [← hr.out, ht.out, ixF_stop h2 (hb.trans e)]
        clear e hb
        go_wp2
        go_ret
        exact ⟨by rw [hT.out]; rfl, rfl⟩
      · have e1 := u8_int_ne e
        have hT : Hid (ixF l b k0 = ixF l b (k + 1)) := by show _ = _; rw [ht.out, ixF_go h2 (by rw [hb]; exact e)]
        clear e hb
        go_wp2
        go_round
        case rel => exact ⟨k + 1, by omega, by go_num, hT⟩
        case measure => simp [intOf]; omega
    · have hT : Hid (r = k) := by
        show _ = _
        obtain rfl : k = l.length := by have := HL.out; omega
        rw [← hr.out, ht.out, ixF_end]
      go_wp2
      go_ret
      exact ⟨by rw [hT.out]; rfl, rfl⟩
/-- the first k characters are those of cells -/
def AUp (l : List UInt8) (k : Nat) : Prop := ∀ b ∈ l.take k, acell b < 64
theorem AUp.zero (l : List UInt8) : AUp l 0 := by intro b hb; simp at hb
theorem take_byte {l : List UInt8} {k : Nat} (h : k < l.length) : l.take (k + 1) = l.take k ++ [l[k]] := by
  rw [List.take_succ_eq_append_getElem h]
theorem AUp.succ {l : List UInt8} {k : Nat} (h : AUp l k) (hk : k < l.length) (e : acell l[k] < 64) : AUp l (k + 1) := by
  intro b hb
  rw [take_byte hk] at hb
  rcases List.mem_append.1 hb with hb | hb
  · exact h b hb
  · simp at hb; subst hb; exact e
/-- the cells of the first k characters -/
def acL (l : List UInt8) (k : Nat) : List Int := (l.take k).map (fun b => (acell b : Int))
theorem acL_succ {l : List UInt8} {k : Nat} (hk : k < l.length) : acL l (k + 1) = acL l k ++ [(acell l[k] : Int)] := by
  unfold acL; rw [take_byte hk, List.map_append]; rfl
theorem acL_len (l : List UInt8) (k : Nat) : (acL l k).length ≤ k := by unfold acL; rw [List.length_map, List.length_take]; omega
/-- what reading characters answers -/
def RA (l : List UInt8) (L : List Int) (b : Bool) : Prop := (b = true ∧ readA l = some L) ∨ (b = false ∧ L = [] ∧ readA l = none)
theorem ra_ex (l : List UInt8) : ∃ L b, RA l L b := by
  cases h : readA l with
  | none => exact ⟨[], false, .inr ⟨rfl, rfl, h⟩⟩
  | some L => exact ⟨L, true, .inl ⟨rfl, h⟩⟩
theorem RA.bad {l : List UInt8} {L : List Int} {b : Bool} (h : RA l L b) (hn : readA l = none) : L = [] ∧ b = false := by
  rcases h with ⟨_, h⟩ | ⟨h1, h2, _⟩
  · rw [hn] at h; simp at h
  · exact ⟨h2, h1⟩
theorem RA.good {l : List UInt8} {L M : List Int} {b : Bool} (h : RA l L b) (hn : readA l = some M) : L = M ∧ b = true := by
  rcases h with ⟨h1, h⟩ | ⟨_, _, h⟩
  · rw [hn] at h; injection h with h; exact ⟨h.symm, h1⟩
  · rw [hn] at h; simp at h
theorem readA_long {l : List UInt8} (h : 200 < l.length) : readA l = none := if_neg (fun h' => by omega)
theorem readA_bad {l : List UInt8} {k : Nat} (hk : k < l.length) (h : ¬ acell l[k] < 64) : readA l = none := if_neg (fun h' => h (h'.2 _ (List.getElem_mem _)))
theorem readA_all {l : List UInt8} (h : AUp l l.length) (hl : l.length ≤ 200) : readA l = some (acL l l.length) := by
  unfold readA acL
  rw [List.take_length]
  unfold AUp at h
  rw [List.take_length] at h
  exact if_pos ⟨hl, h⟩
set_option maxHeartbeats 2000000 in
theorem i_CellsOfAscii (s : ByteArray) (l : List UInt8) (L : List Int) (b : Bool) (w : World) (hL : Hid (s.data.toList = l)) (hs : s.size ≤ 9223372036854775000) (hr : Hid (RA l L b)) :
    Calls Try.prog 13 #[.string s] w fun e w' => ∃ a n c, e = .returned (.tuple #[.slice a n c, .bool b]) ∧ OwnInts w' w.heap.size (.slice a n c) L ∧ Below w.heap.size w w' := by
  obtain ⟨i0, hi, hz0, hz1, hz2⟩ := info_parts infoInt
  have HL : Hid (l.length = s.size) := by show _ = _; rw [← hL.out, data_size]
  have HE : Hid (∀ k (h : k < s.size), ∃ h2 : k < l.length, l[k] = s[k]) := fun k h => by
    have := hL.out
    subst this
    exact ⟨by rw [data_size]; exact h, rfl⟩
  by_cases hbig : s.size ≤ 200
  · go_enter Try.func13, Try.ntmps13
    go_wp2
    go_loopw [4, 5] (fun v i wr => ∃ k : Nat, k ≤ s.size ∧ i = .int .i64 k ∧ Hid (AUp l k) ∧ OwnInts wr w.heap.size v (acL l k) ∧ Below w.heap.size w wr) (fun _ i _ => s.size - (intOf i).toNat)
    case atStart => exact ⟨0, Nat.zero_le _, rfl, AUp.zero _, OwnInts.nil _ _, Below.refl _ _⟩
    case round =>
      obtain ⟨k, hk, rfl, hu, hown, hb⟩ := hrel
      have hsw := hb.size
      by_cases hlt : k < s.size
      · obtain ⟨h2, hbk⟩ := HE.out k hlt
        obtain ⟨x, hx⟩ : ∃ x, s[k] = x := ⟨_, rfl⟩
        obtain ⟨q, hq⟩ : ∃ q, acell x = q := ⟨_, rfl⟩
        have HQ : Hid (ixF amap s[k] 0 = q) := by show _ = _; rw [ixF_amap, hx, hq]
        have hq64 : q ≤ 64 := by rw [← hq]; exact acell_le x
        by_cases e : q = 64
        · have hbad := hr.out.bad (readA_bad h2 (by rw [hbk, hx, hq]; omega))
          obtain ⟨hb1, hb2⟩ := hbad
          subst hb1 hb2 e
          clear hx hq hbk
          go_wp2_with fail
          refine (i_indexFrom amapB amap 0 64 s[k] wr (keptA rfl) (by decide) (Nat.zero_le _) HQ).mono ?_
          rintro e w' ⟨rfl, rfl⟩
          go_wp2
          refine bodyPost_ret (results_twoA rfl _ _ _) rfl ?_
          exact ⟨_, _, _, rfl, OwnInts.nil _ _, hb⟩
        · have e64 : ((q : Int) == 64) = false := by simp; omega
          have hu' : Hid (AUp l (k + 1)) := hu.out.succ h2 (by rw [hbk, hx, hq]; omega)
          have hS : Hid (acL l (k + 1) = acL l k ++ [(q : Int)]) := by show _ = _; rw [acL_succ h2, hbk, hx, hq]
          have hll := acL_len l k
          obtain ⟨D, hD⟩ : ∃ D, acL l k = D := ⟨_, rfl⟩
          rw [hD] at hown hS hll
          clear hx hq hbk e hD
          go_wp2_with fail
          refine (i_indexFrom amapB amap 0 q s[k] wr (keptA rfl) (by decide) (Nat.zero_le _) HQ).mono ?_
          rintro e w' ⟨rfl, rfl⟩
          go_wp2_with (at_builtin; refine wpList_append_own _ rfl _ _ 23 rfl w.heap.size 3 i0 (.int .i64 0) 1 8 Try.underlying23 hi hz0 hz1 hz2 rfl (by decide) _ _ _ rfl (hown.alloc _) ⟨wr.heap.size, 0, none⟩ 1 1 [.int .i64 (q : Int)] rfl rfl new_one one_cell (by unfold maxLen; omega) (by omega) (by simp; omega) ?_)
          intro v' w1 hown' hgrow _
          have R1 := OwnInts.snoc hown'
          have R2 := below_append hb hsw hown hgrow
          clear hown' hgrow hown hb
          go_wp2
          go_roundw
          case rel => exact ⟨k + 1, by omega, by go_num, hu', by rw [hS.out]; exact R1, R2⟩
          case measure => simp [intOf]; omega
      · obtain rfl : k = s.size := by omega
        obtain ⟨h1, h2⟩ := hr.out.good (readA_all (by rw [HL.out]; exact hu.out) (by rw [HL.out]; exact hbig))
        rw [HL.out] at h1
        have hH := keptA h1
        subst h2
        obtain ⟨_, _, _, rfl⟩ := hown.isSliceA
        clear h1
        go_wp2
        refine bodyPost_ret (results_twoA rfl _ _ _) rfl ?_
        exact ⟨_, _, _, rfl, by rw [hH.out]; exact hown, hb⟩
  · have hbig' : 200 < s.size := by omega
    obtain ⟨hb1, hb2⟩ := hr.out.bad (readA_long (by rw [HL.out]; exact hbig'))
    subst hb1 hb2
    go_enter Try.func13, Try.ntmps13
    go_wp2
    refine bodyPost_ret (results_twoA rfl _ _ _) rfl ?_
    exact ⟨_, _, _, rfl, OwnInts.nil _ _, Below.refl _ _⟩
end Go.Proofs.Ythojahknocageaa
