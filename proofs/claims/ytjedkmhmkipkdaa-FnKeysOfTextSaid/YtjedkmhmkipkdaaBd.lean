
/- Keys in the model: the keys that are down as a list, and as a number. -/
import Derived.Test.YtjedkmhmkipkdaaBc
import Derived.Test.YtjedkmhmkipkdaaRange
namespace Go.Proofs.Ytjedkmhmkipkdaa
open Go.RowKit

def mskB (a b c d e f g : Bool) : Nat := a.toNat + 2 * b.toNat + 4 * c.toNat + 8 * d.toNat + 16 * e.toNat + 32 * f.toNat + 64 * g.toNat
/-- the number of the keys of a list -/
def msk (L : List Int) : Nat := mskB (decide (1 ∈ L)) (decide (2 ∈ L)) (decide (3 ∈ L)) (decide (4 ∈ L)) (decide (5 ∈ L)) (decide (6 ∈ L)) (decide (7 ∈ L))
def KeysOk (L : List Int) : Prop := L.Nodup ∧ ∀ z ∈ L, 1 ≤ z ∧ z ≤ 7
theorem msk_nil : msk [] = 0 := by decide
theorem mskB_lt : ∀ a b c d e f g : Bool, mskB a b c d e f g < 128 := by decide
theorem msk_lt (L : List Int) : msk L < 128 := mskB_lt _ _ _ _ _ _ _
theorem mskB_zero : ∀ a b c d e f g : Bool, mskB a b c d e f g = 0 → (a || b || c || d || e || f || g) = false := by decide
theorem msk_zero {L : List Int} (h : KeysOk L) (e : msk L = 0) : L = [] := by
  have hz := mskB_zero _ _ _ _ _ _ _ e
  simp only [Bool.or_eq_false_iff, decide_eq_false_iff_not] at hz
  obtain ⟨⟨⟨⟨⟨⟨h1, h2⟩, h3⟩, h4⟩, h5⟩, h6⟩, h7⟩ := hz
  cases L with
  | nil => rfl
  | cons z L =>
    have := h.2 z (by simp)
    rcases cases7 this.1 this.2 with rfl | rfl | rfl | rfl | rfl | rfl | rfl <;> simp_all
theorem mskB_and : ∀ a b c d e f g : Bool, ((mskB a b c d e f g &&& 1 = 0 ↔ a = false) ∧ (mskB a b c d e f g &&& 2 = 0 ↔ b = false)) ∧ ((mskB a b c d e f g &&& 4 = 0 ↔ c = false) ∧ (mskB a b c d e f g &&& 8 = 0 ↔ d = false)) ∧ ((mskB a b c d e f g &&& 16 = 0 ↔ e = false) ∧ (mskB a b c d e f g &&& 32 = 0 ↔ f = false) ∧ (mskB a b c d e f g &&& 64 = 0 ↔ g = false)) := by decide
theorem msk_mem {L : List Int} {k : Int} (h0 : 1 ≤ k) (h1 : k ≤ 7) : msk L &&& kb k = 0 ↔ k ∉ L := by
  obtain ⟨⟨q1, q2⟩, ⟨q3, q4⟩, q5, q6, q7⟩ := mskB_and (decide (1 ∈ L)) (decide (2 ∈ L)) (decide (3 ∈ L)) (decide (4 ∈ L)) (decide (5 ∈ L)) (decide (6 ∈ L)) (decide (7 ∈ L))
  simp only [decide_eq_false_iff_not] at q1 q2 q3 q4 q5 q6 q7
  rcases cases7 h0 h1 with rfl | rfl | rfl | rfl | rfl | rfl | rfl
  · exact q1
  · exact q2
  · exact q3
  · exact q4
  · exact q5
  · exact q6
  · exact q7
theorem msk_add {L : List Int} {k : Int} (h0 : 1 ≤ k) (h1 : k ≤ 7) (h : k ∉ L) : msk (L ++ [k]) = msk L + kb k := by
  unfold msk mskB
  rcases cases7 h0 h1 with rfl | rfl | rfl | rfl | rfl | rfl | rfl <;> simp [h, kb] <;> omega
theorem msk_del {A B : List Int} {k : Int} (h0 : 1 ≤ k) (h1 : k ≤ 7) (h : k ∉ A ++ B) : msk (A ++ B) = msk (A ++ k :: B) - kb k := by
  have ha : k ∉ A := fun h' => h (by simp [h'])
  have hb : k ∉ B := fun h' => h (by simp [h'])
  unfold msk mskB
  rcases cases7 h0 h1 with rfl | rfl | rfl | rfl | rfl | rfl | rfl <;> simp [ha, hb, kb] <;> omega
theorem KeysOk.nil : KeysOk [] := ⟨List.nodup_nil, by simp⟩
theorem KeysOk.add {L : List Int} {k : Int} (h : KeysOk L) (h0 : 1 ≤ k) (h1 : k ≤ 7) (hn : k ∉ L) : KeysOk (L ++ [k]) := by
  refine ⟨?_, fun z hz => ?_⟩
  · rw [List.nodup_append]
    refine ⟨h.1, by simp, ?_⟩
    intro a ha b hb e
    simp at hb
    subst hb e
    exact hn ha
  · rcases List.mem_append.1 hz with hz | hz
    · exact h.2 z hz
    · simp at hz; omega
theorem split_at {L : List Int} {i : Nat} (h : i < L.length) : L = L.take i ++ L.getD i 0 :: L.drop (i + 1) := by
  rw [List.getD_eq_getElem?_getD, List.getElem?_eq_getElem h, Option.getD_some, List.getElem_cons_drop, List.take_append_drop]
theorem KeysOk.del {L : List Int} {i : Nat} {k : Int} (h : KeysOk L) (hi : i < L.length) (hk : L.getD i 0 = k) : KeysOk (L.take i ++ L.drop (i + 1)) ∧ msk (L.take i ++ L.drop (i + 1)) = msk L - kb k ∧ 1 ≤ k ∧ k ≤ 7 ∧ k ∈ L := by
  have hs := split_at hi
  rw [hk] at hs
  obtain ⟨A, hA⟩ : ∃ A, L.take i = A := ⟨_, rfl⟩
  obtain ⟨B, hB⟩ : ∃ B, L.drop (i + 1) = B := ⟨_, rfl⟩
  rw [hA, hB] at hs ⊢
  clear hA hB
  subst hs
  have hm : k ∈ A ++ k :: B := by simp
  have hr := h.2 k hm
  have hnd := h.1
  rw [List.nodup_append, List.nodup_cons] at hnd
  obtain ⟨n1, ⟨n2, n3⟩, n4⟩ := hnd
  have hn : k ∉ A ++ B := by
    intro h'
    rcases List.mem_append.1 h' with h' | h'
    · exact n4 k h' k (by simp) rfl
    · exact n2 h'
  refine ⟨⟨?_, fun z hz => h.2 z (by rcases List.mem_append.1 hz with hz | hz <;> simp [hz])⟩, msk_del hr.1 hr.2 hn, hr.1, hr.2, hm⟩
  rw [List.nodup_append]
  exact ⟨n1, n3, fun a ha b hb => n4 a ha b (by simp [hb])⟩
/-- the model's way of telling what can happen -/
theorem canB_list {L : List Int} {e : Int} : CanB e (msk L) ↔ (1 ≤ e ∧ e ≤ 7 ∧ e ∉ L) ∨ (-7 ≤ e ∧ e ≤ -1 ∧ -e ∈ L) := by
  unfold CanB
  constructor
  · rintro (h | h)
    · exact .inl ⟨h.1, h.2.1, (msk_mem h.1 h.2.1).1 h.2.2⟩
    · refine .inr ⟨h.1, h.2.1, ?_⟩
      by_cases hm : -e ∈ L
      · exact hm
      · exact absurd ((msk_mem (by omega) (by omega)).2 hm) h.2.2
  · rintro (h | h)
    · exact .inl ⟨h.1, h.2.1, (msk_mem h.1 h.2.1).2 h.2.2⟩
    · exact .inr ⟨h.1, h.2.1, fun h' => (msk_mem (by omega) (by omega)).1 h' h.2.2⟩
theorem code_tab : ∀ c : Nat, c < 128 → ∀ i : Nat, i < 7 → c ||| kb ((i : Int) + 1) = (if c / kb ((i : Int) + 1) % 2 = 0 then c + kb ((i : Int) + 1) else c) := by decide +kernel
theorem code_press {c : Nat} {k : Int} (hc : c < 128) (h0 : 1 ≤ k) (h1 : k ≤ 7) : c ||| kb k = (if c / kb k % 2 = 0 then c + kb k else c) := by
  have := code_tab c hc (k - 1).toNat (by omega)
  rw [show (((k - 1).toNat : Nat) : Int) + 1 = k from by omega] at this
  exact this
theorem rel_tab : ∀ d : Nat, d < 128 → ∀ i : Nat, i < 7 → d &&& kb ((i : Int) + 1) ≠ 0 → d ||| (d - kb ((i : Int) + 1)) = d := by decide +kernel
theorem eb_press {k : Int} (h0 : 1 ≤ k) (h1 : k ≤ 7) : eb k = kb k := by
  rcases cases7 h0 h1 with rfl | rfl | rfl | rfl | rfl | rfl | rfl <;> decide
/-- behind the press of a key -/
theorem nxt_press {t : KS} {L : List Int} {k : Int} (hi : KInv t) (hd : t.d = msk L) (h0 : 1 ≤ k) (h1 : k ≤ 7) (hn : k ∉ L) :
    nxtK t k = ⟨msk (L ++ [k]), (if t.c / kb k % 2 = 0 then t.c + kb k else t.c), t.out⟩ := by
  have hc : CanB k t.d := by rw [hd]; exact canB_list.2 (.inl ⟨h0, h1, hn⟩)
  have hcode := code_eq hi hc
  rw [eb_press h0 h1, code_press hi.2.1 h0 h1] at hcode
  have ha : aft k t.d = msk (L ++ [k]) := by rw [msk_add h0 h1 hn, aft, if_pos (by omega), hd]
  have hz : aft k t.d ≠ 0 := by
    rw [aft, if_pos (by omega)]
    have := kb_lt h0 h1
    omega
  unfold nxtK
  rw [if_neg hz, hcode, ha]
/-- behind the release of a key -/
theorem nxt_release {t : KS} {L : List Int} {e : Int} {i : Nat} (hi : KInv t) (hk : KeysOk L) (hd : t.d = msk L) (hil : i < L.length) (he : L.getD i 0 = -e) :
    CanB e t.d ∧ nxtK t e = (if L.take i ++ L.drop (i + 1) = [] then ⟨0, 0, t.out ++ [(t.c : Int)]⟩ else ⟨msk (L.take i ++ L.drop (i + 1)), t.c, t.out⟩) := by
  obtain ⟨k1, k2, k3, k4, k5⟩ := hk.del hil he
  have hc : CanB e t.d := by rw [hd]; exact canB_list.2 (.inr ⟨by omega, by omega, k5⟩)
  refine ⟨hc, ?_⟩
  have ha : aft e t.d = msk (L.take i ++ L.drop (i + 1)) := by rw [k2, aft, if_neg (by omega), hd]
  have hcode : t.c ||| aft e t.d = t.c := by
    have hm : t.d &&& kb (-e) ≠ 0 := by rw [hd]; exact fun h' => (msk_mem k3 k4).1 h' k5
    have hr := rel_tab t.d hi.1 (-e - 1).toNat (by omega)
    rw [show (((-e - 1).toNat : Nat) : Int) + 1 = -e from by omega] at hr
    have hr := hr hm
    rw [aft, if_neg (by omega)]
    calc t.c ||| (t.d - kb (-e)) = (t.c ||| t.d) ||| (t.d - kb (-e)) := by rw [hi.2.2.2]
      _ = t.c ||| (t.d ||| (t.d - kb (-e))) := by rw [Nat.or_assoc]
      _ = t.c := by rw [hr, hi.2.2.2]
  unfold nxtK
  rw [hcode, ha]
  by_cases h0 : L.take i ++ L.drop (i + 1) = []
  · rw [if_pos (by rw [h0]; exact msk_nil), if_pos h0]
  · rw [if_neg (fun h' => h0 (msk_zero k1 h')), if_neg h0]
set_option maxHeartbeats 1000000 in
theorem s_bitOf (n : Int) (v : Nat) (w : World) (h0 : 1 ≤ n) (h1 : n ≤ 7) (hv : Hid (kb n = v)) :
    Calls Try.prog 44 #[.int .i64 n] w fun e w' => e = .returned (.int .i64 v) ∧ w = w' := by
  rw [← hv.out]
  clear hv
  go_enter Try.func44, Try.ntmps44
  go_wp2
  go_loop [3, 4] (fun o i => ∃ (k m : Nat), (k : Int) + 1 ≤ n ∧ i = .int .i64 ((k : Int) + 1) ∧ o = .int .i64 m ∧ m ≤ 64 ∧ Hid (2 ^ k = m)) (fun _ i => 8 - (intOf i).toNat)
  case atStart => exact ⟨0, 1, by omega, rfl, rfl, by omega, rfl⟩
  case round =>
    obtain ⟨k, m, hk, rfl, rfl, hm64, hm⟩ := hrel
    by_cases hlt : (k : Int) + 1 < n
    · have hm2 : Hid (2 ^ (k + 1) = 2 * m) := by show _ = _; rw [Nat.pow_succ, hm.out, Nat.mul_comm]
      have hle : 2 * m ≤ 64 := by
        rw [← hm2.out]
        exact Nat.le_trans (Nat.pow_le_pow_right (by omega) (show k + 1 ≤ 6 by omega)) (by decide)
      go_wp2
      go_round
      case rel => exact ⟨k + 1, 2 * m, by omega, by go_num, by go_num, hle, hm2⟩
      case measure => simp [intOf]; omega
    · have hkb : Hid (kb n = m) := by show _ = _; rw [← hm.out, kb]; congr 1; omega
      go_wp2
      go_ret
      exact ⟨by rw [hkb.out]; rfl, rfl⟩
def NoneB (zs : List Int) (c : Int) (k : Nat) : Prop := ∀ i, i < k → zs.getD i 0 ≠ c
theorem NoneB.zero (zs : List Int) (c : Int) : NoneB zs c 0 := fun i h => absurd h (by omega)
theorem NoneB.succ {zs : List Int} {c : Int} {k : Nat} (h : NoneB zs c k) (e : zs.getD k 0 ≠ c) : NoneB zs c (k + 1) := fun i hi => by
  by_cases hik : i = k
  · subst hik; exact e
  · exact h i (by omega)
theorem NoneB.all {zs : List Int} {c : Int} {n : Nat} (h : NoneB zs c n) (hn : zs.length = n) : c ∉ zs := fun hm => by
  obtain ⟨i, hi, e⟩ := List.getElem_of_mem hm
  refine h i (by omega) ?_
  rw [List.getD_eq_getElem?_getD, List.getElem?_eq_getElem hi, Option.getD_some]
  exact e
theorem mem_atB {zs : List Int} {k : Nat} (hk : k < zs.length) : zs.getD k 0 ∈ zs := by
  rw [List.getD_eq_getElem?_getD, List.getElem?_eq_getElem hk, Option.getD_some]; exact List.getElem_mem _
set_option maxHeartbeats 1000000 in
theorem s_placeInB (w : World) (u : Value) (zs : List Int) (c : Int) (hx : IntsAt w u zs) :
    Calls Try.prog 51 #[u, .int .i64 c] w fun e w' => ∃ r : Int, e = .returned (.int .i64 r) ∧ w = w' ∧ ((c ∉ zs ∧ r = -1) ∨ ∃ i : Nat, i < zs.length ∧ r = i ∧ zs.getD i 0 = c) := by
  obtain ⟨a, cp, rfl, x1, x2, x3⟩ := hx
  obtain ⟨n, hn⟩ : ∃ n, zs.length = n := ⟨_, rfl⟩
  rw [hn] at x1 x3 ⊢
  have HN := Lib.hid hn
  clear hn
  go_enter Try.func51, Try.ntmps51
  go_wp2
  go_loop [5] (fun i => ∃ k : Nat, k ≤ n ∧ i = .int .i64 k ∧ NoneB zs c k) (fun i => n - (intOf i).toNat)
  case atStart => exact ⟨0, Nat.zero_le _, rfl, NoneB.zero _ _⟩
  case round =>
    obtain ⟨k, hk, rfl, hs⟩ := hrel
    by_cases hlt : k < n
    · rcases x3 with rfl | ⟨g, off, rfl, x3⟩
      · exact absurd HN.out (by simp; omega)
      have cx := x3 k hlt
      obtain ⟨y, hy⟩ : ∃ y, zs.getD k 0 = y := ⟨_, rfl⟩
      rw [hy] at cx
      have HY := Lib.hid hy
      clear hy x3
      by_cases e : y = c
      · have e1 : (y == c) = true := by simpa using e
        have HF : Hid (y = c) := e
        clear e
        go_wp2
        go_ret
        exact ⟨k, rfl, rfl, .inr ⟨k, hlt, rfl, HY.out.trans HF.out⟩⟩
      · have e1 : (y == c) = false := by simpa using e
        have hs' : Hid (NoneB zs c (k + 1)) := hs.succ (by rw [HY.out]; exact e)
        clear e hs
        go_wp2
        go_round
        case rel => exact ⟨k + 1, by omega, by go_num, hs'.out⟩
        case measure => simp [intOf]; omega
    · obtain rfl : k = n := by omega
      have HF : Hid (c ∉ zs) := hs.all HN.out
      clear hs
      go_wp2
      go_ret
      exact ⟨-1, rfl, rfl, .inl ⟨HF.out, rfl⟩⟩
end Go.Proofs.Ytjedkmhmkipkdaa
