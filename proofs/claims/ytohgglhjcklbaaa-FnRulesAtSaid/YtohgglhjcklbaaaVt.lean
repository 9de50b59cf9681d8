
/- FnRulesAt: its walk. -/
import Derived.Test.YtohgglhjcklbaaaVv
import Derived.Test.YtohgglhjcklbaaaPFW
import Derived.Deep.QuietTactic
import Derived.BigQuiet
namespace Go.Proofs.Ytohgglhjcklbaaa
open Go.RowKit

set_option maxHeartbeats 2000000 in
theorem l_isWord (s : ByteArray) (w : World) (hs : s.size ≤ 9223372036854775807) :
    Calls Try.prog 33 #[.string s] w fun e w' => e = .returned (.bool (decide (WordB 16 s.data.toList))) ∧ w = w' := by
  have hl := wd_size s
  obtain ⟨l, hL⟩ : ∃ l, s.data.toList = l := ⟨_, rfl⟩
  have HE : ∀ k (h : k < s.size), ∃ h2 : k < l.length, l[k] = s[k] := fun k h => ⟨by rw [← hL, hl]; exact h, by subst hL; exact wd_byte h _⟩
  rw [hL] at hl ⊢
  have HL := Lib.hid hl
  have HHE := Lib.hid HE
  clear hl hL HE
  go_enter Try.func33, Try.ntmps33
  go_wp2
  go_loop [3] (fun i => ∃ k : Nat, k ≤ s.size ∧ i = .int .i64 k ∧ SmUp l k) (fun i => s.size - (intOf i).toNat)
  case atStart => exact ⟨0, by omega, rfl, SmUp.zero _⟩
  case round =>
    obtain ⟨k, hk, rfl, hok⟩ := hrel
    by_cases hlt : k < s.size
    · obtain ⟨h3, hbk⟩ := HHE.out k hlt
      by_cases c1 : (s[k]).toNat < 97
      · have HN : Hid (¬ WordB 16 l) := fun h => not_small h3 (by rw [hbk]; exact decide_eq_false (by omega)) h.2.2
        clear hbk hok
        go_wp2
        go_ret
        exact ⟨ret_bool (decide_eq_false HN.out).symm, rfl⟩
      · by_cases c2 : 122 < (s[k]).toNat
        · have HN : Hid (¬ WordB 16 l) := fun h => not_small h3 (by rw [hbk]; exact decide_eq_false (by omega)) h.2.2
          clear hbk hok
          go_wp2
          go_ret
          exact ⟨ret_bool (decide_eq_false HN.out).symm, rfl⟩
        · have hok' : Hid (SmUp l (k + 1)) := hok.succ h3 (by rw [hbk]; exact decide_eq_true (by omega))
          clear hbk hok
          go_wp2
          go_round
          case rel => exact ⟨k + 1, by omega, by go_num, hok'.out⟩
          case measure => simp [intOf]; omega
    · have hall : Hid (∀ b ∈ l, smallN b.toNat = true) := SmUp.all (by rw [HL.out, show s.size = k from by omega]; exact hok)
      have HY : Hid (WordB 16 l ↔ 0 < s.size ∧ s.size ≤ 16) := by
        show _ ↔ _
        have := HL.out
        exact ⟨fun h => ⟨by have := h.1; omega, by have := h.2.1; omega⟩, fun h => ⟨by omega, by omega, hall.out⟩⟩
      by_cases c1 : 0 < s.size
      · by_cases c2 : s.size ≤ 16
        · have HW : Hid (WordB 16 l) := HY.out.2 ⟨c1, c2⟩
          go_wp2
          go_ret
          exact ⟨ret_bool ((decide_eq_true (show (s.size : Int) ≤ 16 by omega)).trans (decide_eq_true HW.out).symm), rfl⟩
        · have HW : Hid (¬ WordB 16 l) := fun h => c2 (HY.out.1 h).2
          go_wp2
          go_ret
          exact ⟨ret_bool ((decide_eq_false (show ¬ (s.size : Int) ≤ 16 by omega)).trans (decide_eq_false HW.out).symm), rfl⟩
      · have HW : Hid (¬ WordB 16 l) := fun h => c1 (HY.out.1 h).1
        go_wp2
        go_ret
        exact ⟨ret_bool (decide_eq_false HW.out).symm, rfl⟩
theorem l_isWord_b (s : ByteArray) (b : Bool) (w : World) (hs : s.size ≤ 9223372036854775807) (hb : Hid (decide (WordB 16 s.data.toList) = b)) :
    Calls Try.prog 33 #[.string s] w fun e w' => e = .returned (.bool b) ∧ w = w' := by
  have := l_isWord s w hs
  rw [hb.out] at this
  exact this

theorem mem_rulesTo {T : List PRule} {s : ByteArray} {p : Int} {k : Nat} : ∀ n, (k : Int) ∈ rulesTo T s p n ↔ k < n ∧ App (T.getD k noR) s p := by
  intro n
  induction n with
  | zero => exact ⟨fun h => absurd h (by simp [rulesTo]), fun h => by omega⟩
  | succ n ih =>
    show _ ∈ rulesTo T s p n ++ _ ↔ _
    rw [List.mem_append, ih]
    constructor
    · rintro (h | h)
      · exact ⟨by omega, h.2⟩
      · split at h
        · rename_i ha
          simp at h
          obtain rfl : k = n := by omega
          exact ⟨by omega, ha⟩
        · simp at h
    · rintro ⟨h1, h2⟩
      by_cases hk : k < n
      · exact .inl ⟨hk, h2⟩
      · obtain rfl : k = n := by omega
        right
        rw [if_pos h2]
        simp
theorem asc_snoc {zs : List Int} {z : Int} (h : AscUp zs zs.length) (hz : ∀ y ∈ zs, y < z) : AscUp (zs ++ [z]) (zs ++ [z]).length := by
  intro i h1 hi
  rw [List.length_append, List.length_singleton] at hi
  by_cases hk : i < zs.length
  · have := h i h1 hk
    rw [List.getD_eq_getElem?_getD, List.getD_eq_getElem?_getD] at this ⊢
    rw [List.getElem?_append_left (by omega), List.getElem?_append_left hk]
    exact this
  · obtain rfl : i = zs.length := by omega
    rw [List.getD_eq_getElem?_getD, List.getD_eq_getElem?_getD, List.getElem?_append_left (by omega), List.getElem?_append_right (Nat.le_refl _)]
    simp only [Nat.sub_self, List.getElem?_cons_zero, Option.getD_some]
    rw [List.getElem?_eq_getElem (by omega), Option.getD_some]
    exact hz _ (List.getElem_mem _)
theorem asc_rules (T : List PRule) (s : ByteArray) (p : Int) : ∀ n, AscUp (rulesTo T s p n) (rulesTo T s p n).length := by
  intro n
  induction n with
  | zero => intro i h1 h2; simp [rulesTo] at h2
  | succ n ih =>
    by_cases ha : App (T.getD n noR) s p
    · rw [rulesTo_yes ha]
      exact asc_snoc ih (fun y hy => rulesTo_lt n hy)
    · rw [rulesTo_no ha]; exact ih
end Go.Proofs.Ytohgglhjcklbaaa
