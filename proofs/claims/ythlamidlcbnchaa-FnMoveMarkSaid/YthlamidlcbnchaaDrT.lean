
/- The draw of a text. -/
import Derived.Test.YthlamidlcbnchaaDrQ
namespace Go.Proofs.Ythlamidlcbnchaa
open Go.RowKit

def wordsA : List ByteArray := [⟨#[116, 104, 101]⟩, ⟨#[116, 104, 101, 110]⟩, ⟨#[111, 116, 104, 101, 114]⟩, ⟨#[97, 110, 100]⟩, ⟨#[115, 97, 110, 100]⟩, ⟨#[102, 105, 110, 103, 101, 114]⟩, ⟨#[114, 105, 110, 103]⟩, ⟨#[98, 117, 116]⟩, ⟨#[98]⟩, ⟨#[99, 97, 110]⟩, ⟨#[99, 97, 110, 110, 111, 116]⟩, ⟨#[100, 111]⟩, ⟨#[100, 111, 105, 110, 103]⟩, ⟨#[115, 116, 114, 105, 110, 103]⟩, ⟨#[116, 104, 105, 110, 103]⟩, ⟨#[119, 104, 101, 110]⟩, ⟨#[102, 97, 116, 104, 101, 114]⟩, ⟨#[115, 104, 101, 100]⟩, ⟨#[98, 101, 100]⟩, ⟨#[105, 110]⟩, ⟨#[105, 110, 103, 101, 115, 116]⟩, ⟨#[116, 104, 101, 116, 104, 101]⟩, ⟨#[97, 110, 100, 101, 114]⟩, ⟨#[97]⟩, ⟨#[106, 107, 122]⟩, ⟨#[99, 104, 101, 115, 116]⟩, ⟨#[116, 104, 105, 110]⟩, ⟨#[119, 105, 110, 101]⟩]
def wordsB : List ByteArray := [⟨#[65, 66]⟩, ⟨#[84, 104, 101]⟩, ⟨#[77, 99, 68]⟩, ⟨#[49, 50]⟩, ⟨#[51, 97]⟩, ⟨#[55, 107]⟩, ⟨#[65]⟩, ⟨#[97, 49, 98]⟩, ⟨#[78, 65, 84, 79]⟩, ⟨#[50, 66]⟩, ⟨#[115, 111, 109, 101, 118, 101, 114, 121, 118, 101, 114, 121, 118, 101, 114, 121, 108, 111, 110, 103, 119, 111, 114, 100]⟩, ⟨#[120]⟩]
def seps : List ByteArray := [⟨#[32]⟩, ⟨#[32]⟩, ⟨#[44, 32]⟩, ⟨#[46]⟩, ⟨#[45]⟩, ⟨#[]⟩, ⟨#[39]⟩, ⟨#[63, 32]⟩, ⟨#[32, 32]⟩]
def odd : List ByteArray := [⟨#[95]⟩, ⟨#[10]⟩, ⟨#[42]⟩, ⟨#[34]⟩]
theorem pick_grow {w w' w'' : World} {R : Nat} {o : Obj} (h : w.grownBy w' (some R)) (k : (w'.alloc o).grownBy w'' (some R)) : w.grownBy w'' (some R) :=
  grown_trans h (grown_trans (World.grownBy_alloc w' o _) k)

set_option maxHeartbeats 1000000 in
theorem someWord_any (w : World) (B R L p : Nat) (h : RD w B R L p) (hp : p ≤ 10000000000) :
    Calls Try.prog 59 #[.pointer (some ⟨R, 0, none⟩)] w fun e w' => TextDrawn 6 1 w B R L p e w' := by
  have hlt := h.lt
  go_enter Try.func59, Try.ntmps59
  go_wp2_with fail
  refine (of_any _ B R L p w.heap.size 28 28 wordsA (h.alloc _) (heap_alloc_new w _) (by omega) (Lib.hid rfl) (by omega) (by omega) (by omega)).mono ?_
  rintro e w1 ⟨s, rfl, hs, hrd, hgr⟩
  have hs6 : s.size ≤ 6 := small_strs (by decide +kernel) hs
  clear hs
  go_wp2
  go_ret
  exact ⟨s, p + 1, rfl, hs6, hrd, by omega, grown_trans (World.grownBy_alloc w _ _) hgr⟩

set_option maxHeartbeats 4000000 in
theorem someText_any (w : World) (B R L p : Nat) (h : RD w B R L p) (hp : p ≤ 1000000000) :
    Calls Try.prog 41 #[.pointer (some ⟨R, 0, none⟩)] w fun e w' => TextDrawn 130 21 w B R L p e w' := by
  have hlt := h.lt
  go_enter Try.func41, Try.ntmps41
  go_wp2_with fail
  refine (one_any _ B R L p w.heap.size 6 6 [3, 2, 4, 5, 1, 0] (h.alloc _) (heap_alloc_new w _) (by omega) (Lib.hid rfl) (by omega) (by omega) (by omega)).mono ?_
  rintro e w1 ⟨v, rfl, hv, hrd1, hgr1⟩
  have hv5 : 0 ≤ v ∧ v ≤ 5 := by simp at hv; omega
  obtain ⟨k0, rfl⟩ : ∃ k0 : Nat, v = k0 := ⟨v.toNat, by omega⟩
  have hk0 : k0 ≤ 5 := by omega
  have hg1 : w.grownBy w1 (some R) := grown_trans (World.grownBy_alloc w _ _) hgr1
  clear hv hv5 hgr1 h
  go_wp2
  go_loopw [3, 4] (fun t i wr => ∃ (k q : Nat) (s : ByteArray), i = .int .i64 k ∧ t = .string s ∧ k ≤ 5 ∧ s.size + 26 * k ≤ 130 ∧ RD wr B R L q ∧ q + 4 * k ≤ p + 21 ∧ w.grownBy wr (some R)) (fun _ i _ => (intOf i).toNat)
  case atStart => exact ⟨k0, p + 1, _, rfl, rfl, hk0, by have : ByteArray.size ⟨#[]⟩ = 0 := rfl; omega, hrd1, by omega, hg1⟩
  case round =>
    clear hrd1 hg1
    obtain ⟨k, q, s, rfl, rfl, hk, hs, hrd, hq, hg⟩ := hrel
    by_cases hlt0 : 0 < k
    · by_cases h40 : s.size < 40
      · have d1 : decide ((0 : Int) < (k : Int)) = true := decide_eq_true (by omega)
        have d2 : decide ((s.size : Int) < 40) = true := decide_eq_true (by omega)
        go_wp2_with fail
        refine (someWord_any _ B R L q hrd (by omega)).mono ?_
        rintro e w2 ⟨s2, q2, rfl, hs2, hrd2, hq2, hgr2⟩
        go_wp2_with fail
        refine (someWord_any _ B R L q2 hrd2 (by omega)).mono ?_
        rintro e w3 ⟨s3, q3, rfl, hs3, hrd3, hq3, hgr3⟩
        have hg3 := grown_trans hg (grown_trans hgr2 hgr3)
        have hlt3 := hrd3.lt
        clear hg hgr2 hgr3 hrd hrd2
        go_wp2_with fail
        refine (of_any _ B R L q3 w3.heap.size 14 14 (s2 :: s3 :: wordsB) (hrd3.alloc _) (heap_alloc_new w3 _) (by omega) (Lib.hid rfl) (by omega) (by omega) (by omega)).mono ?_
        rintro e w4 ⟨s4, rfl, hs4, hrd4, hgr4⟩
        have hs4' : s4.size ≤ 24 := by
          rcases List.mem_cons.1 hs4 with rfl | hs4
          · omega
          · rcases List.mem_cons.1 hs4 with rfl | hs4
            · omega
            · exact small_strs (by decide +kernel) hs4
        have hg4 := pick_grow hg3 hgr4
        have hlt4 := hrd4.lt
        have hz4 : (s ++ s4).size ≤ s.size + 24 := by rw [app_size]; omega
        have HG4 := Lib.hid hg4
        clear hs4 hg3 hgr4 hrd3 hg4
        go_wp2_with fail
        refine (of_any _ B R L (q3 + 1) w4.heap.size 9 9 seps (hrd4.alloc _) (heap_alloc_new w4 _) (by omega) (Lib.hid rfl) (by omega) (by omega) (by omega)).mono ?_
        rintro e w5 ⟨s5, rfl, hs5, hrd5, hgr5⟩
        have hs5' : s5.size ≤ 2 := small_strs (by decide +kernel) hs5
        have hg5 := pick_grow HG4.out hgr5
        have hz5 : Hid ((s ++ s4 ++ s5).size ≤ s.size + 26) := by show _ ≤ _; rw [app_size]; omega
        clear hs5 hgr5 hrd4 d1 d2
        go_wp2
        go_roundw
        case rel => exact ⟨k - 1, q3 + 2, s ++ s4 ++ s5, by go_num, rfl, by omega, by have := hz5.out; omega, hrd5, by omega, hg5⟩
        case measure => simp [intOf]; omega
      · have d1 : decide ((0 : Int) < (k : Int)) = true := decide_eq_true (by omega)
        have d2 : decide ((s.size : Int) < 40) = false := decide_eq_false (by omega)
        go_wp2
        go_ret
        exact ⟨s, q, rfl, by omega, hrd, by omega, hg⟩
    · have d1 : decide ((0 : Int) < (k : Int)) = false := decide_eq_false (by omega)
      go_wp2
      go_ret
      exact ⟨s, q, rfl, by omega, hrd, by omega, hg⟩

set_option maxHeartbeats 2000000 in
theorem anyText_any (w : World) (B R L p : Nat) (h : RD w B R L p) (hp : p ≤ 100000000) :
    Calls Try.prog 32 #[.pointer (some ⟨R, 0, none⟩)] w fun e w' => TextDrawn 520 30 w B R L p e w' := by
  go_enter Try.func32, Try.ntmps32
  go_wp2_with fail
  refine (someText_any _ B R L p h (by omega)).mono ?_
  rintro e w1 ⟨s, q, rfl, hs, hrd1, hq, hgr1⟩
  go_wp2_with fail
  refine (pick_any _ B R L q _ hrd1 (by omega) (by omega) (by omega)).mono ?_
  rintro e w2 ⟨k, rfl, hk, hrd2, hgr2⟩
  have hg2 := grown_trans hgr1 hgr2
  have hlt2 := hrd2.lt
  clear hgr1 hgr2 hrd1 h
  by_cases h0 : k = 0
  · subst h0
    go_wp2_with fail
    refine (of_any _ B R L (q + 1) w2.heap.size 4 4 odd (hrd2.alloc _) (heap_alloc_new w2 _) (by omega) (Lib.hid rfl) (by omega) (by omega) (by omega)).mono ?_
    rintro e w3 ⟨t, rfl, ht, hrd3, hgr3⟩
    have ht1 : t.size ≤ 1 := small_strs (by decide) ht
    have hg3 := pick_grow hg2 hgr3
    clear ht hgr3 hg2
    go_wp2
    go_ret
    exact ⟨_, q + 2, rfl, by rw [app_size]; omega, hrd3, by omega, hg3⟩
  · have e0 : ((k : Int) == 0) = false := by simp; omega
    by_cases h1 : k = 1
    · subst h1
      have z2 : (s ++ s).size ≤ 260 := by rw [app_size]; omega
      have z3 : (s ++ s ++ s).size ≤ 390 := by rw [app_size]; omega
      have z4 : (s ++ s ++ s ++ s).size ≤ 520 := by rw [app_size]; omega
      go_wp2
      go_ret
      exact ⟨_, q + 1, rfl, z4, hrd2, by omega, hg2⟩
    · have e1 : ((k : Int) == 1) = false := by simp; omega
      go_wp2
      go_ret
      exact ⟨s, q + 1, rfl, by omega, hrd2, by omega, hg2⟩

end Go.Proofs.Ythlamidlcbnchaa
