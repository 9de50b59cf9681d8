
/- The draw of RulesAt: a table, a word, a place. -/
import Derived.Test.YtohgglhjcklbaaaDy
import Derived.Test.YtohgglhjcklbaaaDrS
import Derived.Test.YtohgglhjcklbaaaRdB
namespace Go.Proofs.Ytohgglhjcklbaaa
open Go.RowKit

def txtW : List ByteArray := [⟨#[]⟩, ⟨#[84, 104, 101]⟩, ⟨#[97, 32, 98]⟩, ⟨#[97, 98, 99, 100, 101, 102, 103, 104, 105, 106, 107, 108, 109, 110, 111, 112, 113]⟩, ⟨#[97, 98, 99, 100, 101, 102, 103, 104, 105, 106, 107, 108, 109, 110, 111, 112]⟩, ⟨#[49]⟩, ⟨#[105, 116, 39, 115]⟩]
def txtS : List ByteArray := [⟨#[116, 104, 101]⟩, ⟨#[116, 104, 101, 110]⟩, ⟨#[111, 116, 104, 101, 114]⟩, ⟨#[97, 110, 100]⟩, ⟨#[115, 97, 110, 100]⟩, ⟨#[102, 105, 110, 103, 101, 114]⟩, ⟨#[114, 105, 110, 103]⟩, ⟨#[98, 117, 116]⟩, ⟨#[98]⟩, ⟨#[99, 97, 110]⟩, ⟨#[99, 97, 110, 110, 111, 116]⟩, ⟨#[100, 111]⟩, ⟨#[100, 111, 105, 110, 103]⟩, ⟨#[115, 116, 114, 105, 110, 103]⟩, ⟨#[116, 104, 105, 110, 103]⟩, ⟨#[119, 104, 101, 110]⟩, ⟨#[102, 97, 116, 104, 101, 114]⟩, ⟨#[115, 104, 101, 100]⟩, ⟨#[98, 101, 100]⟩, ⟨#[105, 110]⟩, ⟨#[105, 110, 103, 101, 115, 116]⟩, ⟨#[116, 104, 101, 116, 104, 101]⟩, ⟨#[97, 110, 100, 101, 114]⟩, ⟨#[97]⟩, ⟨#[106, 107, 122]⟩, ⟨#[99, 104, 101, 115, 116]⟩, ⟨#[116, 104, 105, 110]⟩, ⟨#[119, 105, 110, 101]⟩]
set_option maxHeartbeats 400000 in
theorem someWord_any (w : World) (B R L p : Nat) (h : RD w B R L p) (hp : p ≤ 100000000000) :
    Calls Try.prog 91 #[.pointer (some ⟨R, 0, none⟩)] w fun e w' => TextDrawn 17 1 w B R L p e w' := by
  have hR := h.lt
  go_enter Try.func91, Try.ntmps91
  go_wp2_with fail
  refine (of_any (w.alloc (.cells (strs txtS) 9)) B R L p w.heap.size 28 28 txtS (h.alloc _) (heap_alloc_new w _) (by omega) (Lib.hid rfl) (by omega) (by omega) (by omega)).mono ?_
  rintro e w1 ⟨t, rfl, ht, hrd1, hgr1⟩
  have ht2 : t.size ≤ 17 := small_strs (by decide) ht
  have FIN := keptH (And.intro hrd1 (grown_trans (World.grownBy_alloc w (.cells (strs txtS) 9) (some R)) hgr1))
  clear ht hrd1 hgr1
  go_wp2
  go_ret
  exact ⟨t, p + 1, rfl, ht2, FIN.out.1, by omega, FIN.out.2⟩
set_option maxHeartbeats 400000 in
theorem anyWord_any (w : World) (B R L p : Nat) (h : RD w B R L p) (hp : p ≤ 10000000000) :
    Calls Try.prog 67 #[.pointer (some ⟨R, 0, none⟩)] w fun e w' => TextDrawn 17 2 w B R L p e w' := by
  have hR := h.lt
  go_enter Try.func67, Try.ntmps67
  go_wp2_with fail
  refine (pick_any w B R L p _ h (by omega) (by omega) (by omega)).mono ?_
  rintro e w1 ⟨k, rfl, hk, hrd, hgr⟩
  have hl1 := hrd.lt
  by_cases k0 : k = 0
  · subst k0
    go_wp2_with fail
    refine (of_any (w1.alloc (.cells (strs txtW) 9)) B R L (p + 1) w1.heap.size 7 7 txtW (hrd.alloc _) (heap_alloc_new w1 _) (by omega) (Lib.hid rfl) (by omega) (by omega) (by omega)).mono ?_
    rintro e w2 ⟨t, rfl, ht, hrd2, hgr2⟩
    have ht2 : t.size ≤ 17 := small_strs (by decide) ht
    have FIN := keptH (And.intro hrd2 (grown_trans hgr (grown_trans (World.grownBy_alloc w1 (.cells (strs txtW) 9) (some R)) hgr2)))
    clear ht hrd2 hgr2
    go_wp2
    go_ret
    exact ⟨t, _, rfl, ht2, FIN.out.1, by omega, FIN.out.2⟩
  · have e0 : ((k : Int) == 0) = false := by simp; omega
    go_wp2_with fail
    refine (someWord_any w1 B R L (p + 1) hrd (by omega)).mono ?_
    rintro e w2 ⟨t, q, rfl, ht2, hrd2, hq, hgr2⟩
    have FIN := keptH (And.intro hrd2 (grown_trans hgr hgr2))
    clear hrd2 hgr2
    go_wp2
    go_ret
    exact ⟨t, _, rfl, ht2, FIN.out.1, by omega, FIN.out.2⟩

theorem results_three {fn : Func} {t u v : Tmp} (h : fn.results = #[.tmp t, .tmp u, .tmp v]) (tmps : Array Value) (P : Program) (w : World) :
    (results fn tmps).run P w = .ok (.tuple #[tmps.getD t undef, tmps.getD u undef, tmps.getD v undef]) w := by
  simp [results, h]
/-- a drawn table, a word and a place -/
def RaMade (w : World) (e : Ending) (w' : World) : Prop :=
  ∃ S g n cap Q s p, e = .returned (.tuple #[.slice (some ⟨g, 0, none⟩) n cap, .string s, .int .i64 p]) ∧ TabOwn w' S (.slice (some ⟨g, 0, none⟩) n cap) Q ∧ Hid (Q.length = n) ∧ TableFits (tabOf Q) ∧ n ≤ 9 ∧ S ≤ w'.heap.size ∧ Below w.heap.size w w' ∧ ByteArray.size s ≤ 17 ∧ -1 ≤ p ∧ p ≤ 17
set_option maxHeartbeats 1000000 in
theorem drawRulesAt_any (w : World) (a : Option Addr) (len cap : Nat) (zs : List Int) (h : RowIn .u8 w a len cap zs) :
    Calls Try.prog 31 #[.slice a len cap] w fun e w' => RaMade w e w' := by
  obtain ⟨h1, h2, h3⟩ := bytesAt_of_row h
  clear h
  go_enter Try.func31, Try.ntmps31
  go_wp2_with fail
  refine (newReader_any w _ a len cap h1 (Nat.le_refl _) h2 h3).mono ?_
  rintro e w1 ⟨L, rfl, hrd, hgr⟩
  have hl1 := hrd.lt
  go_wp2_with fail
  refine (anyTable_any w1 _ _ L 0 hrd (by omega)).mono ?_
  rintro e w2 ⟨v, Q, q, rfl, hT, hF, hlen, hrd2, hq, hgr2⟩
  have hl2 := hrd2.lt
  obtain ⟨g, c, hv⟩ := hT.2.2
  subst hv
  go_wp2_with fail
  refine (anyWord_any w2 _ _ L q hrd2 (by omega)).mono ?_
  rintro e w3 ⟨s, q3, rfl, hs, hrd3, hq3, hgr3⟩
  have hl3 := hrd3.lt
  have hT3 := hT.overR hgr3 hl1
  have HG3 := keptH (grown_trans hgr2 hgr3)
  clear hT hgr2 hgr3 hrd hrd2
  obtain ⟨m, hm⟩ : ∃ m, s.size = m := ⟨_, rfl⟩
  have HM := Lib.hid hm
  have u1 : IntKind.i64.wrap ((s.size : Int) - 1) = (s.size : Int) - 1 := IntWalk.i64_in _ (by omega)
  go_wp2_with fail
  refine (one_any (w3.alloc (.cells #[.int .i64 0, .int .i64 0, .int .i64 1, .int .i64 2, .int .i64 ((m : Int) - 1), .int .i64 m, .int .i64 (-1), .int .i64 0] 3)) _ _ L q3 w3.heap.size 8 8 [0, 0, 1, 2, (m : Int) - 1, m, -1, 0] (hrd3.alloc _) (heap_alloc_new w3 _) (by omega) (Lib.hid rfl) (by omega) (by omega) (by omega)).mono ?_
  rintro e w4 ⟨p, rfl, hp, hrd4, hgr4⟩
  have hp' : -1 ≤ p ∧ p ≤ 17 := by simp at hp; omega
  have hal := World.grownBy_alloc w3 (.cells #[.int .i64 0, .int .i64 0, .int .i64 1, .int .i64 2, .int .i64 ((m : Int) - 1), .int .i64 m, .int .i64 (-1), .int .i64 0] 3) (some w.heap.size)
  have hT4 := (hT3.overR hal hl1).overR hgr4 hl1
  have hG4 := grown_trans HG3.out (grown_trans hal hgr4)
  have FIN := keptH (And.intro hT4 (And.intro hF (And.intro hG4.size (below_of_grown (grown_new hgr hG4 (Nat.le_refl _))))))
  clear hp hrd4 hgr4 hal hT4 hG4 hT3 hrd3 hF HG3 u1 hm
  go_wp2
  refine bodyPost_ret (results_three rfl _ _ _) rfl ?_
  exact ⟨_, g, _, c, Q, s, p, rfl, FIN.out.1, rfl, FIN.out.2.1, hlen, FIN.out.2.2.1, FIN.out.2.2.2, hs, hp'.1, hp'.2⟩
end Go.Proofs.Ytohgglhjcklbaaa
