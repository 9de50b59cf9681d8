
/- Drawn lines and drawn words. -/
import Derived.Test.YtnbppackijjohaaCw
import Derived.Test.YtnbppackijjohaaLa
namespace Go.Proofs.Ytnbppackijjohaa
open Go.RowKit

def LsDrawn (most more : Nat) (w : World) (B R L p : Nat) (e : Ending) (w' : World) : Prop :=
  ∃ v P q, e = .returned v ∧ OwnLs w' w.heap.size 0 v P ∧ P.length ≤ most ∧ RD w' B R L q ∧ q ≤ p + more ∧ w.grownBy w' (some R) ∧ ∃ a n c, v = .slice a n c
set_option maxHeartbeats 1000000 in
theorem someLines_any (w : World) (B R L p W most : Nat) (h : RD w B R L p) (hp : p ≤ 1000000) (hW : W ≤ 40) (hm : most ≤ 30) :
    Calls Try.prog 49 #[.pointer (some ⟨R, 0, none⟩), .int .i64 W, .int .i64 most] w fun e w' => LsDrawn most (1 + 121 * most) w B R L p e w' := by
  have hR := h.lt
  have hO0 := OwnLs.made w w.heap.size 0 (Nat.zero_le _) (Nat.le_refl _)
  have hG0 := World.grownBy_alloc w (.cells #[] 28) (some R)
  have hrd0 := h.alloc (.cells #[] 28)
  go_enter Try.func49, Try.ntmps49
  go_wp2_with fail
  obtain ⟨w0, hw0⟩ : ∃ w0, w.alloc (.cells #[] 28) = w0 := ⟨_, rfl⟩
  rw [hw0] at hO0 hG0 hrd0 ⊢
  clear hw0 h
  refine (pick_any w0 B R L p _ hrd0 (by omega) (by omega) (by omega)).mono ?_
  rintro e w1 ⟨K, rfl, hK, hrd1, hgr1⟩
  have hO1 := hO0.overR hgr1 hrd0 hR
  have hG1 := grown_trans hG0 hgr1
  clear hgr1 hrd0 hO0 hG0
  go_wp2_with fail
  go_loopw [7, 8] (fun o y wr => ∃ (k : Nat) (P : List (List Int)) (q : Nat), y = .int .i64 k ∧ k + P.length ≤ most ∧ OwnLs wr w.heap.size 0 o P ∧ RD wr B R L q ∧ q ≤ p + 1 + 121 * P.length ∧ w.grownBy wr (some R)) (fun _ y _ => (intOf y).toNat)
  case atStart => exact ⟨K, [], p + 1, rfl, by simp; omega, hO1, hrd1, by simp, hG1⟩
  case round =>
    clear hO1 hrd1 hG1
    obtain ⟨k, P, q, rfl, hkP, hO, hrd, hq, hG⟩ := hrel
    obtain ⟨ao, no, co, hoo⟩ := hO.isSlice
    subst hoo
    have hsz := hG.size
    have HO := keptL hO
    have HG := keptL hG
    clear hO hG
    by_cases hlt : 0 < k
    · go_wp2_with fail
      refine (someCells_any wr B R L q W hrd (by omega) (by omega)).mono ?_
      rintro e w6 ⟨v6, zs, q6, rfl, hI, _, hlz, hrd6, hq6, hg6, a6, n6, c6, rfl⟩
      have HO6 := keptL (HO.out.overR hg6 hrd hR)
      have HG6 := keptL (grown_trans HG.out hg6)
      have HI6 := keptL hI
      have hsz6 := HG6.out.size
      clear hI hg6 hrd HO HG
      have hal : Below w6.heap.size w6 (w6.alloc (.cells #[.slice a6 n6 c6] 28)) := (Below.refl _ _).alloc (Nat.le_refl _) _
      have HO8 := keptL (HO6.out.below hal)
      have HE8 : Hid (ElOk (w6.alloc (.cells #[.slice a6 n6 c6] 28)) 0 (.slice a6 n6 c6) zs) := ElOk.of_own (HI6.out.below hal)
      have HC8 : Hid ((w6.alloc (.cells #[.slice a6 n6 c6] 28)).cell? ⟨w6.heap.size, 0, none⟩ = some (.slice a6 n6 c6)) := by
        show _ = _
        rw [cell_of_row _ w6.heap.size 0 _ _ _ (heap_alloc_new w6 _)]; rfl
      have HS8 : Hid (P.length ≤ 100000 ∧ w.heap.size ≤ (w6.alloc (.cells #[.slice a6 n6 c6] 28)).heap.size) := ⟨by omega, Nat.le_trans hsz6 hal.size⟩
      clear hal
      go_wp2_with (at_builtin; go_loud (refine wpList_append_ls rfl _ _ rfl w.heap.size 0 w6.heap.size zs rfl rfl HO8.out HC8.out HE8.out rfl HS8.out.1 HS8.out.2 ?_))
      intro v9 w9 hown9 hgrow9
      have hrow9 := HO6.out.row
      have HO9 := keptL hown9
      have HR9 := keptL ((hrd6.alloc (.cells #[.slice a6 n6 c6] 28)).over hgrow9 (fun x hx => (hrow9 x hx).1) hR)
      have HG9 := keptL (grown_own (grown_own HG6.out (World.grownBy_alloc w6 (.cells #[.slice a6 n6 c6] 28) none) (by simp)) hgrow9 (fun x hx => (hrow9 x hx).1))
      clear hown9 hgrow9 hrow9 hrd6
      go_wp2
      go_roundw
      case rel => exact ⟨k - 1, P ++ [zs], q6, by go_num, by simp; omega, HO9.out, HR9.out, by simp; omega, HG9.out⟩
      case measure => simp [intOf]; omega
    · go_wp2
      go_ret
      exact ⟨_, P, q, rfl, HO.out, by omega, hrd, by omega, HG.out, _, _, _, rfl⟩
theorem results_twoL {fn : Func} {t u : Tmp} (h : fn.results = #[.tmp t, .tmp u]) (tmps : Array Value) (P : Program) (w : World) :
    (results fn tmps).run P w = .ok (.tuple #[tmps.getD t undef, tmps.getD u undef]) w := by
  simp [results, h]
/-- drawn lists and a drawn width -/
def LwMade (w : World) (e : Ending) (w' : World) : Prop :=
  ∃ S a n c P, ∃ W : Int, e = .returned (.tuple #[.slice a n c, .int .i64 W]) ∧ OwnLs w' S 0 (.slice a n c) P ∧ P.length ≤ 14 ∧ (0 ≤ W ∧ W ≤ 41) ∧ Below w.heap.size w w'
set_option maxHeartbeats 1000000 in
theorem drawLineCost_any (w : World) (a : Option Addr) (len cap : Nat) (zs : List Int) (h : RowIn .u8 w a len cap zs) :
    Calls Try.prog 21 #[.slice a len cap] w fun e w' => LwMade w e w' := by
  obtain ⟨h1, h2, h3⟩ := bytesAt_of_row h
  clear h
  go_enter Try.func21, Try.ntmps21
  go_wp2_with fail
  refine (newReader_any w _ a len cap h1 (Nat.le_refl _) h2 h3).mono ?_
  rintro e w1 ⟨L, rfl, hrd, hgr⟩
  have hl1 := hrd.lt
  go_wp2_with fail
  refine (one_any _ _ _ L 0 w1.heap.size 5 5 [8, 10, 4, 40, 20] (hrd.alloc _) (heap_alloc_new w1 _) (by omega) (Lib.hid rfl) (by omega) (by omega) (by omega)).mono ?_
  rintro e w2 ⟨z, rfl, hz, hrd2, hgr2⟩
  obtain ⟨W, rfl, hW⟩ : ∃ W : Nat, z = W ∧ W ≤ 40 := by
    refine ⟨z.toNat, ?_, ?_⟩ <;> (simp at hz; omega)
  have hG2 : w1.grownBy w2 (some w.heap.size) := grown_trans (World.grownBy_alloc w1 _ _) hgr2
  clear hz hgr2 hrd
  go_wp2_with fail
  refine (someLines_any w2 _ _ L 1 W 6 hrd2 (by omega) hW (by omega)).mono ?_
  rintro e w3 ⟨v, P, q, rfl, hO, hP, hrd3, hq, hG3, a3, n3, c3, rfl⟩
  have hl2 := hrd2.lt
  have HO3 := keptL hO
  have HG3 := keptL (grown_trans hG2 hG3)
  have HGR := keptL hgr
  clear hO hG2 hG3 hgr hrd2
  go_wp2_with fail
  refine (pick_any w3 _ _ L q _ hrd3 (by omega) (by omega) (by omega)).mono ?_
  rintro e w4 ⟨k4, rfl, hk4, hrd4, hgr4⟩
  have HO4 := keptL (HO3.out.overR hgr4 hrd3 hl2)
  have HG4 := keptL (grown_trans HG3.out hgr4)
  clear hgr4 hrd3 HO3 HG3
  by_cases hk0 : k4 = 0
  · subst hk0
    have hl4 := hrd4.lt
    go_wp2_with fail
    refine (one_any _ _ _ L (q + 1) w4.heap.size 3 3 [0, 41, 3] (hrd4.alloc _) (heap_alloc_new w4 _) (by omega) (Lib.hid rfl) (by omega) (by omega) (by omega)).mono ?_
    rintro e w5 ⟨z5, rfl, hz5, hrd5, hgr5⟩
    have hz5' : 0 ≤ z5 ∧ z5 ≤ 41 := by simp at hz5; omega
    have hgx := grown_trans (World.grownBy_alloc w4 _ _) hgr5
    have FIN := keptL (And.intro (HO4.out.overR hgx hrd4 hl2) (below_of_grown (grown_new HGR.out (grown_trans HG4.out hgx) (Nat.le_refl _))))
    clear hz5 hgr5 hgx hrd5 hrd4 HO4 HG4 HGR
    go_wp2
    refine bodyPost_ret (results_twoL rfl _ _ _) rfl ?_
    exact ⟨_, _, _, _, P, z5, rfl, FIN.out.1, by omega, hz5', FIN.out.2⟩
  · have e1 : ((k4 : Int) == 0) = false := by simp; omega
    have FIN := keptL (And.intro HO4.out (below_of_grown (grown_new HGR.out HG4.out (Nat.le_refl _))))
    clear HO4 HG4 HGR hrd4
    go_wp2
    refine bodyPost_ret (results_twoL rfl _ _ _) rfl ?_
    exact ⟨_, _, _, _, P, W, rfl, FIN.out.1, by omega, by omega, FIN.out.2⟩
end Go.Proofs.Ytnbppackijjohaa
