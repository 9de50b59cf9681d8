
/- Drawn codes. -/
import Derived.Test.YtdjgodemeaneeaaCj
import Derived.Test.YtdjgodemeaneeaaDrC
import Derived.Test.YtdjgodemeaneeaaDrL
import Derived.Test.YtdjgodemeaneeaaRd
import Derived.Test.YtdjgodemeaneeaaRdB
namespace Go.Proofs.Ytdjgodemeaneeaa
open Go.RowKit

theorem keptW {p : Prop} (h : p) : Hid p := h
theorem ElOk.typed {w w' : World} {u : Value} {zs : List Int} {row : Option Nat} (h : ElOk w 0 u zs) (hg : w.grownBy w' row) (hr : ∀ k, row = some k → ∃ cur t, t ≠ 3 ∧ w.heap[k]? = some (.cells cur t (0, 0))) : ElOk w' 0 u zs := by
  have key : ∀ b, u.ownBlock = some b → some b ≠ row := by
    intro b hb e
    obtain ⟨cur, t, ht, h2⟩ := hr b e.symm
    rcases h.2.1 b hb with h3 | ⟨cur', h3⟩
    · omega
    · rw [h2] at h3
      injection h3 with h3
      injection h3 with _ h4 _
      exact ht h4
  refine ⟨?_, fun b hb => ?_, h.2.2⟩
  · obtain ⟨a, cap, h1, h2, h3, h4⟩ := h.1
    refine ⟨a, cap, h1, h2, h3, ?_⟩
    rcases h4 with h4 | ⟨g, off, h4, h5⟩
    · exact .inl h4
    · refine .inr ⟨g, off, h4, fun i hi => ?_⟩
      have hc := h5 i hi
      have hlt := World.block_lt_of_cell? w _ hc
      rw [World.cell?_of_block (a := ⟨g, off + i, none⟩) (hg.block g hlt (key g (by rw [h1, h4]; rfl)))]
      exact hc
  · rcases h.2.1 b hb with h3 | ⟨cur', h3⟩
    · omega
    · refine .inr ⟨cur', ?_⟩
      rw [hg.block b (Array.getElem?_eq_some_iff.1 h3).1 (key b hb)]
      exact h3
/-- the reader goes on -/
theorem OwnLs.overR {w w' : World} {S B R L p : Nat} {v : Value} {P : List (List Int)} (h : OwnLs w S 0 v P) (hg : w.grownBy w' (some R)) (hrd : RD w B R L p) (hRS : R < S) : OwnLs w' S 0 v P := by
  have hrow := h.row
  obtain ⟨h0, us, h1, h2, h3⟩ := h
  obtain ⟨vr, hR, _⟩ := hrd
  refine ⟨h0, us, h1.kept hg ?_, h2, fun i hi => ?_⟩
  · cases hv : v.ownBlock with
    | none => exact .inl rfl
    | some q => exact .inr fun e => by injection e with e; have := (hrow q hv).1; omega
  · obtain ⟨u, h4, h5⟩ := h3 i hi
    exact ⟨u, h4, h5.typed hg (fun k hk => by injection hk with hk; subst hk; exact ⟨_, _, by decide, hR⟩)⟩
/-- a list is put in the place of another one -/
theorem OwnLs.set {w : World} {S g n cap : Nat} {P : List (List Int)} (h : OwnLs w S 0 (.slice (some ⟨g, 0, none⟩) n cap) P) (k : Nat) {u : Value} {zs : List Int} (hu : ElOk w 0 u zs) : OwnLs (w.setCell ⟨g, k, none⟩ u) S 0 (.slice (some ⟨g, 0, none⟩) n cap) (P.set k zs) := by
  have hrow := h.row
  obtain ⟨h0, us, h1, h2, h3⟩ := h
  have hn : n = P.length := by
    rcases h1.2 with ⟨hv, _⟩ | ⟨g', cap', cur, hv, _⟩
    · injection hv with hv _ _; exact absurd hv (by simp)
    · injection hv with _ e _
  subst hn
  obtain ⟨h4, h5⟩ := h1.stored k u
  have hr : ∀ q, some g = some q → 0 ≤ q ∧ ∃ cur, w.heap[q]? = some (.cells cur 31 (0, 0)) := fun q hq => ⟨Nat.zero_le _, (hrow q (by rw [← hq]; rfl)).2⟩
  refine ⟨h0, us.set k u, by rw [List.length_set]; exact h4, by rw [List.length_set, List.length_set, h2], fun i hi => ?_⟩
  rw [List.length_set] at hi
  by_cases e : k = i
  · subst e
    refine ⟨u, by rw [List.getElem?_set_self (by omega)], ?_⟩
    have : (P.set k zs).getD k [] = zs := by rw [List.getD_eq_getElem?_getD, List.getElem?_set_self hi]; rfl
    rw [this]
    exact hu.kept h5 hr
  · obtain ⟨u', h6, h7⟩ := h3 i hi
    refine ⟨u', by rw [List.getElem?_set_ne e]; exact h6, ?_⟩
    have : (P.set k zs).getD i [] = P.getD i [] := by rw [List.getD_eq_getElem?_getD, List.getElem?_set_ne e, ← List.getD_eq_getElem?_getD]
    rw [this]
    exact h7.kept h5 hr
theorem OwnLs.free {w : World} {S g n cap : Nat} {P : List (List Int)} (h : OwnLs w S 0 (.slice (some ⟨g, 0, none⟩) n cap) P) (k : Nat) : w.frozen? ⟨g, k, none⟩ = false := by
  obtain ⟨_, us, h1, _⟩ := h
  have hn : n = P.length := by
    rcases h1.2 with ⟨hv, _⟩ | ⟨g', cap', cur, hv, _⟩
    · injection hv with hv _ _; exact absurd hv (by simp)
    · injection hv with _ e _
  subst hn
  exact h1.frozenAt k
/-- lists of at most three numbers -/
def Len3 (P : List (List Int)) : Prop := ∀ zs ∈ P, zs.length ≤ 3
theorem Len3.nil : Len3 [] := fun z h => absurd h (by simp)
theorem Len3.snoc {P : List (List Int)} {zs : List Int} (h : Len3 P) (k : zs.length ≤ 3) : Len3 (P ++ [zs]) := fun y hy => by
  rcases List.mem_append.1 hy with hy | hy
  · exact h y hy
  · simp only [List.mem_singleton] at hy; subst hy; exact k
theorem Len3.set {P : List (List Int)} {zs : List Int} (h : Len3 P) (k : zs.length ≤ 3) (i : Nat) : Len3 (P.set i zs) := fun y hy => by
  rcases List.mem_or_eq_of_mem_set hy with hy | rfl
  · exact h y hy
  · exact k
/-- a drawn code -/
def CodeDrawn (w : World) (B R L p : Nat) (e : Ending) (w' : World) : Prop :=
  ∃ v P q, e = .returned v ∧ OwnLs w' w.heap.size 0 v P ∧ P.length ≤ 9 ∧ Len3 P ∧ RD w' B R L q ∧ q ≤ p + 100 ∧ w.grownBy w' (some R) ∧ ∃ a n c, v = .slice a n c
set_option maxHeartbeats 1000000 in
theorem someCode_any (w : World) (B R L p : Nat) (h : RD w B R L p) (hp : p ≤ 10000000000) :
    Calls Try.prog 56 #[.pointer (some ⟨R, 0, none⟩)] w fun e w' => CodeDrawn w B R L p e w' := by
  obtain ⟨i0, hi, hz0, hz1, hz2⟩ := info_parts infoInt
  have hR := h.lt
  have hO0 := OwnLs.made w w.heap.size 0 (Nat.zero_le _) (Nat.le_refl _)
  have hG0 := World.grownBy_alloc w (.cells #[] 31) (some R)
  have hrd0 := h.alloc (.cells #[] 31)
  go_enter Try.func56, Try.ntmps56
  go_wp2_with fail
  have hsz0 : (w.alloc (.cells #[] 31)).heap.size = w.heap.size + 1 := World.size_alloc _ _
  obtain ⟨w0, hw0⟩ : ∃ w0, w.alloc (.cells #[] 31) = w0 := ⟨_, rfl⟩
  rw [hw0] at hO0 hG0 hrd0 hsz0 ⊢
  clear hw0 h
  refine (one_any (w0.alloc (.cells #[.int .i64 3, .int .i64 4, .int .i64 2, .int .i64 5, .int .i64 1, .int .i64 0, .int .i64 8] 3)) B R L p (w.heap.size + 1) 7 7 [3, 4, 2, 5, 1, 0, 8] (hrd0.alloc _) (by have hh := heap_alloc_new w0 (.cells #[.int .i64 3, .int .i64 4, .int .i64 2, .int .i64 5, .int .i64 1, .int .i64 0, .int .i64 8] 3); rw [hsz0] at hh; exact hh) (by omega) (Lib.hid rfl) (by omega) (by omega) (by omega)).mono ?_
  rintro e w1 ⟨z0, rfl, hz, hrd1, hgr1⟩
  obtain ⟨K, rfl, hK⟩ : ∃ K : Nat, z0 = K ∧ K ≤ 8 := by
    refine ⟨z0.toNat, ?_, ?_⟩ <;> (simp at hz; omega)
  have hO1 := (hO0.below ((Below.refl _ _).alloc (Nat.le_refl _) _)).overR hgr1 (hrd0.alloc _) hR
  have hG1 := grown_trans hG0 (grown_trans (World.grownBy_alloc w0 _ _) hgr1)
  clear hz hgr1 hrd0 hO0 hG0 hsz0
  go_wp2_with fail
  go_loopw [3, 4] (fun o y wr => ∃ (k : Nat) (P : List (List Int)) (q : Nat), y = .int .i64 k ∧ k + P.length ≤ 8 ∧ k ≤ 8 ∧ OwnLs wr w.heap.size 0 o P ∧ Len3 P ∧ RD wr B R L q ∧ q + k * 5 ≤ p + 60 ∧ w.grownBy wr (some R)) (fun _ y _ => (intOf y).toNat)
  case atStart => exact ⟨K, [], p + 1, rfl, by simp; omega, hK, hO1, Len3.nil, hrd1, by omega, hG1⟩
  case round =>
    clear hO1 hrd1 hG1
    obtain ⟨wo, rfl⟩ : ∃ wo, wo = wr := ⟨wr, rfl⟩
    obtain ⟨k, P, q, rfl, hkP, hk8, hO, hL3, hrd, hq, hG⟩ := hrel
    obtain ⟨ao, no, co, hoo⟩ := hO.isSlice
    subst hoo
    have hsz := hG.size
    by_cases hlt : 0 < k
    · have hal : wo.grownBy (wo.alloc (.cells #[] 3)) (some R) := World.grownBy_alloc wo _ _
      have hW0 : OwnInts (wo.alloc (.cells #[] 3)) wo.heap.size (.slice (some ⟨wo.heap.size, 0, none⟩) 0 0) [] := OwnInts.made wo wo.heap.size (Nat.le_refl _)
      have hRw := hrd.lt
      have hrda := hrd.alloc (.cells #[] 3)
      go_wp2_with fail
      obtain ⟨wa, hwa⟩ : ∃ wa, wo.alloc (.cells #[] 3) = wa := ⟨_, rfl⟩
      rw [hwa] at hal hW0 hrda ⊢
      clear hwa
      refine (pick_any wa B R L q _ hrda (by omega) (by omega) (by omega)).mono ?_
      rintro e w2 ⟨k1, rfl, hk1, hrd2, hgr2⟩
      have hG2 := grown_trans hal hgr2
      have hW2 := hW0.overR hgr2 hRw
      have u1 : IntKind.i64.wrap (1 + (k1 : Int)) = ((k1 + 1 : Nat) : Int) := by rw [show (1 + (k1 : Int)) = ((k1 + 1 : Nat) : Int) from by omega]; exact IntWalk.i64_in _ (by omega)
      obtain ⟨n1, hn1⟩ : ∃ n1, k1 + 1 = n1 := ⟨_, rfl⟩
      rw [hn1] at u1
      have hn3 : n1 ≤ 3 := by omega
      have HO := keptW hO
      have HRD := keptW hrd
      have HG := keptW hG
      have HL3 := keptW hL3
      clear hal hgr2 hrda hW0 hn1 hk1 hO hrd hG hL3
      go_wp2_with fail
      go_loopw [5, 6] (fun v y wx => ∃ (m : Nat) (zs : List Int) (q2 : Nat), y = .int .i64 m ∧ m + zs.length ≤ 3 ∧ OwnInts wx wo.heap.size v zs ∧ RD wx B R L q2 ∧ q2 + m ≤ q + 4 ∧ wo.grownBy wx (some R)) (fun _ y _ => (intOf y).toNat)
      case atStart => exact ⟨n1, [], q + 1, rfl, by simp; omega, hW2, hrd2, by omega, hG2⟩
      case round =>
        clear hW2 hrd2 hG2 u1
        obtain ⟨m, zs, q2, rfl, hmz, hW, hrd, hq2, hG⟩ := hrel
        obtain ⟨aw, nw, cw, hww⟩ := hW.isSlice
        subst hww
        have hszx := hG.size
        have HW := keptW hW
        have HG2 := keptW hG
        by_cases hlt2 : 0 < m
        · have hlt3 := hrd.lt
          clear hW hG
          go_wp2_with fail
          refine (one_any _ B R L q2 wr.heap.size 4 4 [1, 3, 1, 9] (hrd.alloc _) (heap_alloc_new _ _) (by omega) (Lib.hid rfl) (by omega) (by omega) (by omega)).mono ?_
          rintro e w4 ⟨z, rfl, _, hrd4, hgr4⟩
          have hgx : wr.grownBy w4 (some R) := grown_trans (World.grownBy_alloc wr _ _) hgr4
          have hown4 := HW.out.overR hgx hRw
          have hg4 := grown_trans HG2.out hgx
          have hsz4 := hg4.size
          have HOW := keptW hown4
          clear hgr4 hrd hgx HW HG2
          go_wp2_with (at_builtin; refine wpList_append_own _ rfl _ _ 31 rfl wo.heap.size 3 i0 (.int .i64 0) 1 8 Try.underlying31 hi hz0 hz1 hz2 rfl (by decide) _ _ _ rfl (hown4.alloc _) ⟨w4.heap.size, 0, none⟩ 1 1 [.int .i64 z] rfl rfl new_one one_cell (by unfold maxLen; omega) (by omega) (by simp; omega) ?_)
          intro v' w5 hown' hgrow _
          obtain ⟨R1, R2, R3⟩ := snoc_step hRw HOW.out hrd4 hg4 hown' hgrow
          clear hown' hgrow hown4 hrd4 hg4 HOW
          go_wp2
          go_roundw
          case rel => exact ⟨m - 1, zs ++ [z], q2 + 1, by go_num, by simp; omega, R1, R2, by omega, R3⟩
          case measure => simp [intOf]; omega
        · have HOx := keptW (HO.out.overR hG HRD.out hR)
          have HGx := keptW (grown_trans HG.out hG)
          have hlz : zs.length ≤ 3 := by omega
          have hRx := hrd.lt
          clear hW hG HO HRD HG
          obtain ⟨bb, hbb⟩ : ∃ bb, decide (zs ∈ P) = bb := ⟨_, rfl⟩
          have HBB := keptW hbb
          clear hbb
          go_wp2_with fail
          refine (s_hasList_b wr _ _ P zs bb HOx.out.at HW.out.at HBB).mono ?_
          rintro e w6 ⟨rfl, hb6⟩
          have hg6 : wr.grownBy w6 (some R) := ⟨hb6.os, hb6.tape, hb6.output, hb6.size, fun k hk _ => hb6.block k hk⟩
          have hrd6 := hrd.below hb6 hRx
          have HO6 := keptW (HOx.out.below hb6)
          have HW6 := keptW (HW.out.below hb6)
          have HG6 := keptW (grown_trans HGx.out hg6)
          clear hg6 HOx HGx HW hrd HBB
          cases bb with
          | true =>
            go_wp2
            go_roundw
            case rel => exact ⟨k - 1, P, q2, by go_num, by omega, by omega, HO6.out, HL3.out, hrd6, by omega, HG6.out⟩
            case measure => simp [intOf]; omega
          | false =>
            have hal : Below w6.heap.size w6 (w6.alloc (.cells #[.slice aw nw cw] 31)) := (Below.refl _ _).alloc (Nat.le_refl _) _
            have HO8 := keptW (HO6.out.below hal)
            have HE8 : Hid (ElOk (w6.alloc (.cells #[.slice aw nw cw] 31)) 0 (.slice aw nw cw) zs) := ElOk.of_own (HW6.out.below hal)
            have HC8 : Hid ((w6.alloc (.cells #[.slice aw nw cw] 31)).cell? ⟨w6.heap.size, 0, none⟩ = some (.slice aw nw cw)) := by
              show _ = _
              rw [cell_of_row _ w6.heap.size 0 _ _ _ (heap_alloc_new w6 _)]; rfl
            have hsz6 := HG6.out.size
            have HS8 : Hid (P.length ≤ 100000 ∧ w.heap.size ≤ (w6.alloc (.cells #[.slice aw nw cw] 31)).heap.size) := ⟨by omega, Nat.le_trans hsz6 hal.size⟩
            clear hal
            go_wp2_with (at_builtin; go_loud (refine wpList_append_ls rfl _ _ rfl w.heap.size 0 w6.heap.size zs rfl rfl HO8.out HC8.out HE8.out rfl HS8.out.1 HS8.out.2 ?_))
            intro v9 w9 hown9 hgrow9
            have hrow9 := HO6.out.row
            have HO9 := keptW hown9
            have HR9 := keptW ((hrd6.alloc (.cells #[.slice aw nw cw] 31)).over hgrow9 (fun x hx => (hrow9 x hx).1) hR)
            have HG9 := keptW (grown_own (grown_own HG6.out (World.grownBy_alloc w6 (.cells #[.slice aw nw cw] 31) none) (by simp)) hgrow9 (fun x hx => (hrow9 x hx).1))
            clear hown9 hgrow9 hrow9 hrd6
            go_wp2
            go_roundw
            case rel => exact ⟨k - 1, P ++ [zs], q2, by go_num, by simp; omega, by omega, HO9.out, HL3.out.snoc hlz, HR9.out, by omega, HG9.out⟩
            case measure => simp [intOf]; omega
    · obtain rfl : k = 0 := by omega
      have hno : no = P.length := by
        obtain ⟨_, _, e, _⟩ := hO.at
        injection e with _ e2 _
      by_cases hn0 : no = 0
      · subst hn0
        have HO := keptW hO
        have HRD := keptW hrd
        have HG := keptW hG
        have HL3 := keptW hL3
        clear hO hrd hG hL3 hno
        go_wp2
        go_ret
        exact ⟨_, P, q, rfl, HO.out, by omega, HL3.out, HRD.out, by omega, HG.out, _, _, _, rfl⟩
      · obtain ⟨g, u0, rfl, c0, hE0, hnx⟩ := hO.nth (i := 0) (by omega)
        clear hnx
        obtain ⟨a0, z0', hu0, _⟩ := id hE0.1
        obtain ⟨l0, hl0⟩ : ∃ l0, (P.getD 0 []).length = l0 := ⟨_, rfl⟩
        rw [hl0] at hu0
        subst hu0
        have hl03 : (P.getD 0 []).length ≤ 3 := hL3 _ (by
          rw [List.getD_eq_getElem?_getD, List.getElem?_eq_getElem (by omega), Option.getD_some]; exact List.getElem_mem _)
        have HL03 := keptW hl03
        have HNO := keptW hno
        have HL3 := keptW hL3
        have hP9 : P.length ≤ 8 := by omega
        clear hno hL3 hl0 hl03
        go_wp2_with fail
        refine (pick_any wo B R L q _ hrd (by omega) (by omega) (by omega)).mono ?_
        rintro e w3 ⟨c, rfl, hc, hrd3, hgr3⟩
        have hO3 := hO.overR hgr3 hrd hR
        have hG3 := grown_trans hG hgr3
        have hs3 := hG3.size
        obtain ⟨g', u1, e1, c1, hE1, hnx⟩ := hO3.nth (i := 0) (by omega)
        clear hnx
        injection e1 with e1
        injection e1 with e1 _ _
        subst e1
        obtain ⟨a1, z1', hu1, _⟩ := id hE1.1
        obtain ⟨l1, hl1⟩ : ∃ l1, (P.getD 0 []).length = l1 := ⟨_, rfl⟩
        rw [hl1] at hu1
        subst hu1
        have hf1 := hO3.free 0
        have hrow3 := hO3.row
        have b1 : (0 : Int) < (no : Int) := by omega
        clear hl1 hO hG hgr3 hrd c0 hE0
        by_cases c0 : c = 0
        · subst c0
          have hal : w3.grownBy (w3.alloc (.cells #[] 3)) (some R) := World.grownBy_alloc w3 _ _
          have hO4 := hO3.below ((Below.refl w3.heap.size w3).alloc (Nat.le_refl _) (.cells #[] 3))
          have hE4 : ElOk (w3.alloc (.cells #[] 3)) 0 (.slice (some ⟨w3.heap.size, 0, none⟩) 0 0) [] := ElOk.of_own (OwnInts.made w3 w3.heap.size (Nat.le_refl _))
          have hO5 := hO4.set 0 hE4
          have hg5 := grown_store (w3.alloc (.cells #[] 3)) g 0 (.slice (some ⟨w3.heap.size, 0, none⟩) 0 0)
          have hx : ∀ x, some g = some x → w.heap.size ≤ x := fun x hx => (hrow3 x (by rw [← hx]; rfl)).1
          have H5 := keptW (And.intro hO5 (And.intro (grown_own (grown_trans hG3 hal) hg5 hx) ((hrd3.alloc (.cells #[] 3)).over hg5 hx hR)))
          have hc4 : (w3.alloc (.cells #[] 3)).cell? ⟨g, 0, none⟩ = some (.slice a1 l1 z1') := by
            rw [World.cell?_of_block (Below.heap_alloc _ _ _ (World.block_lt_of_cell? w3 _ c1))]; exact c1
          have hf4 := hO4.free 0
          clear hO3 hG3 hrd3 hO4 hE4 hO5 hg5 hx hal hrow3 hE1
          go_wp2
          go_ret
          exact ⟨_, _, q + 1, rfl, H5.out.1, by rw [List.length_set]; omega, HL3.out.set (by simp) 0, H5.out.2.2, by omega, H5.out.2.1, _, _, _, rfl⟩
        · by_cases c2 : c = 1
          · subst c2
            have hal : Below w3.heap.size w3 (w3.alloc (.cells #[.slice a1 l1 z1'] 31)) := (Below.refl _ _).alloc (Nat.le_refl _) _
            have HO8 := keptW (hO3.below hal)
            have HE8 := keptW (hE1.below hal)
            have HC8 : Hid ((w3.alloc (.cells #[.slice a1 l1 z1'] 31)).cell? ⟨w3.heap.size, 0, none⟩ = some (.slice a1 l1 z1')) := by
              show _ = _
              rw [cell_of_row _ w3.heap.size 0 _ _ _ (heap_alloc_new w3 _)]; rfl
            have HS8 : Hid (P.length ≤ 100000 ∧ w.heap.size ≤ (w3.alloc (.cells #[.slice a1 l1 z1'] 31)).heap.size) := ⟨by omega, Nat.le_trans hs3 hal.size⟩
            have HG3 := keptW hG3
            have HRD3 := keptW hrd3
            have HROW := keptW hrow3
            clear hal hO3 hG3 hrd3 hrow3 hE1
            go_wp2_with (at_builtin; go_loud (refine wpList_append_ls rfl _ _ rfl w.heap.size 0 w3.heap.size (P.getD 0 []) rfl rfl HO8.out HC8.out HE8.out rfl HS8.out.1 HS8.out.2 ?_))
            intro v9 w9 hown9 hgrow9
            obtain ⟨a9, n9, c9, h9⟩ := hown9.isSlice
            subst h9
            have HO9 := keptW hown9
            have HR9 := keptW ((HRD3.out.alloc (.cells #[.slice a1 l1 z1'] 31)).over hgrow9 (fun x hx => (HROW.out x hx).1) hR)
            have HG9 := keptW (grown_own (grown_own HG3.out (World.grownBy_alloc w3 (.cells #[.slice a1 l1 z1'] 31) none) (by simp)) hgrow9 (fun x hx => (HROW.out x hx).1))
            clear hown9 hgrow9
            go_wp2
            go_ret
            exact ⟨_, _, q + 1, rfl, HO9.out, by simp; omega, HL3.out.snoc HL03.out, HR9.out, by omega, HG9.out, _, _, _, rfl⟩
          · by_cases c3 : c = 2
            · subst c3
              have hal : w3.grownBy (w3.alloc (.cells #[.int .i64 64] 3)) (some R) := World.grownBy_alloc w3 _ _
              have hO4 := hO3.below ((Below.refl w3.heap.size w3).alloc (Nat.le_refl _) (.cells #[.int .i64 64] 3))
              have hE4 : ElOk (w3.alloc (.cells #[.int .i64 64] 3)) 0 (.slice (some ⟨w3.heap.size, 0, none⟩) 1 1) [64] := by
                refine ⟨⟨_, 1, rfl, Nat.le_refl _, by omega, .inr ⟨w3.heap.size, 0, rfl, fun i hi => ?_⟩⟩, fun b hb => .inr ?_, .inr ⟨_, _, _, rfl⟩⟩
                · obtain rfl : i = 0 := by simp at hi; omega
                  rw [cell_of_row _ w3.heap.size (0 + 0) _ _ _ (heap_alloc_new w3 _)]; rfl
                · simp [Value.ownBlock] at hb
                  subst hb
                  exact ⟨_, heap_alloc_new w3 _⟩
              have hO5 := hO4.set 0 hE4
              have hg5 := grown_store (w3.alloc (.cells #[.int .i64 64] 3)) g 0 (.slice (some ⟨w3.heap.size, 0, none⟩) 1 1)
              have hx : ∀ x, some g = some x → w.heap.size ≤ x := fun x hx => (hrow3 x (by rw [← hx]; rfl)).1
              have H5 := keptW (And.intro hO5 (And.intro (grown_own (grown_trans hG3 hal) hg5 hx) ((hrd3.alloc (.cells #[.int .i64 64] 3)).over hg5 hx hR)))
              have hc4 : (w3.alloc (.cells #[.int .i64 64] 3)).cell? ⟨g, 0, none⟩ = some (.slice a1 l1 z1') := by
                rw [World.cell?_of_block (Below.heap_alloc _ _ _ (World.block_lt_of_cell? w3 _ c1))]; exact c1
              have hf4 := hO4.free 0
              clear hO3 hG3 hrd3 hO4 hE4 hO5 hg5 hx hal hrow3 hE1
              go_wp2
              go_ret
              exact ⟨_, _, q + 1, rfl, H5.out.1, by rw [List.length_set]; omega, HL3.out.set (by simp) 0, H5.out.2.2, by omega, H5.out.2.1, _, _, _, rfl⟩
            · have q0 : ((c : Int) == 0) = false := by simp; omega
              have q1 : ((c : Int) == 1) = false := by simp; omega
              have q2 : ((c : Int) == 2) = false := by simp; omega
              have H5 := keptW (And.intro hO3 (And.intro hG3 hrd3))
              clear hO3 hG3 hrd3 hrow3 hE1
              go_wp2
              go_ret
              exact ⟨_, _, q + 1, rfl, H5.out.1, by omega, HL3.out, H5.out.2.2, by omega, H5.out.2.1, _, _, _, rfl⟩
end Go.Proofs.Ytdjgodemeaneeaa
