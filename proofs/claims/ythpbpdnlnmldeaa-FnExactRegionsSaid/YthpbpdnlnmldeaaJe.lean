
/- Drawn pictures: somePicture. -/
import Derived.Test.YthpbpdnlnmldeaaIe
import Derived.Test.YthpbpdnlnmldeaaDrC
import Derived.Test.YthpbpdnlnmldeaaDrL
import Derived.Test.YthpbpdnlnmldeaaRd
import Derived.Test.YthpbpdnlnmldeaaRdB
namespace Go.Proofs.Ythpbpdnlnmldeaa
open Go.RowKit

theorem OwnLL.overRI {w w' : World} {S R top : Nat} {v : Value} {P : List (List Int)} (h : OwnLL w S top v P) (hg : w.grownBy w' (some R)) (hRS : R < S) : OwnLL w' S top v P :=
  h.blocks hg.size fun k h1 h2 => hg.block k (by have := h.1; omega) (by simp; omega)
theorem d_one (b : Bool) (w : World) :
    Calls Try.prog 50 #[.bool b] w fun e w' => (∃ z : Int, e = .returned (.int .i64 z) ∧ 0 ≤ z ∧ z ≤ 1) ∧ w = w' := by
  cases b with
  | true =>
    go_enter Try.func50, Try.ntmps50
    go_wp2
    go_ret
    exact ⟨⟨1, rfl, by omega, by omega⟩, rfl⟩
  | false =>
    go_enter Try.func50, Try.ntmps50
    go_wp2
    go_ret
    exact ⟨⟨0, rfl, by omega, by omega⟩, rfl⟩
/-- rows of m numbers 0 and 1 -/
def Bits (P : List (List Int)) (m : Nat) : Prop := ∀ zs ∈ P, zs.length = m ∧ Between 0 1 zs
theorem Bits.nil (m : Nat) : Bits [] m := fun z h => absurd h (by simp)
theorem Bits.snoc {P : List (List Int)} {m : Nat} {zs : List Int} (h : Bits P m) (k : zs.length = m) (k2 : Between 0 1 zs) : Bits (P ++ [zs]) m := fun y hy => by
  rcases List.mem_append.1 hy with hy | hy
  · exact h y hy
  · simp only [List.mem_singleton] at hy; subst hy; exact ⟨k, k2⟩
def PicSome (w : World) (B R L p : Nat) (e : Ending) (w' : World) : Prop :=
  ∃ a n c P m q, e = .returned (.slice a n c) ∧ OwnLL w' w.heap.size w'.heap.size (.slice a n c) P ∧ P.length = n ∧ 1 ≤ n ∧ n ≤ 12 ∧ 1 ≤ m ∧ m ≤ 12 ∧ Bits P m ∧ RD w' B R L q ∧ q ≤ p + 400 ∧ w.grownBy w' (some R)
set_option maxHeartbeats 2000000 in
theorem somePicture_any (w : World) (B R L p : Nat) (h : RD w B R L p) (hp : p ≤ 10000000000) :
    Calls Try.prog 58 #[.pointer (some ⟨R, 0, none⟩)] w fun e w' => PicSome w B R L p e w' := by
  obtain ⟨i0, hi, hz0, hz1, hz2⟩ := info_parts infoInt
  have hR := h.lt
  go_enter Try.func58, Try.ntmps58
  go_wp2_with fail
  refine (one_any _ B R L p w.heap.size 6 6 [6, 5, 8, 3, 1, 12] (h.alloc _) (heap_alloc_new w _) (by omega) (Lib.hid rfl) (by omega) (by omega) (by omega)).mono ?_
  rintro e w1 ⟨z1, rfl, hz, hrd1, hgr1⟩
  obtain ⟨n, rfl, hn1, hn2⟩ : ∃ n : Nat, z1 = n ∧ 1 ≤ n ∧ n ≤ 12 := by refine ⟨z1.toNat, ?_, ?_⟩ <;> (simp at hz; omega)
  have hG1 := grown_trans (World.grownBy_alloc w (.cells #[.int .i64 6, .int .i64 5, .int .i64 8, .int .i64 3, .int .i64 1, .int .i64 12] 3) (some R)) hgr1
  have HG1 := Lib.hid hG1
  have hR1 := hrd1.lt
  clear hz hgr1 h hG1
  go_wp2_with fail
  refine (one_any _ B R L (p + 1) w1.heap.size 6 6 [6, 5, 8, 2, 1, 12] (hrd1.alloc _) (heap_alloc_new w1 _) (by omega) (Lib.hid rfl) (by omega) (by omega) (by omega)).mono ?_
  rintro e w2 ⟨z2, rfl, hz, hrd2, hgr2⟩
  obtain ⟨m, rfl, hm1, hm2⟩ : ∃ m : Nat, z2 = m ∧ 1 ≤ m ∧ m ≤ 12 := by refine ⟨z2.toNat, ?_, ?_⟩ <;> (simp at hz; omega)
  have hG2 := grown_trans HG1.out (grown_trans (World.grownBy_alloc w1 _ _) hgr2)
  have HG2 := Lib.hid hG2
  have hR2 := hrd2.lt
  clear hz hgr2 hrd1 hG2 HG1
  go_wp2_with fail
  refine (one_any _ B R L (p + 1 + 1) w2.heap.size 4 4 [2, 4, 3, 8] (hrd2.alloc _) (heap_alloc_new w2 _) (by omega) (Lib.hid rfl) (by omega) (by omega) (by omega)).mono ?_
  rintro e w3 ⟨z3, rfl, hz, hrd3, hgr3⟩
  obtain ⟨t, rfl, ht1, ht2⟩ : ∃ t : Nat, z3 = t ∧ 1 ≤ t ∧ t ≤ 8 := by refine ⟨z3.toNat, ?_, ?_⟩ <;> (simp at hz; omega)
  have hG3 := grown_trans HG2.out (grown_trans (World.grownBy_alloc w2 _ _) hgr3)
  have hs3 := hG3.size
  have HO0 : Hid (OwnLL (w3.alloc (.cells #[] 30)) w.heap.size (w3.alloc (.cells #[] 30)).heap.size (.slice (some ⟨w3.heap.size, 0, none⟩) 0 0) []) := OwnLL.madeI w3 w.heap.size hs3
  have HG3 := Lib.hid (grown_trans hG3 (World.grownBy_alloc w3 (.cells #[] 30) (some R)))
  have HRD3 := Lib.hid (hrd3.alloc (.cells #[] 30))
  clear hz hgr3 hrd2 hG3 HG2 hrd3
  go_wp2
  go_loopw [6, 7] (fun o y wr => ∃ (k : Nat) (P : List (List Int)) (q : Nat), k ≤ n ∧ y = .int .i64 k ∧ P.length = k ∧ OwnLL wr w.heap.size wr.heap.size o P ∧ Hid (Bits P m) ∧ RD wr B R L q ∧ q ≤ p + 3 + 13 * k ∧ w.grownBy wr (some R)) (fun _ y _ => n - (intOf y).toNat)
  case atStart => exact ⟨0, [], p + 1 + 1 + 1, Nat.zero_le _, rfl, rfl, HO0.out, Bits.nil _, HRD3.out, by omega, HG3.out⟩
  case round =>
    clear HO0 HG3 HRD3
    obtain ⟨k, P, q, hk, rfl, hP, hO, HBits, hrd, hq, hG⟩ := hrel
    rename World => wo
    obtain ⟨ao, no, co, hoo⟩ := hO.ls.isSlice
    subst hoo
    have HPk := Lib.hid hP
    have hsz := hG.size
    have hRw := hrd.lt
    have HO := keptI hO
    have HRD := keptI hrd
    have HG := keptI hG
    clear hO hrd hG hP
    by_cases hlt : k < n
    · have HI0 : Hid (OwnInts (wo.alloc (.cells #[] 3)) wo.heap.size (.slice (some ⟨wo.heap.size, 0, none⟩) 0 0) []) := OwnInts.made _ _ (Nat.le_refl _)
      have HA1 : Hid (wo.grownBy (wo.alloc (.cells #[] 3)) (some R)) := World.grownBy_alloc wo _ _
      have HRA := keptI (HRD.out.alloc (.cells #[] 3))
      go_wp2
      go_loopw [8, 9] (fun v y wx => ∃ (j : Nat) (zs : List Int) (q2 : Nat), j ≤ m ∧ y = .int .i64 j ∧ zs.length = j ∧ OwnInts wx wo.heap.size v zs ∧ Hid (Between 0 1 zs) ∧ RD wx B R L q2 ∧ q2 ≤ q + j ∧ wo.grownBy wx (some R)) (fun _ y _ => m - (intOf y).toNat)
      case atStart => exact ⟨0, [], q, Nat.zero_le _, rfl, rfl, HI0.out, Between.nil _ _, HRA.out, by omega, HA1.out⟩
      case round =>
        clear HI0 HA1 HRA
        obtain ⟨j, zs, q2, hj, rfl, hzs, hI, HBt, hrd, hq2, hG⟩ := hrel
        have HZS := Lib.hid hzs
        have hszx := hG.size
        obtain ⟨aw, nw, cw, hww⟩ := hI.isSlice
        subst hww
        have HI := keptI hI
        have HGx := keptI hG
        have hlt3 := hrd.lt
        by_cases hjm : j < m
        · have hl9 : zs.length ≤ 1000 := by omega
          clear hI hG hzs
          go_wp2_with fail
          refine (pick_any wr B R L q2 _ hrd (by omega) (by omega) (by omega)).mono ?_
          rintro e w4 ⟨k1, rfl, hk1, hrd4, hgr4⟩
          have hI4 := HI.out.overR hgr4 hRw
          have hg4 := grown_trans HGx.out hgr4
          have hsz4 := hg4.size
          have HI4 := keptI hI4
          have HRD4 := keptI hrd4
          have HG4 := keptI hg4
          obtain ⟨bb, hbb⟩ : ∃ bb, ((k1 : Int) == 0) = bb := ⟨_, rfl⟩
          clear hgr4 hrd HI HGx hI4 hrd4 hg4 hk1
          go_wp2_with fail
          refine (d_one bb w4).mono ?_
          rintro e w5 ⟨⟨z, rfl, z0, z1⟩, rfl⟩
          have HBt2 := keptI (HBt.out.snoc z0 z1)
          clear hbb
          go_wp2_with (at_builtin; refine wpList_append_own _ rfl _ _ 30 rfl wo.heap.size 3 i0 (.int .i64 0) 1 8 Try.underlying30 hi hz0 hz1 hz2 rfl (by decide) _ _ _ rfl (HI4.out.alloc _) ⟨w4.heap.size, 0, none⟩ 1 1 [.int .i64 z] rfl rfl new_one one_cell (by unfold maxLen; omega) (by omega) (by simp; omega) ?_)
          intro v' w5 hown' hgrow _
          obtain ⟨R1, R2, R3⟩ := snoc_step hRw HI4.out HRD4.out HG4.out hown' hgrow
          have HR1 := keptI R1
          have HR2 := keptI R2
          have HR3 := keptI R3
          clear hown' hgrow R1 R2 R3
          go_wp2
          go_roundw
          case rel => exact ⟨j + 1, zs ++ [z], q2 + 1, by omega, by go_num, by rw [List.length_append, HZS.out]; rfl, HR1.out, HBt2, HR2.out, by omega, HR3.out⟩
          case measure => simp [intOf]; omega
        · obtain rfl : j = m := by omega
          have hO3 := HO.out.overRI hG hR
          obtain ⟨b6, c6, hv6, hb6⟩ := hI.shape (by omega)
          injection hv6 with hv6 hv7 hv8
          subst hv6 hv7 hv8
          have HRDx := keptI hrd
          have HO3 := keptI hO3
          have hrow := hO3.ls.row
          have hal : Below wr.heap.size wr (wr.alloc (.cells #[.slice (some ⟨b6, 0, none⟩) zs.length cw] 30)) := (Below.refl _ _).alloc (Nat.le_refl _) _
          have HO8 := keptI (hO3.below hal hszx)
          have HE8 := keptI (hI.below hal)
          have HC8 : Hid ((wr.alloc (.cells #[.slice (some ⟨b6, 0, none⟩) zs.length cw] 30)).cell? ⟨wr.heap.size, 0, none⟩ = some (.slice (some ⟨b6, 0, none⟩) zs.length cw)) := by
            show _ = _
            rw [cell_of_row _ wr.heap.size 0 _ _ _ (heap_alloc_new wr _)]; rfl
          have hl8 : P.length ≤ 100000 := by have := HPk.out; omega
          have HROW := keptI hrow
          clear hal hO3 hI hG hrd hzs hrow
          go_wp2_with (at_builtin; refine wpList_append_ll rfl _ _ rfl w.heap.size wo.heap.size wr.heap.size b6 zs.length cw zs rfl rfl HO8.out HC8.out HE8.out rfl hl8 hsz ?_)
          intro v9 w9 hown9 hgrow9
          have HO9 := keptI hown9
          have HR9 := keptI ((HRDx.out.alloc (.cells #[.slice (some ⟨b6, 0, none⟩) zs.length cw] 30)).over hgrow9 (fun x hx => (HROW.out x hx).1) hR)
          have HG9 := keptI (grown_own (grown_own (grown_trans HG.out HGx.out) (World.grownBy_alloc wr (.cells #[.slice (some ⟨b6, 0, none⟩) zs.length cw] 30) none) (by simp)) hgrow9 (fun x hx => (HROW.out x hx).1))
          have HB9 := keptI (HBits.out.snoc HZS.out HBt.out)
          clear hown9 hgrow9
          set_option maxRecDepth 20000 in
          go_wp2
          go_roundw
          case rel => exact ⟨k + 1, P ++ [zs], q2, by omega, by go_num, by rw [List.length_append, HPk.out]; rfl, HO9.out, HB9, HR9.out, by omega, HG9.out⟩
          case measure => simp [intOf]; omega
    · obtain rfl : k = n := by omega
      have hno : no = P.length := by
        obtain ⟨_, _, e, _⟩ := HO.out.ls.at
        injection e with _ e2 _
      have HNO := Lib.hid hno
      clear hno
      go_wp2
      go_ret
      exact ⟨_, _, _, P, m, q, rfl, HO.out, HNO.out.symm, by rw [HNO.out, HPk.out]; exact hn1, by rw [HNO.out, HPk.out]; exact hn2, hm1, hm2, HBits.out, HRD.out, by omega, HG.out⟩
end Go.Proofs.Ythpbpdnlnmldeaa
