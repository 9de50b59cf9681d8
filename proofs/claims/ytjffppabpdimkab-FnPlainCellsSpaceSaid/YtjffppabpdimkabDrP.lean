
/- The draw of a text of cells. -/
import Derived.Test.YtjffppabpdimkabDrL
import Derived.Test.YtjffppabpdimkabTxtB
import Derived.Test.YtjffppabpdimkabParS
import Derived.Deep.RegionHeld3
namespace Go.Proofs.Ytjffppabpdimkab
open Go.RowKit

set_option maxHeartbeats 2000000 in
theorem s_showCells (w : World) (u : Value) (zs : List Int) (hx : IntsAt w u zs) (hv : ValidL zs) :
    Calls Try.prog 67 #[u] w fun e w' => TextOut (fmtUp zs zs.length) w e w' := by
  obtain ⟨a, c, hu, x1, x2, x3⟩ := id hx
  · have hlen := fmtUp_len zs hv.2
    have hn200 := hv.1
    obtain ⟨_, hcells⟩ := hv
    obtain ⟨n, hn⟩ : ∃ n, zs.length = n := ⟨_, rfl⟩
    rw [hn] at x1 x3 hlen hn200 hu ⊢
    have HN := Lib.hid hn
    subst hu
    clear hn
    go_enter Try.func67, Try.ntmps67
    clear hx
    go_wp2
    go_loopw [3, 4] (fun v i wr => ∃ k : Nat, k ≤ n ∧ i = .int .i64 k ∧ v = .string (bs (fmtUp zs k)) ∧ Below w.heap.size w wr) (fun _ i _ => n - (intOf i).toNat)
    case atStart => exact ⟨0, Nat.zero_le _, rfl, rfl, Below.refl _ _⟩
    case round =>
      obtain ⟨k, hk, rfl, rfl, hb⟩ := hrel
      by_cases hlt : k < n
      · rcases x3 with rfl | ⟨g, off, rfl, h4⟩
        · exact absurd HN.out (by simp; omega)
        have cx := (hb.cell (World.block_lt_of_cell? w _ (h4 k hlt))).trans (h4 k hlt)
        obtain ⟨y, hy⟩ : ∃ y, zs.getD k 0 = y := ⟨_, rfl⟩
        have hym := hcells y (by rw [← hy, List.getD_eq_getElem?_getD, List.getElem?_eq_getElem (by have := HN.out; omega), Option.getD_some]; exact List.getElem_mem _)
        obtain ⟨hy0, hy64⟩ := hym
        obtain ⟨m, rfl⟩ : ∃ m : Nat, y = m := ⟨y.toNat, by omega⟩
        have hm : m < 64 := by omega
        have hS : Hid (fmtUp zs (k + 1) = fmtUp zs k ++ (if k = 0 then [] else [45]) ++ cellT m) := by show fmtUp zs (k + 1) = _; rw [fmtUp, hy]; rfl
        rw [hy] at cx
        have hll := hlen k hk
        obtain ⟨hc1, hc6⟩ := cellT_len m hm
        obtain ⟨l, hl⟩ : ∃ l, fmtUp zs k = l := ⟨_, rfl⟩
        rw [hl] at hS hll ⊢
        have hz : (bs l).size ≤ 1400 := by rw [bs_size]; omega
        have hz2 : (bs (cellT m)).size ≤ 6 := by rw [bs_size]; exact hc6
        have hz3 : (bs l ++ bs [45]).size ≤ 1401 := by rw [bs_append, bs_size]; simp; omega
        clear hy h4 hl hlen hcells
        by_cases hk0 : k = 0
        · have hS2 : Hid (fmtUp zs (k + 1) = l ++ cellT m) := by show fmtUp zs (k + 1) = _; rw [hS.out, if_pos hk0]; simp
          have hk1 : (k : Int) < 1 := by omega
          clear hk0 hS
          go_wp2_with fail
          refine (s_showDots m _ hm).mono ?_
          rintro e w2 ⟨rfl, hb2⟩
          go_wp2
          go_roundw
          case rel => exact ⟨k + 1, by omega, by go_num, by rw [hS2.out, ← bs_append], hb.trans (hb2.mono hb.size)⟩
          case measure => simp [intOf]; omega
        · have hkp : (0 : Int) < (k : Int) := by omega
          have hS2 : Hid (fmtUp zs (k + 1) = l ++ [45] ++ cellT m) := by show fmtUp zs (k + 1) = _; rw [hS.out, if_neg hk0]
          have hq : (⟨#[45]⟩ : ByteArray) = bs [45] := rfl
          have hz4 : (bs [45]).size ≤ 1 := Nat.le_of_eq (bs_size _)
          clear hS hk0
          go_wp2_with fail
          refine (s_showDots m _ hm).mono ?_
          rintro e w2 ⟨rfl, hb2⟩
          go_wp2
          go_roundw
          case rel => exact ⟨k + 1, by omega, by go_num, by rw [hS2.out, ← bs_append, ← bs_append], hb.trans (hb2.mono hb.size)⟩
          case measure => simp [intOf]; omega
      · obtain rfl : k = n := by omega
        go_wp2
        go_ret
        exact ⟨rfl, hb⟩

def strs (ps : List ByteArray) : Array Value := (ps.map Value.string).toArray
def OneStr (ps : List ByteArray) (w : World) (B R L p : Nat) (e : Ending) (w' : World) : Prop :=
  ∃ s : ByteArray, e = .returned (.string s) ∧ s ∈ ps ∧ RD w' B R L (p + 1) ∧ w.grownBy w' (some R)
theorem cell_of_strs {w w' : World} {R g : Nat} {ps : List ByteArray} (hg : w.heap[g]? = some (.cells (strs ps) 9 (0, 0))) (hne : g ≠ R) (hgr : w.grownBy w' (some R)) {k : Nat} (hk : k < ps.length) :
    ∃ s : ByteArray, w'.cell? ⟨g, k, none⟩ = some (.string s) ∧ s ∈ ps := by
  refine ⟨ps[k], ?_, List.getElem_mem _⟩
  have h1 : w'.heap[g]? = _ := (hgr.block g (Array.getElem?_eq_some_iff.1 hg).1 (by simpa using hne)).trans hg
  rw [cell_of_row w' g k _ _ _ h1]
  simp [strs, hk]

set_option maxHeartbeats 400000 in
theorem of_any (w : World) (B R L p g cap len : Nat) (ps : List ByteArray) (h : RD w B R L p) (hg : w.heap[g]? = some (.cells (strs ps) 9 (0, 0))) (hne : g ≠ R) (hl : Hid (len = ps.length)) (h0 : 1 ≤ len) (h2 : len ≤ 1000000)
    (hp : p ≤ 1000000000000) :
    Calls Try.prog 46 #[.pointer (some ⟨R, 0, none⟩), .slice (some ⟨g, 0, none⟩) len cap] w fun e w' => OneStr ps w B R L p e w' := by
  have HG := Lib.hid hg
  clear hg
  go_enter Try.func46, Try.ntmps46
  go_wp2_with (go_at_call 69; refine (pick_any w B R L p _ h hp (by omega) (by omega)).mono ?_; rintro e w1 ⟨k, rfl, hk, hrd, hgr⟩; obtain ⟨z, hz, hm⟩ := cell_of_strs HG.out hne hgr (k := k) (by rw [← hl.out]; omega))
  go_ret
  exact ⟨z, rfl, hm, hrd, hgr⟩
/-- a text of at most n bytes, drawn -/
def TextDrawn (n more : Nat) (w : World) (B R L p : Nat) (e : Ending) (w' : World) : Prop :=
  ∃ (s : ByteArray) (q : Nat), e = .returned (.string s) ∧ s.size ≤ n ∧ RD w' B R L q ∧ q ≤ p + more ∧ w.grownBy w' (some R)
theorem small_strs {ps : List ByteArray} {s : ByteArray} {n : Nat} (h : (ps.all fun p => decide (p.size ≤ n)) = true) (hs : s ∈ ps) : s.size ≤ n := by
  have := List.all_eq_true.1 h s hs
  exact of_decide_eq_true this
end Go.Proofs.Ytjffppabpdimkab
