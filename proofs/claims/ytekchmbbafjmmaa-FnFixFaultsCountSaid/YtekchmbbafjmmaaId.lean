
/- A picture of flat dots: zeroBlock; the small functions of the pictures of the program. -/
import Derived.Test.YtekchmbbafjmmaaIb
import Derived.IntWalk
namespace Go.Proofs.Ytekchmbbafjmmaa
open Go.RowKit

def PlOut (R : List (List Int)) (w : World) (e : Ending) (w' : World) : Prop := ∃ a n c, e = .returned (.slice a n c) ∧ OwnLL w' w.heap.size w'.heap.size (.slice a n c) R ∧ Below w.heap.size w w'
def PsOut (R : List (List Int)) (w : World) (e : Ending) (w' : World) : Prop := ∃ a n c, e = .returned (.slice a n c) ∧ ListsAt w' (.slice a n c) R ∧ Below w.heap.size w w'
theorem PlOut.ps {R : List (List Int)} {w w' : World} {e : Ending} (h : PlOut R w e w') : PsOut R w e w' := by
  obtain ⟨a, n, c, h1, h2, h3⟩ := h
  exact ⟨a, n, c, h1, h2.ls.at, h3⟩
theorem OwnLL.lowerI {w : World} {base base' top : Nat} {v : Value} {L : List (List Int)} (h : OwnLL w base top v L) (hb : base' ≤ base) : OwnLL w base' top v L := by
  obtain ⟨h0, hv, us, B, C, h1, h2, h3⟩ := h
  refine ⟨h0, hv, us, B, C, ?_, fun i hi => ⟨(h2 i hi).1, (h2 i hi).2.1.lowerM hb, (h2 i hi).2.2⟩, h3⟩
  rcases h1 with ⟨k0, ⟨hv, hn⟩ | ⟨g, cap, cur, hv, hg, rest⟩⟩
  · exact ⟨k0, .inl ⟨hv, hn⟩⟩
  · exact ⟨k0, .inr ⟨g, cap, cur, hv, Nat.le_trans hb hg, rest⟩⟩
theorem OwnLL.madeI (w : World) (base : Nat) (h : base ≤ w.heap.size) : OwnLL (w.alloc (.cells #[] 28)) base (w.alloc (.cells #[] 28)).heap.size (.slice (some ⟨w.heap.size, 0, none⟩) 0 0) [] :=
  ⟨Nat.le_refl _, fun b hb => by simp [Value.ownBlock] at hb; subst hb; simp, [], fun _ => 0, fun _ => 0, World.ownsRow_made w #[] 0 h (by unfold maxLen; omega) rfl, fun i hi => absurd hi (by simp), fun i j _ hj => absurd hj (by simp)⟩
/-- behind an append to a row of one's own -/
theorem grown_llI {B top : Nat} {w wr w' : World} {v : Value} {P : List (List Int)} {o : Obj} (hb : Below B w wr) (hs : B ≤ wr.heap.size) (hO : OwnLL wr B top v P) (hg : (wr.alloc o).grownBy w' v.ownBlock) : Below B w w' :=
  (hb.alloc hs o).grown hg (by have h := (World.grownBy_alloc wr o none).size; omega) (fun k hk => (hO.ls.row k hk).1)
theorem ints_rep (m : Nat) : List.replicate m (0 : Int) = rowOf m fun _ => 0 := by
  unfold rowOf
  apply List.ext_getElem <;> simp
theorem ret_intI {a b : Int} (h : a = b) : Ending.returned (.int .i64 a) = .returned (.int .i64 b) := by rw [h]
set_option maxHeartbeats 1000000 in
theorem i_zeroBlock (h m : Nat) (w : World) (hh : h ≤ 1000) (hm : m ≤ 1000) :
    Calls Try.prog 74 #[.int .i64 h, .int .i64 m] w fun e w' => PlOut (gridOf h m fun _ _ => 0) w e w' := by
  obtain ⟨i0, hi, hz0, hz1, hz2⟩ := info_parts infoInt
  have hO0 := OwnLL.nil w w.heap.size
  go_enter Try.func74, Try.ntmps74
  go_wp2
  go_loopw [5, 6] (fun o i wr => ∃ k : Nat, k ≤ h ∧ i = .int .i64 k ∧ OwnLL wr w.heap.size wr.heap.size o (gridOf k m fun _ _ => 0) ∧ Below w.heap.size w wr) (fun _ i _ => h - (intOf i).toNat)
  case atStart => exact ⟨0, Nat.zero_le _, rfl, hO0, Below.refl _ _⟩
  case round =>
    clear hO0
    obtain ⟨k, hk, rfl, hO, hB⟩ := hrel
    have hsz := hB.size
    have HO := keptI hO
    have HB := keptI hB
    obtain ⟨ao, no, co, hoo⟩ := hO.ls.isSlice
    subst hoo
    have hl := gridOf_len k m fun _ _ => 0
    obtain ⟨P, hP⟩ : ∃ P, gridOf k m (fun _ _ => 0) = P := ⟨_, rfl⟩
    have HP := Lib.hid hP
    rw [hP] at HO hl
    clear hO hB hP
    by_cases hlt : k < h
    · have hl8 : P.length ≤ 100000 := by omega
      have HPL := Lib.hid hl
      clear hl
      go_wp2_with (at_make; refine wpList_make_full _ rfl _ _ 28 rfl wr.heap.size 3 i0 (.int .i64 0) 1 Try.underlying28 hi hz0 hz1 .i64 .i64 m m m rfl rfl rfl rfl (by rw [hz2]; omega) (by unfold maxLen; omega) (Nat.le_refl _) ?_)
      intro w1 hown hgr
      rw [made_ints, ints_rep] at hown
      have HI1 : Hid (OwnInts w1 wr.heap.size (.slice (some ⟨wr.heap.size, 0, none⟩) m m) (rowOf m fun _ => 0)) := by
        show w1.ownsRow _ _ _ _ _ _; rw [rowOf_len]; exact hown
      have hB1 : Below wr.heap.size wr w1 := ⟨hgr.os, hgr.tape, hgr.output, hgr.size, fun k hk => hgr.block k hk (by simp)⟩
      have HB1 := keptI (HB.out.trans (hB1.mono hsz))
      have HO1 := keptI (HO.out.below hB1 (Nat.le_refl _))
      have hs1 := hB1.size
      clear hown hgr hB1
      have hal : Below w1.heap.size w1 (w1.alloc (.cells #[.slice (some ⟨wr.heap.size, 0, none⟩) m m] 28)) := (Below.refl _ _).alloc (Nat.le_refl _) _
      have HO8 := keptI (HO1.out.below hal hs1)
      have HE8 := keptI (HI1.out.below hal)
      have HC8 : Hid ((w1.alloc (.cells #[.slice (some ⟨wr.heap.size, 0, none⟩) m m] 28)).cell? ⟨w1.heap.size, 0, none⟩ = some (.slice (some ⟨wr.heap.size, 0, none⟩) m m)) := by
        show _ = _
        rw [cell_of_row _ w1.heap.size 0 _ _ _ (heap_alloc_new w1 _)]; rfl
      clear hal
      go_wp2_with (at_builtin; refine wpList_append_ll rfl _ _ rfl w.heap.size wr.heap.size w1.heap.size wr.heap.size m m (rowOf m fun _ => 0) rfl rfl HO8.out HC8.out HE8.out (rowOf_len _ _) hl8 hsz ?_)
      intro v9 w9 hown9 hgrow9
      have HO9 : Hid (OwnLL w9 w.heap.size w9.heap.size v9 (gridOf (k + 1) m fun _ _ => 0)) := by show OwnLL _ _ _ _ _; rw [gridOf_succ, HP.out]; exact hown9
      have HB9 := keptI (grown_llI HB1.out (by omega) HO1.out hgrow9)
      clear hown9 hgrow9
      go_wp2
      go_roundw
      case rel => exact ⟨k + 1, by omega, by go_num, HO9.out, HB9.out⟩
      case measure => simp [intOf]; omega
    · obtain rfl : k = h := by omega
      clear hl
      go_wp2
      go_ret
      exact ⟨_, _, _, rfl, by rw [HP.out]; exact HO.out, HB.out⟩
/-- the number of the dot of a place in its cell, less one -/
def spotOf (y x : Nat) : Nat := y % 3 + 3 * (x % 2)
theorem spot6 (y x : Nat) : spotOf y x < 6 := by unfold spotOf; omega
end Go.Proofs.Ytekchmbbafjmmaa
