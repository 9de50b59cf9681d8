
/- The reader of a code: how it is made, and how it picks one number of a list. -/
import Derived.Test.YtfgnckafpnobhaaRd
import Derived.OpenShut
namespace Go.Proofs.Ytfgnckafpnobhaa
open Go.RowKit

/-- what a statement's walk is told of a slice that came in -/
def RowIn (k : IntKind) (w : World) (a : Option Addr) (len cap : Nat) (zs : List Int) : Prop :=
  (a = none ∧ len = 0 ∧ cap = 0 ∧ zs = []) ∨
  ∃ x, a = some x ∧ len ≤ cap ∧ cap ≤ maxLen ∧ zs.length = cap ∧ (∀ i, i < zs.length → w.cell? (x.add i) = some (.int k (zs.getD i 0))) ∧ ∀ n ∈ zs, (Lit.int k n).wf = true
theorem u8_of_wf {n : Int} (h : (Lit.int .u8 n).wf = true) : 0 ≤ n ∧ n ≤ 255 := by
  have := bounds_u8 h; omega
theorem bytesAt_of_row {w : World} {a : Option Addr} {len cap : Nat} {zs : List Int} (h : RowIn .u8 w a len cap zs) : BytesAt w w.heap.size (.slice a len cap) len ∧ len ≤ cap ∧ cap ≤ maxLen := by
  rcases h with ⟨rfl, rfl, rfl, rfl⟩ | ⟨x, rfl, h1, h2, h3, h4, h5⟩
  · exact ⟨.inl ⟨rfl, none, 0, rfl⟩, Nat.le_refl _, by unfold maxLen; omega⟩
  · by_cases h0 : len = 0
    · subst h0; exact ⟨.inl ⟨rfl, some x, cap, rfl⟩, h1, h2⟩
    · obtain ⟨b, off, rfl, hc⟩ := ints_at h4 (by omega)
      refine ⟨.inr ⟨b, off, cap, rfl, World.block_lt_of_cell? w _ (hc 0 (by omega)), h1, fun i hi => ?_⟩, h1, h2⟩
      have hm : zs.getD i 0 ∈ zs := by
        rw [List.getD_eq_getElem?_getD, List.getElem?_eq_getElem (by omega), Option.getD_some]; exact List.getElem_mem _
      have hb := u8_of_wf (h5 _ hm)
      exact ⟨(zs.getD i 0).toNat, by rw [hc i (by omega), Int.toNat_of_nonneg hb.1], by omega⟩

theorem RD.alloc {w : World} {B R L p : Nat} (h : RD w B R L p) (o : Obj) : RD (w.alloc o) B R L p :=
  h.of_same (fun k hk => Below.heap_alloc w o k (by have := h.lt; obtain ⟨_, _, _, h3, _⟩ := h; omega)) (Below.heap_alloc w o R h.lt)
theorem grown_trans {a b c : World} {row : Option Nat} (h : a.grownBy b row) (k : b.grownBy c row) : a.grownBy c row :=
  ⟨k.os.trans h.os, k.tape.trans h.tape, k.output.trans h.output, Nat.le_trans h.size k.size, fun i hi hne => (k.block i (Nat.lt_of_lt_of_le hi h.size) hne).trans (h.block i hi hne)⟩
theorem grown_none {a b : World} (h : a.grownBy b none) (row : Option Nat) : a.grownBy b row := ⟨h.os, h.tape, h.output, h.size, fun i hi _ => h.block i hi (by simp)⟩

def Made (w : World) (B : Nat) (e : Ending) (w' : World) : Prop :=
  ∃ L, e = .returned (.pointer (some ⟨w.heap.size, 0, none⟩)) ∧ RD w' B w.heap.size L 0 ∧ w.grownBy w' none
theorem made_of {w : World} {B : Nat} {v : Value} {L : Nat} (h : BytesAt w B v L) (hB : B ≤ w.heap.size) (hL : L ≤ 2000) :
    Made w B (.returned (.pointer (some ⟨w.heap.size, 0, none⟩))) (w.alloc (.cells #[v, .int .i64 0] 61)) :=
  ⟨L, rfl, ⟨v, heap_alloc_new w _, h.of_below fun k hk => Below.heap_alloc w _ k (by omega), hB, hL⟩, World.grownBy_alloc w _ _⟩
theorem BytesAt.cut {w : World} {B : Nat} {a : Option Addr} {L L' cap : Nat} (h : BytesAt w B (.slice a L cap) L) (hl : L' ≤ L) : BytesAt w B (.slice a L' cap) L' := by
  by_cases h0 : L' = 0
  · subst h0; exact .inl ⟨rfl, a, cap, rfl⟩
  · rcases h with ⟨rfl, _⟩ | ⟨b, off, c, hv, h1, h2, h3⟩
    · omega
    · injection hv with e1 e2 e3
      subst e1 e3
      exact .inr ⟨b, off, cap, rfl, h1, by omega, fun i hi => h3 i (by omega)⟩

set_option maxHeartbeats 400000 in
theorem newReader_any (w : World) (B : Nat) (a : Option Addr) (L cap : Nat) (h : BytesAt w B (.slice a L cap) L) (hB : B ≤ w.heap.size) (hc : L ≤ cap) (hm : cap ≤ maxLen) :
    Calls Try.prog 46 #[.slice a L cap] w fun e w' => Made w B e w' := by
  unfold maxLen at hm
  have H := Lib.hid h
  by_cases hL : L ≤ 2000
  · clear h
    go_enter Try.func46, Try.ntmps46
    go_wp2
    go_ret
    exact made_of H.out hB hL
  · have hL' : 2000 < L := by omega
    rcases h with ⟨rfl, _⟩ | ⟨b, off, c, hv, h1, h2, _⟩
    · omega
    · injection hv with e1 e2 e3
      subst e1 e3
      have hc2 : 2000 ≤ cap := by omega
      go_enter Try.func46, Try.ntmps46
      go_wp2
      go_ret
      exact made_of (H.out.cut (by omega)) hB (Nat.le_refl _)

def OneOf (zs : List Int) (w : World) (B R L p : Nat) (e : Ending) (w' : World) : Prop :=
  ∃ v : Int, e = .returned (.int .i64 v) ∧ v ∈ zs ∧ RD w' B R L (p + 1) ∧ w.grownBy w' (some R)
theorem getD_mem {zs : List Int} {k : Nat} (h : k < zs.length) : zs.getD k 0 ∈ zs := by
  rw [List.getD_eq_getElem?_getD, List.getElem?_eq_getElem h, Option.getD_some]; exact List.getElem_mem _
theorem cell_of_ints {w w' : World} {R g : Nat} {zs : List Int} (hg : w.heap[g]? = some (.cells (zs.map (Value.int .i64)).toArray 3 (0, 0))) (hne : g ≠ R) (hgr : w.grownBy w' (some R)) {k : Nat} (hk : k < zs.length) :
    ∃ z : Int, w'.cell? ⟨g, k, none⟩ = some (.int .i64 z) ∧ z ∈ zs := by
  refine ⟨zs.getD k 0, ?_, getD_mem hk⟩
  have h1 : w'.heap[g]? = _ := (hgr.block g (Array.getElem?_eq_some_iff.1 hg).1 (by simpa using hne)).trans hg
  rw [cell_of_row w' g k _ _ _ h1]
  simp [hk]

set_option maxHeartbeats 400000 in
theorem one_any (w : World) (B R L p g cap len : Nat) (zs : List Int) (h : RD w B R L p) (hg : w.heap[g]? = some (.cells (zs.map (Value.int .i64)).toArray 3 (0, 0))) (hne : g ≠ R) (hl : Hid (len = zs.length)) (h0 : 1 ≤ len) (h2 : len ≤ 1000000)
    (hp : p ≤ 1000000000000) :
    Calls Try.prog 54 #[.pointer (some ⟨R, 0, none⟩), .slice (some ⟨g, 0, none⟩) len cap] w fun e w' => OneOf zs w B R L p e w' := by
  have HG := Lib.hid hg
  clear hg
  go_enter Try.func54, Try.ntmps54
  go_wp2_with (go_at_call 58; refine (pick_any w B R L p _ h hp (by omega) (by omega)).mono ?_; rintro e w1 ⟨k, rfl, hk, hrd, hgr⟩; obtain ⟨z, hz, hm⟩ := cell_of_ints HG.out hne hgr (k := k) (by rw [← hl.out]; omega))
  go_ret
  exact ⟨z, rfl, hm, hrd, hgr⟩
end Go.Proofs.Ytfgnckafpnobhaa
