
/- Texts of cells and their parts between hyphens: plain lists. -/
import Derived.Test.YthlamidlcbnchaaCellF
import Derived.Test.YthlamidlcbnchaaTxtB
namespace Go.Proofs.Ythlamidlcbnchaa
open Go.RowKit

def notH (b : UInt8) : Bool := b != 45
/-- the place of the first hyphen from k on; the length if there is none -/
def tw (l : List UInt8) (k : Nat) : Nat := k + ((l.drop k).takeWhile notH).length
def sub (l : List UInt8) (a b : Nat) : List UInt8 := (l.drop a).take (b - a)
theorem drop_at {l : List UInt8} {k : Nat} (h : k < l.length) : l.drop k = l[k] :: l.drop (k + 1) := List.drop_eq_getElem_cons h
theorem tw_go {l : List UInt8} {k : Nat} (h : k < l.length) (hb : l[k] ≠ 45) : tw l k = tw l (k + 1) := by
  unfold tw
  rw [drop_at h, List.takeWhile_cons, if_pos (by simpa [notH] using hb)]
  simp; omega
theorem tw_stop {l : List UInt8} {k : Nat} (h : k < l.length) (hb : l[k] = 45) : tw l k = k := by
  unfold tw
  rw [drop_at h, List.takeWhile_cons, if_neg (by simp [notH, hb])]
  simp
theorem tw_end {l : List UInt8} {k : Nat} (h : l.length ≤ k) : tw l k = k := by
  unfold tw
  rw [List.drop_of_length_le h]; simp
theorem tw_ge (l : List UInt8) (k : Nat) : k ≤ tw l k := by unfold tw; omega
theorem tw_le {l : List UInt8} {k : Nat} (h : k ≤ l.length) : tw l k ≤ l.length := by
  unfold tw
  have := (List.takeWhile_sublist notH (l := l.drop k)).length_le
  simp at this
  omega
def parts : List UInt8 → List (List UInt8)
  | [] => [[]]
  | c :: r => if c = 45 then [] :: parts r else
    match parts r with
    | [] => [[c]]
    | p :: q => (c :: p) :: q
theorem parts_tw : ∀ (r : List UInt8), parts r = r.takeWhile notH :: (if (r.takeWhile notH).length < r.length then parts (r.drop ((r.takeWhile notH).length + 1)) else []) := by
  intro r
  induction r with
  | nil => simp [parts]
  | cons c r ih =>
    rw [parts]
    by_cases hc : c = 45
    · subst hc
      rw [if_pos rfl, List.takeWhile_cons, if_neg (by simp [notH])]
      simp
    · rw [if_neg hc, List.takeWhile_cons, if_pos (by simpa [notH] using hc)]
      rw [ih]
      simp
theorem parts_at {l : List UInt8} {k : Nat} (h : k ≤ l.length) : parts (l.drop k) = sub l k (tw l k) :: (if tw l k < l.length then parts (l.drop (tw l k + 1)) else []) := by
  rw [parts_tw]
  have h1 : (l.drop k).takeWhile notH = sub l k (tw l k) := by
    unfold sub tw
    rw [Nat.add_sub_cancel_left]
    exact (List.prefix_iff_eq_take.1 (List.takeWhile_prefix notH))
  have h2 : ((l.drop k).takeWhile notH).length = tw l k - k := by unfold tw; omega
  have h3 := tw_ge l k
  rw [← h1]
  congr 1
  rw [h2, List.length_drop, List.drop_drop]
  by_cases h4 : tw l k < l.length
  · rw [if_pos h4, if_pos (by omega)]
    congr 2
    omega
  · rw [if_neg h4, if_neg (by omega)]
/-- the cell of a part; -1 if there is none -/
def pc (p : List UInt8) : Int :=
  match (List.range 64).find? (fun c => cellT c == p) with
  | some c => (c : Int)
  | none => -1
theorem cellT_inj : ∀ c : Nat, c < 64 → ∀ d : Nat, d < 64 → cellT c = cellT d → c = d := by decide +kernel
theorem pc_of {c : Nat} {p : List UInt8} (hc : c < 64) (h : cellT c = p) : pc p = c := by
  unfold pc
  cases hf : (List.range 64).find? (fun c => cellT c == p) with
  | none =>
    have := List.find?_eq_none.1 hf c (by simpa using hc)
    simp [h] at this
  | some d =>
    have h1 := List.find?_some hf
    have h2 := List.mem_of_find?_eq_some hf
    have h3 : d = c := cellT_inj d (by simpa using h2) c hc (by simp at h1; rw [h1, h])
    simp [h3]
theorem pc_none {p : List UInt8} (h : ∀ c : Nat, c < 64 → cellT c ≠ p) : pc p = -1 := by
  unfold pc
  rw [List.find?_eq_none.2]
  intro c hc
  simp at hc ⊢
  exact h c hc
theorem pc_cases (p : List UInt8) : (∃ c : Nat, c < 64 ∧ pc p = c ∧ cellT c = p) ∨ (pc p = -1 ∧ ∀ c : Nat, c < 64 → cellT c ≠ p) := by
  by_cases h : ∃ c : Nat, c < 64 ∧ cellT c = p
  · obtain ⟨c, hc, he⟩ := h
    exact .inl ⟨c, hc, pc_of hc he, he⟩
  · have h' : ∀ c : Nat, c < 64 → cellT c ≠ p := fun c hc he => h ⟨c, hc, he⟩
    exact .inr ⟨pc_none h', h'⟩
/-- the dots that the bytes of a part tell -/
def dotsOfB (p : List UInt8) : List Int := p.map fun b => (b.toNat : Int) - 48
theorem digB_back (d : Int) (h0 : 1 ≤ d) (h1 : d ≤ 6) : ((digB d).toNat : Int) - 48 = d := by have := digB_nat d h0 h1; omega
theorem dotsOfB_cellT {c : Nat} (hc : c < 64) (h0 : c ≠ 0) : dotsOfB (cellT c) = dotsL c := by
  rw [cellT, if_neg h0, dotsOfB, List.map_map]
  conv => rhs; rw [← List.map_id (dotsL c)]
  apply List.map_congr_left
  intro d hd
  obtain ⟨h1, h2⟩ := dots_bd c hc d hd
  exact digB_back d h1 h2
theorem cellOf_pc {p : List UInt8} (h0 : p ≠ [48]) (h1 : p ≠ []) : cellL (dotsOfB p) = pc p := by
  rcases cellFrom_neg (dotsOfB p) 0 0 (by omega) with hneg | hpos
  · have hn : cellL (dotsOfB p) = -1 := hneg
    rw [hn]
    symm
    apply pc_none
    intro c hc he
    by_cases hz : c = 0
    · subst hz; exact h0 (by rw [← he]; rfl)
    · rw [← he, dotsOfB_cellT hc hz, cell_dots c hc] at hn
      omega
  · have hp : 0 ≤ cellL (dotsOfB p) := hpos
    obtain ⟨f1, f2⟩ := cellL_facts _ hp
    obtain ⟨v, hv⟩ : ∃ v : Nat, cellL (dotsOfB p) = v := ⟨(cellL (dotsOfB p)).toNat, by omega⟩
    rw [hv] at f1 f2 ⊢
    have hv64 : v < 64 := by omega
    rw [show ((v : Int)).toNat = v from by omega] at f1
    have hz : v ≠ 0 := by
      rintro rfl
      have : dotsOfB p = [] := by rw [← f1]; rfl
      exact h1 (by simpa [dotsOfB] using this)
    symm
    apply pc_of hv64
    rw [cellT, if_neg hz, f1, dotsOfB, List.map_map]
    conv => rhs; rw [← List.map_id p]
    apply List.map_congr_left
    intro b hb
    have hd := dots_bd v hv64 ((b.toNat : Int) - 48) (by rw [f1]; exact List.mem_map.2 ⟨b, hb, rfl⟩)
    have hb2 := b.toNat_lt
    simp only [Function.comp, digB, id]
    apply UInt8.toNat_inj.1
    simp
    omega
def readParts : List (List UInt8) → Option (List Int)
  | [] => some []
  | p :: q => if pc p < 0 then none else (readParts q).map (fun zs => pc p :: zs)
def parseL (l : List UInt8) : Option (List Int) :=
  if l = [] then some [] else if (parts l).length ≤ 200 then readParts (parts l) else none
/-- what is left to read: the cells so far, and the parts from k on -/
def RestAt (l : List UInt8) (k : Nat) (zs : List Int) : Prop :=
  parseL l = if k ≤ l.length then (if zs.length + (parts (l.drop k)).length ≤ 200 then (readParts (parts (l.drop k))).map (fun r => zs ++ r) else none) else some zs
theorem RestAt.start {l : List UInt8} (h : l ≠ []) : RestAt l 0 [] := by
  unfold RestAt
  rw [if_pos (Nat.zero_le _), parseL, if_neg h]
  simp
theorem RestAt.bad {l : List UInt8} {k : Nat} {zs : List Int} (h : RestAt l k zs) (hk : k ≤ l.length) (hc : pc (sub l k (tw l k)) < 0 ∨ 200 ≤ zs.length) : parseL l = none := by
  unfold RestAt at h
  rw [if_pos hk, parts_at hk] at h
  rcases hc with hc | hc
  · rw [readParts, if_pos hc] at h
    simpa using h
  · rw [if_neg (by simp; omega)] at h
    exact h
theorem RestAt.good {l : List UInt8} {k : Nat} {zs : List Int} {c : Int} (h : RestAt l k zs) (hk : k ≤ l.length) (hc : pc (sub l k (tw l k)) = c) (h0 : 0 ≤ c) (hz : zs.length < 200) : RestAt l (tw l k + 1) (zs ++ [c]) := by
  unfold RestAt at h ⊢
  rw [if_pos hk, parts_at hk, readParts, hc, if_neg (show ¬ c < 0 from by omega)] at h
  have hle := tw_le hk
  by_cases ht : tw l k < l.length
  · rw [if_pos ht] at h
    rw [if_pos (by omega), h]
    simp only [List.length_cons, List.length_append, List.length_nil, Option.map_map, Function.comp_def, List.append_assoc, List.cons_append, List.nil_append]
    rw [show zs.length + ((parts (l.drop (tw l k + 1))).length + 1) = zs.length + (0 + 1) + (parts (l.drop (tw l k + 1))).length from by omega]
  · rw [if_neg ht] at h
    rw [if_neg (by omega), h, if_pos (by simp; omega)]
    simp [readParts]
theorem RestAt.done {l : List UInt8} {k : Nat} {zs : List Int} (h : RestAt l k zs) (hk : l.length < k) : parseL l = some zs := by
  unfold RestAt at h
  rw [if_neg (by omega)] at h
  exact h
end Go.Proofs.Ythlamidlcbnchaa
