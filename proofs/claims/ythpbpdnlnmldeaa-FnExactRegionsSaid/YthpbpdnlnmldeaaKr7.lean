
/- Parts of a picture, found from a list of dots. Pure. -/
import Derived.Test.YthpbpdnlnmldeaaKp7
namespace Go.Proofs.Ythpbpdnlnmldeaa

/-- the dots around a place, those before the place k, q -/
structure Bes (g : Nat → Nat → Int) (y x k q : Nat) (B : List (Nat × Nat)) : Prop where
  each : ∀ p ∈ B, Adj y x p.1 p.2 ∧ g p.1 p.2 = 1 ∧ (p.1 < k ∨ (p.1 = k ∧ p.2 < q))
  once : B.Nodup
  full : ∀ a b, Adj y x a b → g a b = 1 → (a < k ∨ (a = k ∧ b < q)) → (a, b) ∈ B
theorem Bes.start {g : Nat → Nat → Int} {y x Y : Nat} (h : Y = y - 1) : Bes g y x Y 0 [] :=
  ⟨fun p hp => absurd hp (by simp), List.nodup_nil, fun a b ha _ hb => by unfold Adj at ha; omega⟩
theorem Bes.col {g : Nat → Nat → Int} {y x k X : Nat} {B : List (Nat × Nat)} (h : Bes g y x k 0 B) (hX : X = x - 1) : Bes g y x k X B :=
  ⟨fun p hp => by obtain ⟨h1, h2, h3⟩ := h.each p hp; exact ⟨h1, h2, by omega⟩, h.once, fun a b ha h1 hb => h.full a b ha h1 (by unfold Adj at ha; omega)⟩
theorem Bes.skip {g : Nat → Nat → Int} {y x k q : Nat} {B : List (Nat × Nat)} (h : Bes g y x k q B) (h1 : g k q ≠ 1) : Bes g y x k (q + 1) B :=
  ⟨fun p hp => by obtain ⟨h1, h2, h3⟩ := h.each p hp; exact ⟨h1, h2, by omega⟩, h.once, fun a b ha h2 hb => by
    by_cases c : a = k ∧ b = q
    · obtain ⟨rfl, rfl⟩ := c; exact absurd h2 h1
    · exact h.full a b ha h2 (by omega)⟩
theorem Bes.add {g : Nat → Nat → Int} {y x k q : Nat} {B : List (Nat × Nat)} (h : Bes g y x k q B) (ha : Adj y x k q) (h1 : g k q = 1) : Bes g y x k (q + 1) (B ++ [(k, q)]) := by
  refine ⟨fun p hp => ?_, ?_, fun a b ha2 h2 hb => ?_⟩
  · rcases List.mem_append.1 hp with hp | hp
    · obtain ⟨h1, h2, h3⟩ := h.each p hp; exact ⟨h1, h2, by omega⟩
    · simp only [List.mem_singleton] at hp; subst hp; exact ⟨ha, h1, by show k < k ∨ (k = k ∧ q < q + 1); omega⟩
  · rw [List.nodup_append]
    refine ⟨h.once, by simp, fun p hp p' hp' e => ?_⟩
    simp only [List.mem_singleton] at hp'
    subst e hp'
    have := (h.each _ hp).2.2
    simp at this
  · by_cases c : a = k ∧ b = q
    · obtain ⟨rfl, rfl⟩ := c; simp
    · exact List.mem_append.2 (.inl (h.full a b ha2 h2 (by omega)))
theorem Bes.row {g : Nat → Nat → Int} {y x k q : Nat} {B : List (Nat × Nat)} (h : Bes g y x k q B) (hq : ∀ b, q ≤ b → Adj y x k b → g k b ≠ 1) : Bes g y x (k + 1) 0 B :=
  ⟨fun p hp => by obtain ⟨h1, h2, h3⟩ := h.each p hp; exact ⟨h1, h2, by omega⟩, h.once, fun a b ha h2 hb => by
    by_cases c : a = k ∧ q ≤ b
    · obtain ⟨rfl, c⟩ := c; exact absurd h2 (hq b c ha)
    · exact h.full a b ha h2 (by omega)⟩
/-- a part, half taken away: L are the dots found, the dots around the first i of them are in it -/
structure Bfs (f g : Nat → Nat → Int) (y x n m : Nat) (L : List (Nat × Nat)) (i : Nat) : Prop where
  only : ∀ a b, g a b = f a b ∨ (g a b = 0 ∧ (a, b) ∈ L)
  low : ∀ p ∈ L, g p.1 p.2 = 0 ∧ f p.1 p.2 = 1 ∧ Reach f y x p.1 p.2
  head : (y, x) ∈ L
  done : ∀ k, k < i → k < L.length → ∀ a b, Adj (L.getD k (0, 0)).1 (L.getD k (0, 0)).2 a b → g a b ≠ 1
  many : (L.length : Int) + bs g 0 n 0 m = bs f 0 n 0 m
theorem Bfs.fin {f g : Nat → Nat → Int} {y x n m i : Nat} {L : List (Nat × Nat)} (h : Bfs f g y x n m L i) (hi : L.length ≤ i) : CutIs f g y x := by
  refine ⟨fun a b => ?_, (h.low _ h.head).1, fun a b a' b' e1 e2 e3 => ?_⟩
  · rcases h.only a b with e | ⟨e, k⟩
    · exact .inl e
    · exact .inr ⟨e, (h.low _ k).2.1, (h.low _ k).2.2⟩
  · rcases h.only a b with e | ⟨e, k⟩
    · exact absurd (e.trans e1) e2
    · obtain ⟨j, hj, ej⟩ := List.getElem_of_mem k
      have eg : L.getD j (0, 0) = (a, b) := by rw [List.getD_eq_getElem?_getD, List.getElem?_eq_getElem hj, Option.getD_some, ej]
      exact h.done j (by omega) hj a' b' (by rw [eg]; exact e3)
theorem Bfs.first {f : Nat → Nat → Int} {y x n m : Nat} (hy : y < n) (hx : x < m) (h1 : f y x = 1) : Bfs f (upd f y x 0) y x n m [(y, x)] 0 := by
  refine ⟨fun a b => ?_, fun p hp => ?_, by simp, fun k hk => absurd hk (by omega), ?_⟩
  · unfold upd
    by_cases c : a = y ∧ b = x
    · obtain ⟨rfl, rfl⟩ := c
      rw [if_pos ⟨rfl, rfl⟩]; exact .inr ⟨rfl, by simp⟩
    · rw [if_neg c]; exact .inl rfl
  · simp only [List.mem_singleton] at hp
    subst hp
    exact ⟨by unfold upd; rw [if_pos ⟨rfl, rfl⟩], h1, .here⟩
  · have e := bs_cut (f := f) (y0 := 0) (ny := n) (x0 := 0) (nx := m) hy hx
    rw [Nat.zero_add, Nat.zero_add, h1] at e
    rw [e]; simp
theorem getD_left {L M : List (Nat × Nat)} {k : Nat} (h : k < L.length) : (L ++ M).getD k (0, 0) = L.getD k (0, 0) := by
  rw [List.getD_eq_getElem?_getD, List.getD_eq_getElem?_getD, List.getElem?_append_left h]
/-- one dot more -/
theorem Bfs.more {f g : Nat → Nat → Int} {y x n m i a b : Nat} {L : List (Nat × Nat)} (h : Bfs f g y x n m L i) (hi : i < L.length) (hA : Adj (L.getD i (0, 0)).1 (L.getD i (0, 0)).2 a b) (h1 : g a b = 1) (ha : a < n) (hb : b < m) : Bfs f (upd g a b 0) y x n m (L ++ [(a, b)]) i := by
  have hle : ∀ c d, upd g a b 0 c d = 1 → g c d = 1 := fun c d e => by
    unfold upd at e
    by_cases k : c = a ∧ d = b
    · rw [if_pos k] at e; omega
    · rw [if_neg k] at e; exact e
  have hf : f a b = 1 := by
    rcases h.only a b with e | ⟨e, _⟩ <;> omega
  have hmem : L.getD i (0, 0) ∈ L := by
    rw [List.getD_eq_getElem?_getD, List.getElem?_eq_getElem hi, Option.getD_some]; exact List.getElem_mem _
  refine ⟨fun c d => ?_, fun p hp => ?_, List.mem_append.2 (.inl h.head), fun k hk _ c d e => ?_, ?_⟩
  · by_cases k : c = a ∧ d = b
    · obtain ⟨rfl, rfl⟩ := k
      exact .inr ⟨by unfold upd; rw [if_pos ⟨rfl, rfl⟩], by simp⟩
    · have e : upd g a b 0 c d = g c d := by unfold upd; rw [if_neg k]
      rw [e]
      rcases h.only c d with e2 | ⟨e2, e3⟩
      · exact .inl e2
      · exact .inr ⟨e2, List.mem_append.2 (.inl e3)⟩
  · rcases List.mem_append.1 hp with hp | hp
    · obtain ⟨k1, k2, k3⟩ := h.low p hp
      refine ⟨?_, k2, k3⟩
      unfold upd
      by_cases k : p.1 = a ∧ p.2 = b
      · rw [if_pos k]
      · rw [if_neg k]; exact k1
    · simp only [List.mem_singleton] at hp
      subst hp
      exact ⟨by unfold upd; rw [if_pos ⟨rfl, rfl⟩], hf, (h.low _ hmem).2.2.step hA hf⟩
  · rw [getD_left (by omega)] at e
    exact fun c2 => h.done k hk (by omega) c d e (hle c d c2)
  · have e := bs_cut (f := g) (y0 := 0) (ny := n) (x0 := 0) (nx := m) ha hb
    rw [Nat.zero_add, Nat.zero_add, h1] at e
    have e2 := h.many
    rw [List.length_append, List.length_singleton]
    push_cast
    omega
/-- the first t of the dots around are taken away -/
def outL (g : Nat → Nat → Int) (B : List (Nat × Nat)) : Nat → Nat → Int := fun a b => if (a, b) ∈ B then 0 else g a b
theorem Bfs.next {f g : Nat → Nat → Int} {y x n m i : Nat} {L B : List (Nat × Nat)} (h : Bfs f (outL g B) y x n m (L ++ B) i) (hi : i < L.length) (hB : ∀ a b, Adj (L.getD i (0, 0)).1 (L.getD i (0, 0)).2 a b → g a b = 1 → (a, b) ∈ B) : Bfs f (outL g B) y x n m (L ++ B) (i + 1) :=
  ⟨h.only, h.low, h.head, fun k hk hk2 a b e => by
    by_cases c : k = i
    · subst c
      rw [getD_left hi] at e
      intro c2
      unfold outL at c2
      by_cases m2 : (a, b) ∈ B
      · rw [if_pos m2] at c2; omega
      · rw [if_neg m2] at c2; exact m2 (hB a b e c2)
    · exact h.done k (by omega) hk2 a b e, h.many⟩
theorem outL_snoc (g : Nat → Nat → Int) (B : List (Nat × Nat)) (a b : Nat) : upd (outL g B) a b 0 = outL g (B ++ [(a, b)]) := by
  funext c d
  unfold upd outL
  by_cases k : c = a ∧ d = b
  · obtain ⟨rfl, rfl⟩ := k
    rw [if_pos ⟨rfl, rfl⟩, if_pos (by simp)]
  · rw [if_neg k]
    by_cases k2 : (c, d) ∈ B
    · rw [if_pos k2, if_pos (List.mem_append.2 (.inl k2))]
    · rw [if_neg k2, if_neg]
      intro k3
      rcases List.mem_append.1 k3 with k3 | k3
      · exact k2 k3
      · simp only [List.mem_singleton, Prod.mk.injEq] at k3; exact k k3
theorem outL_nil (g : Nat → Nat → Int) : outL g [] = g := by
  funext a b
  unfold outL
  rw [if_neg (by simp)]
end Go.Proofs.Ythpbpdnlnmldeaa
