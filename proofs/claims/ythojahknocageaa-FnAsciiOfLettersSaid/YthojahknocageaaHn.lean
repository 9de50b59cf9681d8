
/- WordCells of drawn tables and words: P31 and P26. -/
import Derived.Test.YthojahknocageaaHm
import Derived.Test.YthojahknocageaaVm
namespace Go.Proofs.Ythojahknocageaa
open Go.RowKit

theorem equalInts_h (w : World) (u v : Value) (xs : List Int) (hx : IntsAt w u xs) (hy : IntsAt w v xs) :
    Calls Try.prog 14 #[u, v] w fun e w' => e = .returned (.bool true) ∧ Below w.heap.size w w' := by
  have := equalInts_any w u v xs xs hx hy
  rw [decide_eq_true rfl] at this
  exact this
/-- the cells of the best pieces of a word -/
structure WcFacts (T : List PRule) (s : ByteArray) (C : List Int) : Prop where
  ok : OkW T s
  best : ∃ P, BestPs T s P ∧ BestFacts T s P ∧ C = pcsL T s P
theorem wc_lists (T : List PRule) (s : ByteArray) (n : Nat) (hn : T.length = n) (hf : TableFits T) (hs : s.size ≤ 17) :
    ∃ C : List Int, Hid (∀ wx g c, TableAt wx (.slice (some ⟨g, 0, none⟩) n c) T → Calls Try.prog 19 #[.slice (some ⟨g, 0, none⟩) n c, .string s] wx fun e w' => ListMade C wx e w') ∧ Hid (∀ wx u, TableAt wx u T → Calls Try.prog 18 #[u, .string s] wx fun e w' => ListMade C wx e w') ∧
      C.length ≤ 16 ∧ (C = [] ∨ Hid (WcFacts T s C)) := by
  have hss : s.size ≤ 9223372036854775807 := by omega
  obtain ⟨b, C, hb, hC⟩ := wcRes_ex T s
  refine ⟨C, fun wx g c h => (s_WordCells wx g n c T s b h hn hf hss (Lib.hid hb)).mono fun e w' ⟨Q, hQ, hM⟩ => by rw [hC.same hb hQ]; exact hM, fun wx u h => (i_WordCells wx u T s b h hf hss (Lib.hid hb)).mono fun e w' ⟨Q, hQ, hM⟩ => by rw [hC.same hb hQ]; exact hM, hC.len16 hb, ?_⟩
  cases b with
  | false => left; unfold WcRes at hC; simpa using hC
  | true =>
    right
    have hk := hb.1 rfl
    unfold WcRes at hC
    simp at hC
    obtain ⟨P, h1, h2⟩ := hC
    exact ⟨hk, P, h1, h1.facts hk.1 hk.2, h2⟩
theorem wc_yes (T : List PRule) (s : ByteArray) (hf : TableFits T) (hs : s.size ≤ 17) (hv : OkW T s) :
    ∃ C : List Int, Hid (∀ wx u, TableAt wx u T → Calls Try.prog 18 #[u, .string s] wx fun e w' => ListMade C wx e w') ∧ Hid (WcFacts T s C) := by
  have hss : s.size ≤ 9223372036854775807 := by omega
  obtain ⟨P, hP⟩ := bestPs_ex hv.1 s
  have hb : true = true ↔ OkW T s := ⟨fun _ => hv, fun _ => rfl⟩
  have hR : WcRes T s true (pcsL T s P) := ⟨P, hP, rfl⟩
  exact ⟨_, fun wx u h => (i_WordCells wx u T s true h hf hss (Lib.hid hb)).mono fun e w' ⟨Q, hQ, hM⟩ => by rw [hR.same hb hQ]; exact hM, hv, P, hP, hP.facts hv.1 hv.2, rfl⟩
theorem WcFacts.same {T : List PRule} {s : ByteArray} {C : List Int} (h : WcFacts T s C) {P : List PPiece} (hP : BestPs T s P) : C = pcsL T s P := by
  obtain ⟨P', h1, _, h2⟩ := h.best
  rw [h2, h1.same h.ok.1 hP]
theorem letS_ok {s : ByteArray} (hw : WordB 16 s.data.toList) {k : Nat} (hk : k < s.size) : WordCell (letS s (k : Int)) := by
  obtain ⟨j, hj, _, e⟩ := small_at hw hk
  rw [e]
  have key : ∀ j : Fin 26, WordCell (letL.getD j.1 0) := by decide +kernel
  exact key ⟨j, hj⟩
theorem pcsL_ok {T : List PRule} {s : ByteArray} {P : List PPiece} (hv : ValidTb T) (hw : WordB 16 s.data.toList) (hp : ValidPv T s P) : ∀ z ∈ pcsL T s P, WordCell z := by
  have key : ∀ k, k ≤ P.length → ∀ z ∈ pcsTo T s P k, WordCell z := by
    intro k
    induction k with
    | zero => intro _ z hz; simp [pcsTo] at hz
    | succ k ih =>
      intro hk z hz
      rcases List.mem_append.1 hz with h | h
      · exact ih (by omega) z h
      · have h1 := (hp.1 k (by omega)).2
        unfold pcC at h
        split at h
        · have h := List.mem_singleton.1 h
          obtain ⟨m, hm⟩ : ∃ m : Nat, (P.getD k noP).f = m := ⟨(P.getD k noP).f.toNat, by have := h1.1; omega⟩
          rw [h, hm]
          exact letS_ok hw (by have := h1.2.1; omega)
        · rename_i hr
          rcases h1.2.2 with ⟨h2, _⟩ | ⟨h2, h3, _⟩
          · exact absurd h2 hr
          · exact (hv.2.1 _ (by omega)).2.2.1 z h
  exact key P.length (Nat.le_refl _)
end Go.Proofs.Ythojahknocageaa
