
/- A table without one of its rules. -/
import Derived.Test.YtohgglhjcklbaaaDy
import Derived.Deep.RegionLaw
namespace Go.Proofs.Ytohgglhjcklbaaa
open Go.RowKit

theorem step_of {P : Program} {o : Oper} {a : Act} {w : World} {y : Nat → Option Bool} {K : Act → World → Prop} {Q : Exit → Act → World → Prop} {E : Prop} (hgd : o.guard = none) (h : Oper.wp P o a w K Q) : if Region.wanted o y = true then Oper.wp P o a w K Q else E := by
  have hw : Region.wanted o y = true := by simp [Region.wanted, hgd]
  rw [if_pos hw]; exact h
theorem rcells_app (A B : List (PRule × Value)) : rcells (A ++ B) = rcells A ++ rcells B := by simp [rcells]
theorem rcells_take_news {w : World} {S g n cap i : Nat} {Q : List (PRule × Value)} (h : w.ownsRow S 46 3 (.slice (some ⟨g, 0, none⟩) n cap) n (rcells Q)) : ∀ j u, (rcells (Q.take i))[j]? = some u → w.cell? ((⟨g, 0, none⟩ : Addr).add j) = some u := by
  intro j u hj
  refine h.cells (g := g) rfl j u ?_
  have hl := (List.getElem?_eq_some_iff.1 hj).1
  have e := rcells_app (Q.take i) (Q.drop i)
  rw [List.take_append_drop] at e
  rw [e, List.getElem?_append_left hl]; exact hj
theorem rcells_drop_news {w : World} {S g n cap i : Nat} {Q : List (PRule × Value)} (hi : i ≤ Q.length) (h : w.ownsRow S 46 3 (.slice (some ⟨g, 0, none⟩) n cap) n (rcells Q)) : ∀ j u, (rcells (Q.drop i))[j]? = some u → w.cell? ((⟨g, i * 3, none⟩ : Addr).add j) = some u := by
  intro j u hj
  have e := rcells_app (Q.take i) (Q.drop i)
  rw [List.take_append_drop] at e
  have hl : (rcells (Q.take i)).length = i * 3 := by rw [rcells_len, List.length_take, Nat.min_eq_left hi]
  have := h.cells (g := g) rfl (i * 3 + j) u (by rw [e, List.getElem?_append_right (by omega), hl, show i * 3 + j - i * 3 = j from by omega]; exact hj)
  rw [Addr.add_lit] at this ⊢
  rw [Nat.zero_add] at this
  exact this
/-- a table without its i-th rule -/
def wout (Q : List (PRule × Value)) (i : Nat) : List (PRule × Value) := Q.take i ++ Q.drop (i + 1)
theorem wout_mem {Q : List (PRule × Value)} {i : Nat} {x : PRule × Value} (h : x ∈ wout Q i) : x ∈ Q := by
  rcases List.mem_append.1 h with h | h
  · exact List.mem_of_mem_take h
  · exact List.mem_of_mem_drop h
set_option maxRecDepth 20000 in
set_option maxHeartbeats 4000000 in
theorem withoutRule_any (w : World) (S : Nat) (g n cap i : Nat) (Q : List (PRule × Value)) (h : TabOwn w S (.slice (some ⟨g, 0, none⟩) n cap) Q) (hn : Hid (Q.length = n)) (hi : i < n) (hbig : n ≤ 1000) (hS : S ≤ w.heap.size) :
    Calls Try.prog 24 #[.slice (some ⟨g, 0, none⟩) n cap, .int .i64 i] w fun e w' => ∃ g' c', e = .returned (.slice (some ⟨g', 0, none⟩) (n - 1) c') ∧ TabOwn w' S (.slice (some ⟨g', 0, none⟩) (n - 1) c') (wout Q i) ∧ Below w.heap.size w w' := by
  obtain ⟨i0, hi0, hz0, hz1, hz2⟩ := info_parts infoRule
  have hcap : n ≤ cap ∧ cap ≤ 9223372036854775807 := by
    rcases h.1.2 with ⟨h3, _⟩ | ⟨g', c', cur, h3, _, _, h4, h5, _⟩
    · simp at h3
    · injection h3 with e1 e2 e3
      unfold maxLen at h5
      rw [hn.out] at h4
      omega
  have hrow := h.1
  rw [hn.out] at hrow
  have hl1 : Hid ((rcells (Q.take i)).length = i * 3) := by show _ = _; rw [rcells_len, List.length_take, hn.out, Nat.min_eq_left (by omega)]
  have hl2 : Hid ((rcells (Q.drop (i + 1))).length = (n - 1 - i) * 3) := by
    show _ = _
    have e : n - (i + 1) = n - 1 - i := by omega
    rw [rcells_len, List.length_drop, hn.out, e]
  have ho1 := keptH (rcells_one (Q.take i) (fun q hq => (h.2.1 q (List.mem_of_mem_take hq)).2))
  have ho2 := keptH (rcells_one (Q.drop (i + 1)) (fun q hq => (h.2.1 q (List.mem_of_mem_drop hq)).2))
  have hownv : (w.alloc (.cells #[] 46)).drew.ownsRow w.heap.size 46 3 (.slice (some ⟨w.heap.size, 0, none⟩) 0 0) 0 [] := World.ownsRow_made w #[] 0 (Nat.le_refl _) (by unfold maxLen; omega) rfl
  have hB1 : Below w.heap.size w (w.alloc (.cells #[] 46)).drew := ((Below.refl _ _).alloc (Nat.le_refl _) _).drew
  have hrow1 := (h.below hB1).1
  rw [hn.out] at hrow1
  obtain ⟨ad, had, hdrop⟩ : ∃ ad, (if cap = i + 1 then some (⟨g, 0, none⟩ : Addr) else some ⟨g, (i + 1) * 3, none⟩) = some ad ∧ ∀ wx, Below w.heap.size w wx → ∀ j u, (rcells (Q.drop (i + 1)))[j]? = some u → wx.cell? (ad.add j) = some u := by
    by_cases hc : cap = i + 1
    · refine ⟨_, if_pos hc, fun wx hb j u hj => ?_⟩
      have e : rcells (Q.drop (i + 1)) = [] := by rw [List.drop_eq_nil_of_le (by rw [hn.out]; omega)]; rfl
      rw [e] at hj
      simp at hj
    · refine ⟨_, if_neg hc, fun wx hb j u hj => ?_⟩
      have hr := (h.below hb).1
      rw [hn.out] at hr
      exact rcells_drop_news (by rw [hn.out]; omega) hr j u hj
  have HAD := keptH had
  have HDR := keptH hdrop
  clear had hdrop
  have H1 := keptH (rcells_take_news (i := i) hrow1)
  have HOV := keptH hownv
  have HB1 := keptH hB1
  have H := keptH h
  have b1 : (0 : Int) ≤ (i : Int) := by omega
  have b2 : (i : Int) ≤ (cap : Int) := by omega
  have b3 : (0 : Int) ≤ (i : Int) + 1 := by omega
  have b4 : (i : Int) + 1 ≤ (n : Int) := by omega
  have b5 : (n : Int) ≤ (cap : Int) := by omega
  have u1 : IntKind.i64.wrap ((i : Int) + 1) = (i : Int) + 1 := IntWalk.i64_in _ (by omega)
  have u2 : ((i : Int) + 1).toNat = i + 1 := by omega
  have z1 : i ≤ maxLen := by unfold maxLen; omega
  have z2 : i + (n - 1 - i) ≤ maxLen := by unfold maxLen; omega
  have z3 : i * 48 ≤ 140737488355328 := by omega
  have z4 : (i + (n - 1 - i)) * 48 ≤ 140737488355328 := by omega
  have z5 : n - (i + 1) = n - 1 - i := by omega
  have ZZ := keptH (And.intro z1 (And.intro z2 (And.intro z3 (And.intro z4 z5))))
  clear h hrow hrow1 hownv hB1 z1 z2 z3 z4 z5
  go_enter Try.func24, Try.ntmps24
  go_wp2_with fail
  go_region_law (first | (refine step_of (by rfl) ?_; refine wp_append_own _ (.tmp 5) (.tmp 8) 30 rfl w.heap.size 46 i0 (.agg #[.string ⟨#[]⟩, .slice none 0 0, .int .i64 0]) 3 48 Try.underlying30 hi0 hz0 hz1 hz2 rfl (by decide) (.slice (some ⟨w.heap.size, 0, none⟩) 0 0) 0 [] rfl HOV.out ⟨g, 0, none⟩ i cap (rcells (Q.take i)) rfl hl1.out H1.out ho1.out (by simp only [Nat.zero_add]; exact ZZ.out.1) (by simp only [Nat.zero_add]; exact ZZ.out.2.2.1) (HB1.out.size) ?_; intro v2 w2 hown2 hgrow2 hnil2; have hb2 : Below w.heap.size w w2 := HB1.out.grown hgrow2 HB1.out.size (by simp [Value.ownBlock]); have HOV2 := keptH hown2; have HB2 := keptH hb2; have HN2 : Hid (v2 ≠ .slice none 0 0) := (show v2 ≠ .slice none 0 0 from fun e => by have := (hnil2.1 e).1; simp at this); clear hown2 hb2 hgrow2 hnil2 HOV H1) | (refine step_of (by rfl) ?_; refine wp_append_own _ (.tmp 9) (.tmp 13) 30 rfl w.heap.size 46 i0 (.agg #[.string ⟨#[]⟩, .slice none 0 0, .int .i64 0]) 3 48 Try.underlying30 hi0 hz0 hz1 hz2 rfl (by decide) v2 (0 + i) _ rfl HOV2.out ad (n - 1 - i) (cap - (i + 1)) (rcells (Q.drop (i + 1))) (by show Value.slice (if cap = i + 1 then some (⟨g, 0, none⟩ : Addr) else some ⟨g, (i + 1) * 3, none⟩) (n - (i + 1)) (cap - (i + 1)) = _; rw [HAD.out, ZZ.out.2.2.2.2]) hl2.out (HDR.out _ HB2.out) ho2.out (by simp only [Nat.zero_add]; exact ZZ.out.2.1) (by simp only [Nat.zero_add]; exact ZZ.out.2.2.2.1) (HB2.out.size) ?_; intro v3 w3 hown3 hgrow3 hnil3))
  have hnn : v3 ≠ .slice none 0 0 := fun e => HN2.out (hnil3.1 e).1
  have hB3 : Below w.heap.size w w3 := HB2.out.grown hgrow3 HB2.out.size (fun k hk => (HOV2.out.lt k hk).1)
  have hN : 0 + i + (n - 1 - i) = n - 1 := by omega
  rw [hN, List.nil_append, ← rcells_app] at hown3
  obtain ⟨g', c', hv3⟩ : ∃ g' c', v3 = .slice (some ⟨g', 0, none⟩) (n - 1) c' := by
    rcases hown3.2 with ⟨e, _⟩ | ⟨g2, c', cur, e, _⟩
    · exact absurd e hnn
    · exact ⟨g2, c', e⟩
  subst hv3
  have hlen : (wout Q i).length = n - 1 := by
    unfold wout
    rw [List.length_append, List.length_take, List.length_drop, hn.out, Nat.min_eq_left (by omega)]
    omega
  have hT : TabOwn w3 S (.slice (some ⟨g', 0, none⟩) (n - 1) c') (wout Q i) := by
    refine ⟨?_, fun q hq => ?_, g', c', by rw [hlen]⟩
    · rw [hlen]
      exact World.ownsRow.mono hown3 hS
    · have hq' := H.out.2.1 q (wout_mem hq)
      exact ⟨hq'.1.below hB3, hq'.2⟩
  have FIN := keptH (And.intro hT hB3)
  clear hown3 hgrow3 hnil3 hT hB3 hlen hN hnn HOV2 HB2 HAD HDR H
  go_wp2
  all_goals
    go_ret
    exact ⟨g', c', rfl, FIN.out.1, FIN.out.2⟩
end Go.Proofs.Ytohgglhjcklbaaa
