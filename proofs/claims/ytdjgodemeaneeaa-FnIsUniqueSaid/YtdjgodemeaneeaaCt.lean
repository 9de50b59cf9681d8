
/- Unique codes and the longest rest, in the model. -/
import Derived.Test.YtdjgodemeaneeaaCs
import Derived.Maps.AppendAt
namespace Go.Proofs.Ytdjgodemeaneeaa
open Go.RowKit

/-- behind an append of one list: the row lies where it lay, or in a new block -/
theorem wpList_append_ls_at {ops : Array Oper} {rest : List Oper} {o : Oper} {a : Act} {w : World} {Q : Exit → Act → World → Prop} (hgd : o.guard = none) (s x : Operand)
    (ho : o.op = .call { callee := .builtin .append, args := #[s, x], argTypes := #[44, 44] }) (base eb g : Nat) {v u : Value} {P : List (List Int)} (zs : List Int) (hs : a.eval s = v) (hx : a.eval x = .slice (some ⟨g, 0, none⟩) 1 1)
    (h1 : OwnLs w base eb v P) (h2 : w.cell? ⟨g, 0, none⟩ = some u) (h3 : ElOk w eb u zs) (hu : u.oneCell' = true) (hl : P.length ≤ 100000) (hbase : base ≤ w.heap.size)
    (h : ∀ v' w', OwnLs w' base eb v' (P ++ [zs]) → w.grownBy w' v.ownBlock → (v'.ownBlock = v.ownBlock ∨ v'.ownBlock = some w.heap.size) → wpList Try.prog ops Q rest (a.put o.dst v') w') : wpList Try.prog ops Q (o :: rest) a w := by
  obtain ⟨i0, hi, hz0, hz1, hz2⟩ := info_parts infoLs
  have hrow := h1.row
  obtain ⟨k0, us, k1, k2, k3⟩ := h1
  have hrow' : ∀ k, v.ownBlock = some k → eb ≤ k ∧ ∃ cur, w.heap[k]? = some (.cells cur 31 (0, 0)) := fun k hk => ⟨Nat.le_trans k0 (hrow k hk).1, (hrow k hk).2⟩
  refine wpList_append_own_at w hgd s x 44 ho base 31 i0 (.slice none 0 0) 1 24 Try.underlying44 hi hz0 hz1 hz2 rfl (by decide) v P.length us hs k1 ⟨g, 0, none⟩ 1 1 [u] hx rfl ?_ ?_ (by unfold maxLen; omega) (by omega) hbase ?_
  · intro j u' hj
    rw [Addr.add_lit]
    match j, hj with
    | 0, hj => simp at hj; subst hj; exact h2
  · intro u' hu'
    simp at hu'
    subst hu'
    exact hu
  · intro v' w' hown hgrow hnil hat
    refine h v' w' ⟨k0, us ++ [u], ?_, by simp [k2], fun i hi => ?_⟩ hgrow hat
    · rw [List.length_append]; exact hown
    · rw [List.length_append] at hi
      by_cases hip : i < P.length
      · obtain ⟨u', k4, k5⟩ := k3 i hip
        refine ⟨u', by rw [List.getElem?_append_left (by omega)]; exact k4, ?_⟩
        have e : (P ++ [zs]).getD i [] = P.getD i [] := by rw [List.getD_eq_getElem?_getD, List.getElem?_append_left hip, ← List.getD_eq_getElem?_getD]
        rw [e]
        exact k5.kept hgrow hrow'
      · obtain rfl : i = P.length := by simp at hi; omega
        refine ⟨u, by rw [List.getElem?_append_right (by omega), k2]; simp, ?_⟩
        have e : (P ++ [zs]).getD P.length [] = zs := by simp [List.getD_eq_getElem?_getD]
        rw [e]
        exact h3.kept hgrow hrow'
/-- another row grows -/
theorem OwnLs.kept {w w' : World} {base eb : Nat} {row : Option Nat} {v : Value} {L : List (List Int)} (h : OwnLs w base eb v L) (hg : w.grownBy w' row) (hne : v.ownBlock = none ∨ v.ownBlock ≠ row) (hr : ∀ k, row = some k → eb ≤ k ∧ ∃ cur, w.heap[k]? = some (.cells cur 31 (0, 0))) : OwnLs w' base eb v L := by
  obtain ⟨h0, us, h1, h2, h3⟩ := h
  refine ⟨h0, us, h1.kept hg hne, h2, fun i hi => ?_⟩
  obtain ⟨u, h4, h5⟩ := h3 i hi
  exact ⟨u, h4, h5.kept hg hr⟩
def Apart (v u : Value) : Prop := ∀ q, v.ownBlock = some q → u.ownBlock ≠ some q
theorem Apart.opt {v u : Value} (h : Apart v u) : v.ownBlock = none ∨ v.ownBlock ≠ u.ownBlock := by
  cases hv : v.ownBlock with
  | none => exact .inl rfl
  | some q => exact .inr fun e => h q hv e.symm
theorem addTo_len (ys : List (List Int)) : ∀ R : List (List Int), (ys.foldl addOne R).length ≤ R.length + ys.length := by
  induction ys with
  | nil => exact fun R => Nat.le_refl _
  | cons y ys ih =>
    intro R
    have h1 := ih (addOne R y)
    have h2 : (addOne R y).length ≤ R.length + 1 := by unfold addOne; split <;> simp
    show (ys.foldl addOne (addOne R y)).length ≤ _
    rw [List.length_cons]; omega
theorem take_succC {A : List (List Int)} {k : Nat} (h : k < A.length) : A.take (k + 1) = A.take k ++ [A.getD k []] := by
  rw [List.take_add_one, List.getD_eq_getElem?_getD, List.getElem?_eq_getElem h]; rfl
theorem suf_short {L : List (List Int)} (hv : ValidCd L) {x : List Int} (h : IsSuf L x) : x.length ≤ 100 := by
  obtain ⟨i, j, h1, h2, h3, rfl⟩ := h
  have := (hv.2.1 i h1).1.2
  rw [List.length_drop]; omega
theorem not_uniq {L : List (List Int)} {N : Nat} (h : ∀ i, i < N → i < (restN L i).length) (hN : N < (restN L N).length) (hx : (restN L N).getD N [] ∈ L) : ¬ Uniq L := by
  rintro ⟨M, h1, h2⟩
  have hNM : N < M := by
    refine Classical.byContradiction fun k => ?_
    rcases Nat.lt_or_ge M N with e | e
    · have := h M e; have := h1.2; omega
    · obtain rfl : M = N := by omega
      have := h1.2; omega
  have := h2 N hNM
  rw [getD_pre (restN_mono L (Nat.le_of_lt hNM)) hN] at this
  exact this hx

set_option maxHeartbeats 8000000 in
theorem s_isUnique (w : World) (v : Value) (L : List (List Int)) (u : Bool) (hx : ListsAt w v L) (hv : Hid (ValidCd L)) (hu : Hid (u = true ↔ Uniq L)) :
    Calls Try.prog 60 #[v] w fun e w' => e = .returned (.bool u) ∧ Below w.heap.size w w' := by
  have HX := Lib.hid hx
  obtain ⟨a, c, rfl, x1, x2, _⟩ := hx
  obtain ⟨n, hn⟩ : ∃ n, L.length = n := ⟨_, rfl⟩
  rw [hn] at x1 HX ⊢
  have HN := Lib.hid hn
  have hn8 : n ≤ 8 := by have := hv.out.1; omega
  clear hn
  go_enter Try.func60, Try.ntmps60
  go_wp2_with fail
  refine (s_firstLeft w _ L HX.out hv).mono ?_
  rintro e wA ⟨_, rfl, hO0, hB0, aA, nA, cA, rfl⟩
  go_wp2_with fail
  go_loopw [3, 4] (fun o y wr => ∃ N : Nat, y = .int .i64 N ∧ N ≤ 24 ∧ (∀ i, i < N → i < (restN L i).length) ∧ NoIn L (restN L N) N ∧ OwnLs wr w.heap.size 0 o (restN L N) ∧ Below w.heap.size w wr) (fun _ y _ => 25 - (intOf y).toNat)
  case atStart => exact ⟨0, rfl, by omega, fun i h => absurd h (by omega), NoIn.zero _ _, hO0, hB0⟩
  case round =>
    clear hO0 hB0
    obtain ⟨N, rfl, hN24, hlt3, hni, hO, hB⟩ := hrel
    obtain ⟨ao, no, co, hoo⟩ := hO.isSlice
    subst hoo
    have hno : no = (restN L N).length := by
      obtain ⟨_, _, e⟩ := listOf hO.at
      injection e with _ e2 _
    have hle := restN_le hv.out hlt3
    have hok := restN_ok hv.out N hlt3
    have HO := keptC hO
    have HB := keptC hB
    have HLT := keptC hlt3
    have hs := hB.size
    have HNI := keptC hni
    clear hni
    by_cases hNl : N < no
    · have hN' : N < (restN L N).length := by omega
      have HNL := keptC hN'
      obtain ⟨x, hx⟩ : ∃ x, (restN L N).getD N [] = x := ⟨_, rfl⟩
      have HXX := Lib.hid hx
      have hsf : IsSuf L x := hok.2 x (lmem_of_getD rfl hN' hx)
      have hxl := suf_short hv.out hsf
      obtain ⟨g4, u4, rfl, c4, hE4, hnx⟩ := hO.nth hNl
      clear hnx
      rw [hx] at hE4
      obtain ⟨ap, cp, hu4, _⟩ := id hE4.1
      subst hu4
      have HI4 : Hid (IntsAt wr _ x) := keptC hE4.1
      obtain ⟨R0, hR0⟩ : ∃ R0, restN L N = R0 := ⟨_, rfl⟩
      have HR0 := Lib.hid hR0
      rw [hR0] at hle hO
      have hno24 : no ≤ 24 := by rw [hno, hR0]; exact hle
      have HXr := keptC (HX.out.below hB)
      have b1 : (0 : Int) ≤ (N : Int) := by omega
      have b2 : (N : Int) < (no : Int) := by omega
      have HO0 := keptC hO
      obtain ⟨bb, hbb⟩ : ∃ bb : Bool, bb = true ↔ x ∈ L := by
        by_cases h : x ∈ L
        · exact ⟨true, by simp [h]⟩
        · exact ⟨false, by simp [h]⟩
      have HBB := keptC hbb
      have hfl := folN_len L x L.length
      have HFL : Hid ((folN L x L.length).length ≤ 16 ∧ R0.length ≤ 24) := ⟨by rw [HN.out] at hfl ⊢; omega, hle⟩
      have hlo : Hid (∀ k, (Value.slice (some ⟨g4, 0, none⟩) no co).ownBlock = some k → k < wr.heap.size) := fun k hk => by
        obtain ⟨_, us, hr, _⟩ := hO
        exact (hr.lt k hk).2
      clear hO hB hlt3 hx hR0 hN' hno hE4 hbb hok hsf hfl
      go_wp2_with fail
      refine (s_followers wr _ _ L x bb HXr.out HI4.out hv hxl HBB).mono ?_
      rintro e w5 ⟨a5, n5, c5, rfl, hO5, hb5⟩
      have HB5 := keptC (below_next HB.out hb5)
      have HO5 := keptC (HO0.out.below hb5)
      have HF5 := keptC hO5
      have HA5 : Hid (Apart (.slice a5 n5 c5) (.slice (some ⟨g4, 0, none⟩) no co)) := fun q hq e => by
        have h1 := (hO5.row q hq).1
        have h2 := hlo.out q e
        omega
      have HNF : Hid (n5 = (folN L x L.length).length) := by
        obtain ⟨_, _, e⟩ := listOf hO5.at
        injection e with _ e2 _
      have hn5 : n5 ≤ 16 := by have := HNF.out; have := HFL.out.1; omega
      have hs5 := HB5.out.size
      clear hb5 hO5
      cases bb with
      | true =>
        have HF : Hid (u = false) := by
          show u = false
          cases u
          · rfl
          · refine absurd (hu.out.1 rfl) (not_uniq HLT.out HNL.out ?_)
            rw [HXX.out]; exact HBB.out.1 rfl
        go_wp2
        go_ret
        exact ⟨by rw [HF.out]; rfl, HB5.out⟩
      | false =>
        have HNX : Hid (x ∉ L) := fun h => by have := HBB.out.2 h; simp at this
        go_wp2_with fail
        go_loopw [3, 7] (fun o y wz => ∃ k : Nat, k ≤ n5 ∧ y = .int .i64 k ∧ OwnLs wz w.heap.size 0 o (((folN L x L.length).take k).foldl addOne R0) ∧ OwnLs wz wr.heap.size 0 (.slice a5 n5 c5) (folN L x L.length) ∧ Apart (.slice a5 n5 c5) o ∧ Below w.heap.size w wz) (fun _ y _ => n5 - (intOf y).toNat)
        case atStart => exact ⟨0, Nat.zero_le _, rfl, HO5.out, HF5.out, HA5.out, HB5.out⟩
        case round =>
          clear HO5 HF5 HA5 HB5 hs5 hs
          obtain ⟨k, hk, rfl, hO, hF, hA, hB⟩ := hrel
          obtain ⟨ao, no2, co, hoo⟩ := hO.isSlice
          subst hoo
          have HO := keptC hO
          have HF := keptC hF
          have HA := keptC hA
          have HB := keptC hB
          have hs := hB.size
          by_cases hlt4 : k < n5
          · obtain ⟨g6, u6, rfl, c6, hE6, hnx⟩ := hF.nth hlt4
            clear hnx
            obtain ⟨y, hy⟩ : ∃ y, (folN L x L.length).getD k [] = y := ⟨_, rfl⟩
            rw [hy] at hE6
            have HE6 := keptC hE6
            have HI6 : Hid (IntsAt wr _ y) := keptC hE6.1
            obtain ⟨a6, z6, hu6, _⟩ := id hE6.1
            obtain ⟨l6, hl6⟩ : ∃ l6, y.length = l6 := ⟨_, rfl⟩
            rw [hl6] at hu6
            subst hu6
            obtain ⟨Q, hQ⟩ : ∃ Q, ((folN L x L.length).take k).foldl addOne R0 = Q := ⟨_, rfl⟩
            have hQl := addTo_len ((folN L x L.length).take k) R0
            rw [hQ] at HO hQl
            have hstep : Hid (((folN L x L.length).take (k + 1)).foldl addOne R0 = addOne Q y) := by
              show _ = _
              rw [take_succC (by rw [← HNF.out]; exact hlt4), List.foldl_append, hQ, hy]; rfl
            have HQL : Hid (Q.length ≤ 1000) := by
              show _ ≤ _
              have h1 := HFL.out
              rw [List.length_take] at hQl
              omega
            have b3 : (0 : Int) ≤ (k : Int) := by omega
            have b4 : (k : Int) < (n5 : Int) := by omega
            clear hy hl6 hQ hQl hE6 hO hF hA hB
            by_cases hin : y ∈ Q
            · have HH : Hid (decide (y ∈ Q) = true) := decide_eq_true hin
              have hadd : Hid (addOne Q y = Q) := if_pos hin
              clear hin
              go_wp2_with fail
              refine (s_hasList_b wr _ _ Q y true HO.out.at HI6.out HH).mono ?_
              rintro e w7 ⟨rfl, hb7⟩
              have HO7 := keptC (HO.out.below hb7)
              have HF7 := keptC (HF.out.below hb7)
              have HB7 := keptC (below_next HB.out hb7)
              clear hb7
              go_wp2
              go_roundw
              case rel => exact ⟨k + 1, by omega, by go_num, by rw [hstep.out, hadd.out]; exact HO7.out, HF7.out, HA.out, HB7.out⟩
              case measure => simp [intOf]; omega
            · have HH : Hid (decide (y ∈ Q) = false) := decide_eq_false hin
              have hadd : Hid (addOne Q y = Q ++ [y]) := if_neg hin
              clear hin
              go_wp2_with fail
              refine (s_hasList_b wr _ _ Q y false HO.out.at HI6.out HH).mono ?_
              rintro e w7 ⟨rfl, hb7⟩
              have c7 := (hb7.cell (World.block_lt_of_cell? wr _ c6)).trans c6
              have hB7 := below_next HB.out hb7
              have hal : Below w7.heap.size w7 (w7.alloc (.cells #[.slice a6 l6 z6] 31)) := (Below.refl _ _).alloc (Nat.le_refl _) _
              have HO8 := keptC ((HO.out.below hb7).below hal)
              have HE8 := keptC ((HE6.out.below hb7).below hal)
              have HF8 := keptC ((HF.out.below hb7).below hal)
              have HC8 : Hid ((w7.alloc (.cells #[.slice a6 l6 z6] 31)).cell? ⟨w7.heap.size, 0, none⟩ = some (.slice a6 l6 z6)) := by
                show _ = _
                rw [cell_of_row _ w7.heap.size 0 _ _ _ (heap_alloc_new w7 _)]; rfl
              have HS8 : Hid (Q.length ≤ 100000 ∧ w.heap.size ≤ (w7.alloc (.cells #[.slice a6 l6 z6] 31)).heap.size) := ⟨by have := HQL.out; omega, Nat.le_trans hB7.size hal.size⟩
              have HO7 := keptC (HO.out.below hb7)
              have hs7 := hB7.size
              have HB7 := keptC hB7
              clear hb7 hB7 hal c6
              go_wp2_with (at_builtin; go_loud (refine wpList_append_ls_at rfl _ _ rfl w.heap.size 0 w7.heap.size y rfl rfl HO8.out HC8.out HE8.out rfl HS8.out.1 HS8.out.2 ?_))
              intro v9 w9 hown9 hgrow9 hat9
              have HO9 := keptC hown9
              have HB9 := keptC (grown_ls HB7.out hs7 HO7.out hgrow9)
              have HF9 := keptC (HF8.out.kept hgrow9 HA.out.opt (fun q hq => ⟨Nat.zero_le _, (HO8.out.row q hq).2⟩))
              have HA9 : Hid (Apart (.slice (some ⟨g6, 0, none⟩) n5 c5) v9) := fun q hq e => by
                rcases hat9 with h | h
                · exact HA.out q hq (h.symm.trans e)
                · obtain ⟨_, us, hr, _⟩ := HF8.out
                  have h1 := (hr.lt q hq).2
                  have h3 := World.size_alloc w7 (.cells #[.slice a6 l6 z6] 31)
                  rw [h3] at h1
                  have h2 : some q = some (w7.heap.size + 1) := e.symm.trans h
                  injection h2 with h2
                  omega
              clear hown9 hgrow9 hat9
              go_wp2
              go_roundw
              case rel => exact ⟨k + 1, by omega, by go_num, by rw [hstep.out, hadd.out]; exact HO9.out, HF9.out, HA9.out, HB9.out⟩
              case measure => simp [intOf]; omega
          · obtain rfl : n5 = k := by omega
            have hst : Hid (restN L (N + 1) = ((folN L x L.length).take n5).foldl addOne R0) := by
              show stepW L ((restN L N).getD N []) (restN L N) L.length = _
              rw [HXX.out, HR0.out, stepW_fol, List.take_of_length_le (by rw [HNF.out]; exact Nat.le_refl _)]
            clear hO hF hA hB
            have HNI' : Hid (NoIn L (restN L (N + 1)) (N + 1)) := by
              have hp := restN_pre L N
              intro i hi
              by_cases e : i = N
              · subst e
                rw [getD_pre hp HNL.out, HXX.out]
                exact HNX.out
              · have h1 : i < (restN L N).length := by have := HNL.out; omega
                rw [getD_pre hp h1]
                exact HNI.out i (by omega)
            go_wp2
            go_roundw
            case rel => exact ⟨N + 1, by go_num, by omega, fun i hi => by
              by_cases e : i = N
              · subst e; exact HNL.out
              · exact HLT.out i (by omega), HNI'.out, by rw [hst.out]; exact HO.out, HB.out⟩
            case measure => simp [intOf]; omega
    · have hF : Hid (Fin L N) := ⟨hlt3, by omega⟩
      have HF : Hid (u = true) := by
        refine hu.out.2 ⟨N, hF.out, HNI.out⟩
      clear hO hB hlt3 hle hno hok
      go_wp2
      go_ret
      exact ⟨by rw [HF.out]; rfl, HB.out⟩
end Go.Proofs.Ytdjgodemeaneeaa
