
/- The law that music is read. -/
import Derived.Test.YtfofjjfnejigaaaNuw
import Derived.Test.YtfofjjfnejigaaaNut
import Derived.Test.YtfofjjfnejigaaaNuq
namespace Go.Proofs.Ytfofjjfnejigaaa
open Go.RowKit

theorem ntsOk_of {P : List PNote} (hl : P.length ≤ 20) (h : ∀ x ∈ P, NtOk x) : NtsOk P :=
  ⟨by omega, fun i hi => h _ (by rw [List.getD_eq_getElem?_getD, List.getElem?_eq_getElem hi, Option.getD_some]; exact List.getElem_mem hi)⟩
def CellsOut (w : World) (e : Ending) (w' : World) : Prop :=
  ∃ v zs, e = .returned v ∧ IntsAt w' v zs ∧ Below w.heap.size w w'
set_option maxHeartbeats 1000000 in
theorem drawReadMusic_any (w : World) (a : Option Addr) (len cap : Nat) (zs : List Int) (h : RowIn .u8 w a len cap zs) :
    Calls Try.prog 17 #[.slice a len cap] w fun e w' => CellsOut w e w' := by
  obtain ⟨h1, h2, h3⟩ := bytesAt_of_row h
  clear h
  go_enter Try.func17, Try.ntmps17
  go_wp2_with fail
  refine (newReader_any w _ a len cap h1 (Nat.le_refl _) h2 h3).mono ?_
  rintro e w1 ⟨L, rfl, hrd, hgr⟩
  go_wp2_with fail
  refine (someNotes_ok _ _ _ L 0 hrd (by omega)).mono ?_
  rintro e w2 ⟨a2, n2, c2, P, q, rfl, hown, hl, hok, hrd2, hq, hg⟩
  have HX := keptN hown.at
  have HOK : Hid (NtsOk P) := ntsOk_of hl hok
  have HB2 := keptN (grown_new hgr hg (Nat.le_refl _))
  have hml := (musTo_len P P.length).2
  clear hown hok hrd hgr hg
  go_wp2_with fail
  refine (s_musicCells w2 _ P HX.out HOK).mono ?_
  rintro e w3 ⟨a3, n3, c3, rfl, hO3, hb3⟩
  have hrd3 := hrd2.grown (grownBU hb3)
  have hv : (∃ g off n c, Value.slice a3 n3 c3 = .slice (some ⟨g, off, none⟩) n c) ∨ Value.slice a3 n3 c3 = .slice none 0 0 := by
    rcases hO3.2 with ⟨e, _⟩ | ⟨g, c, cur, e, _⟩
    · exact .inr e
    · exact .inl ⟨g, 0, _, c, e⟩
  have HV := Lib.hid hv
  have hB3 : w.grownBy w3 none := grown_trans HB2.out (grownBU hb3)
  have HB3 := Lib.hid hB3
  have HI3 := keptN hO3.at
  have hsz := HB2.out.size
  have hsz3 := hb3.size
  clear hv hb3 hO3 hrd2 hB3 HB2 HX
  go_wp2_with fail
  refine (spoilCells_any w3 _ _ L q 40 _ (musTo P P.length) 3 hrd3 (by omega) HI3.out (by omega) (by omega) HV.out (by omega) (by omega)).mono ?_
  rintro e w4 ⟨g4, n4, c4, zs4, q4, rfl, hO4, _, _, _, hg4⟩
  have FIN := keptN (And.intro hO4.at (below_of_grown (grown_new HB3.out hg4 (Nat.le_refl _))))
  clear hO4 hg4 HB3 HI3 HV hrd3
  go_wp2
  go_ret
  exact ⟨_, zs4, rfl, FIN.out.1, FIN.out.2⟩
set_option maxHeartbeats 2000000 in
theorem readMusic_walk (a : Option Addr) (len cap : Nat) (zs : List Int) (w : World) (h : RowIn .u8 w a len cap zs) :
    Calls Try.prog 6 #[.slice a len cap] w fun e w' => e = .returned (.bool true) ∧ Below w.heap.size w w' := by
  have hlen : len ≤ 9223372036854775807 := by
    obtain ⟨_, h2, h3⟩ := bytesAt_of_row h; unfold maxLen at h3; omega
  by_cases hbig : len ≤ 1048576
  · go_enter Try.func6, Try.ntmps6
    go_wp2_with fail
    refine (drawReadMusic_any w a len cap zs h).mono ?_
    rintro e w1 ⟨v, cells, rfl, hx, hb1⟩
    clear h
    obtain ⟨P, ok, hr⟩ := rmIs_ex cells
    have HR := keptN hr
    have HX := keptN hx
    have hbb : (ok != ok) = false := by cases ok <;> rfl
    clear hx
    go_wp2_with fail
    refine (i_ReadMusic w1 _ cells P ok HX.out HR).mono ?_
    rintro e w2 ⟨a2, n2, c2, rfl, hO2, hb2⟩
    have hB2 := below_next hb1 hb2
    have HI2 := keptN hO2.at
    have HX2 := keptN (HX.out.below hb2)
    clear hO2 hb1 hb2 HX
    go_wp2_with fail
    refine (s_ReadMusic w2 _ cells P ok HX2.out HR).mono ?_
    rintro e w3 ⟨a3, n3, c3, rfl, hO3, hb3⟩
    have hB3 := below_next hB2 hb3
    have HI3 := keptN hO3.at
    have HI23 := keptN (HI2.out.below hb3)
    have HX3 := keptN (HX2.out.below hb3)
    clear hO3 hb3 hB2 HI2 HX2
    go_wp2_with fail
    refine (equalNotes_same w3 _ _ P HI23.out HI3.out).mono ?_
    rintro e w4 ⟨rfl, hb4⟩
    have hB4 := below_next hB3 hb4
    have HI4 := keptN (HI23.out.below hb4)
    have HI34 := keptN (HI3.out.below hb4)
    have HX4 := keptN (HX3.out.below hb4)
    clear hB3 hb4 HI23 HX3 HI3
    cases ok with
    | false =>
      clear hr
      go_wp2_with fail
      refine (equalNotes_same w4 _ _ P HI4.out HI34.out).mono ?_
      rintro e w5 ⟨rfl, hb5⟩
      have hB5 := below_next hB4 hb5
      go_wp2
      go_ret
      exact ⟨rfl, hB5⟩
    | true =>
      have HM : Hid (MusIs P cells) := by
        rcases hr with ⟨_, h1, h2⟩ | ⟨h, _⟩
        · exact .inl ⟨h1, h2.symm⟩
        · exact absurd h (by simp)
      clear hr
      go_wp2_with fail
      refine (i_MusicCells w4 _ P cells HI4.out HM).mono ?_
      rintro e w5 ⟨a5, n5, c5, rfl, hO5, hb5⟩
      have hB5 := below_next hB4 hb5
      have HI5 := keptN hO5.at
      have HX5 := keptN (HX4.out.below hb5)
      clear hO5 hb5 hB4
      go_wp2_with fail
      refine (equalInts_u w5 _ _ cells HI5.out HX5.out).mono ?_
      rintro e w6 ⟨rfl, hb6⟩
      have hB6 := below_next hB5 hb6
      go_wp2
      go_ret
      exact ⟨rfl, hB6⟩
  · go_enter Try.func6, Try.ntmps6
    go_wp2
    go_ret
    exact ⟨rfl, Below.refl _ _⟩
end Go.Proofs.Ytfofjjfnejigaaa
