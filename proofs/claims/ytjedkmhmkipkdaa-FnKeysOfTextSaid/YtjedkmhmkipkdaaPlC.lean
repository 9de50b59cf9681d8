
/- Chunks of a text: a run of letters, or one other character. -/
import Derived.Test.YtjedkmhmkipkdaaPl
namespace Go.Proofs.Ytjedkmhmkipkdaa
open Go.RowKit

/-- where the chunk from k on ends -/
def ce (l : List UInt8) (k : Nat) : Nat := if letB (l.getD k 0).toNat then re l k else k + 1
theorem ce_gt {l : List UInt8} {k : Nat} (h : k < l.length) : k < ce l k := by
  unfold ce
  split
  · next hb =>
    rw [getD_at h] at hb
    exact re_gt h hb
  · omega
theorem ce_le {l : List UInt8} {k : Nat} (h : k < l.length) : ce l k ≤ l.length := by
  unfold ce
  split
  · exact re_le (by omega)
  · omega
theorem i_chunkEnd (s : ByteArray) (l : List UInt8) (k e : Nat) (w : World) (hT : Txt s l) (hs : s.size ≤ 1000000) (h0 : k < s.size) (he : Hid (ce l k = e)) :
    Calls Try.prog 47 #[.string s, .int .i64 k] w fun e' w' => e' = .returned (.int .i64 e) ∧ w = w' := by
  have HT := Lib.hid hT
  obtain ⟨h2, hbk⟩ := hT.2 k h0
  have hd := getD_at h2
  rw [hbk] at hd
  cases hlet : letB (s[k]).toNat with
  | true =>
    have HL := Lib.hid hlet
    have HE : Hid (re l k = e) := by show _ = _; rw [← he.out, ce, hd, hlet, if_pos rfl]
    clear hlet hbk hd hT he
    go_enter Try.func47, Try.ntmps47
    go_wp2_with fail
    refine (i_isLetter_b _ true _ HL).mono ?_
    rintro e w' ⟨rfl, rfl⟩
    go_wp2_with fail
    refine (i_runEnd s l k e _ HT.out (by omega) (by omega) HE).mono ?_
    rintro e w' ⟨rfl, rfl⟩
    go_wp2
    go_ret
    exact ⟨rfl, rfl⟩
  | false =>
    have HL := Lib.hid hlet
    have HE : Hid (((k : Int) + 1) = (e : Int)) := by
      show _ = _
      have : k + 1 = e := by rw [← he.out, ce, hd, hlet, if_neg (by simp)]
      omega
    clear hlet hbk hd hT he
    go_enter Try.func47, Try.ntmps47
    go_wp2_with fail
    refine (i_isLetter_b _ false _ HL).mono ?_
    rintro e w' ⟨rfl, rfl⟩
    go_wp2
    go_ret
    exact ⟨by rw [← HE.out]; rfl, rfl⟩
end Go.Proofs.Ytjedkmhmkipkdaa
