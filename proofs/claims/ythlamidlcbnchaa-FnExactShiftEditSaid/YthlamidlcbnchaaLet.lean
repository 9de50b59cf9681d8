
/- Letters and digits: plain lists and the contracts of the functions that compute them. -/
import Derived.Test.YthlamidlcbnchaaIdx
namespace Go.Proofs.Ythlamidlcbnchaa
open Go.RowKit

def letL : List Int := [1, 3, 9, 25, 17, 11, 27, 19, 10, 26, 5, 7, 13, 29, 21, 15, 31, 23, 14, 30, 37, 39, 58, 45, 61, 53]
def digL : List Int := [26, 1, 3, 9, 25, 17, 11, 27, 19, 10]
theorem cases26 {n : Int} (h0 : 0 ≤ n) (h1 : n < 26) : n = 0 ∨ n = 1 ∨ n = 2 ∨ n = 3 ∨ n = 4 ∨ n = 5 ∨ n = 6 ∨ n = 7 ∨ n = 8 ∨ n = 9 ∨ n = 10 ∨ n = 11 ∨ n = 12 ∨ n = 13 ∨ n = 14 ∨ n = 15 ∨ n = 16 ∨ n = 17 ∨ n = 18 ∨ n = 19 ∨ n = 20 ∨ n = 21 ∨ n = 22 ∨ n = 23 ∨ n = 24 ∨ n = 25 := by omega
theorem cases10 {n : Int} (h0 : 0 ≤ n) (h1 : n < 10) : n = 0 ∨ n = 1 ∨ n = 2 ∨ n = 3 ∨ n = 4 ∨ n = 5 ∨ n = 6 ∨ n = 7 ∨ n = 8 ∨ n = 9 := by omega

end Go.Proofs.Ythlamidlcbnchaa
