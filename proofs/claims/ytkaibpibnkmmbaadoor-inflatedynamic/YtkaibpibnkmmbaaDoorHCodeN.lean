/-
  Plain numbers: codes by their lengths.
-/
import Derived.Test.YtkaibpibnkmmbaaDoorHStartN
namespace Go.Proofs.YtkaibpibnkmmbaaDoor

/-- The code of each symbol. -/
def codeOf (L : List Int) (i : Nat) : Int := if L.getD i 0 = 0 then 0 else stf (cf L) (L.getD i 0).toNat + cf (L.take i) (L.getD i 0).toNat

def codes (L : List Int) : List Int := (List.range L.length).map (codeOf L)

theorem codes_length (L : List Int) : (codes L).length = L.length := by simp [codes]
theorem codes_getD (L : List Int) (k : Nat) (h : k < L.length) : (codes L).getD k 0 = codeOf L k := by simp [codes, List.getD, h]

/-- The error of Codes. -/
def codeErr (L : List Int) : Int := if okB L = true then (if fl (cf L) 16 ≤ 32768 then 0 else 21) else 1
def codesR (L : List Int) : List Int := if okB L = true then (if fl (cf L) 16 ≤ 32768 then codes L else []) else []

theorem cf_get (L : List Int) (k : Nat) (h : L.length ≤ 320) : 0 ≤ cf L k ∧ cf L k ≤ 320 := by
  have := cf_bd L k
  omega

theorem cf_take_snoc (L : List Int) (k x : Nat) (h : k < L.length) (hx : L.getD k 0 = (x : Int)) (h0 : 0 < x) (j : Nat) : cf (L.take (k + 1)) j = upd (cf (L.take k)) x (cf (L.take k) x + 1) j := by
  rw [take_snoc_i L k h, hx, cf_snoc _ _ _ h0]
theorem cf_take_zero (L : List Int) (k : Nat) (h : k < L.length) (hx : L.getD k 0 = 0) (j : Nat) : cf (L.take (k + 1)) j = cf (L.take k) j := by
  rw [take_snoc_i L k h, hx, cf_zero]

end Go.Proofs.YtkaibpibnkmmbaaDoor
