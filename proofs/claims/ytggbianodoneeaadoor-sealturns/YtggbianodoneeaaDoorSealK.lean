
/- The sealed text of hello, reckoned by the kernel as far as its two tags: they are unlike. -/
import Derived.Test.YtggbianodoneeaaDoorSealB
namespace Go.Proofs.YtggbianodoneeaaDoor
set_option linter.unusedSimpArgs false
set_option linter.unusedVariables false
set_option maxRecDepth 100000

def N16 : List UInt8 := [1, 0, 0, 0, 0, 0, 0, 0, 0, 0, 0, 0, 0, 0, 0, 0]
def HELLO : List UInt8 := [104, 101, 108, 108, 111]
def TKL : List UInt8 := [90, 75, 209, 202, 233, 114, 90, 114, 248, 169, 218, 30, 61, 75, 226, 49, 63, 66, 36, 56, 42, 148, 146, 121, 81, 159, 67, 214, 195, 125, 106, 81]
def SKL : List UInt8 := [49, 226, 77, 43, 44, 142, 159, 150, 164, 5, 130, 178, 37, 131, 251, 59, 48, 55, 252, 132, 247, 164, 253, 14, 138, 18, 54, 81, 152, 90, 61, 20]
def PKL : List UInt8 := [49, 152, 147, 35, 80, 33, 199, 2, 46, 148, 56, 170, 48, 133, 90, 162, 16, 217, 129, 245, 186, 149, 100, 129, 100, 250, 69, 241, 51, 53, 13, 8]
def BODY : List UInt8 := [1, 0, 0, 0, 0, 0, 0, 0, 0, 0, 0, 0, 0, 0, 0, 0, 89, 253, 255, 79, 63]
theorem tk_k : tkey [107] = TKL := by unfold tkey; rw [drv32]; decide +kernel
theorem sk_k : skey [107] = SKL := by unfold skey; rw [drv32]; decide +kernel
theorem p_k : piece SKL N16 0 = PKL := by decide +kernel
theorem tag_l : hmac TKL (len2 1 ++ [108] ++ BODY) = [154, 162, 164, 223, 36, 67, 190, 15, 218, 230, 102, 227, 58, 152, 0, 252, 255, 176, 220, 83, 27, 112, 62, 209, 142, 252, 228, 131, 61, 104, 197, 166] := by decide +kernel
theorem tag_m : hmac TKL (len2 1 ++ [109] ++ BODY) = [24, 126, 55, 143, 79, 182, 104, 217, 38, 238, 63, 114, 196, 147, 232, 217, 111, 94, 23, 61, 113, 249, 7, 99, 87, 95, 136, 219, 132, 100, 252, 171] := by decide +kernel
theorem body_k : N16 ++ turnB [107] N16 HELLO = BODY := by
  have h : turnB [107] N16 HELLO = (List.range 5).map fun i => HELLO.getD i 0 ^^^ PKL.getD i 0 := by
    unfold turnB turnTo
    rw [sk_k]
    apply List.map_congr_left
    intro i hi
    have h5 : i < 5 := List.mem_range.1 hi
    unfold strm
    rw [show i / 32 = 0 from by omega, show i % 32 = i from by omega, p_k]
  rw [h]
  decide +kernel
theorem tags_unlike : tagB [107] [108] BODY ≠ tagB [107] [109] BODY := by
  have e1 : tagB [107] [108] BODY = hmac TKL (len2 1 ++ [108] ++ BODY) := by unfold tagB; rw [tk_k]; rfl
  have e2 : tagB [107] [109] BODY = hmac TKL (len2 1 ++ [109] ++ BODY) := by unfold tagB; rw [tk_k]; rfl
  rw [e1, e2, tag_l, tag_m]
  decide

end Go.Proofs.YtggbianodoneeaaDoor
