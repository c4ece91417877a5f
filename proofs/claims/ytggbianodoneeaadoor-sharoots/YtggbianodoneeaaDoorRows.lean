/-
  NARROWER THAN 'FOR EVERY INPUT', by the rows' own cells (each row's printed sentence says how): ShaRoots: laid · MacDerives: laid · SealSeals: laid · SealOpens: laid · SealTurns: laid · SealSizes: laid.
  DERIVED. THE GIVEN ROWS OF THIS SEAT. 6 by the template 'for every input the law returns true; each argument reads behind the call as it read before'; 0 by the template 'total and deterministic' (their statements: YtggbianodoneeaaDoorTotals.lean).
  GIVEN WITH THE SEED: the statements are not yours to turn. If you find one false, say at which input.
  Laid BY PROGRAM, IN A SANDBOX (cutbox-rows.mjs): the forced cells as the released guide's own fill.sh prints them over the translation 7ce990226d1b43f9… (all of the seat's roots in one cut). By AI agents, Wed Nov 11 2026. No macro, syntax, notation, axiom, sorry.
-/
import Derived.Test.YtggbianodoneeaaDoorChecked
import GoSem.Claim
import GoSem.ClaimJoined
import GoSem.ClaimMapViews
import Derived.JoinedTies
import Derived.KernelRfl
namespace Go.Proofs.YtggbianodoneeaaDoor
/- THE CELL 'sum', in the pinned program and in every row, IS THE sha256 OF THE DUMP (.gsa) THAT YtggbianodoneeaaDoorProg.lean LOADS. Nothing in Lean hashes anything: it is a label: what it is worth is what the hold of that sum in a sandbox is worth. -/
noncomputable def Tryd.pinned : Pinned := { name := "ytggbianodoneeaadoor", sum := "7ce990226d1b43f99372bd63ea0a36083393cc8e0722e251982fa593732c45e5", checked := Tryd.checked }
namespace Rows
def none {H : Type} : Left H := { results := [], args := [] }

/- WHAT THE LISTED PACKAGE-LEVEL VARIABLES READ AS WHEN THE CALL BEGINS. Each datum BY PROGRAM (the guide's laid-datum.mjs) off the statement by which the dump's own 'gosem.cut.vars' lays the variable. In a bare row this is a premise. The card (YtggbianodoneeaaDoorCards.lean) ties it to the program's text. -/
def laid_lantern_sha_first {H : Type} : DataW H := .agg [.lit (.int .u32 1779033703), .lit (.int .u32 3144134277), .lit (.int .u32 1013904242), .lit (.int .u32 2773480762), .lit (.int .u32 1359893119), .lit (.int .u32 2600822924), .lit (.int .u32 528734635), .lit (.int .u32 1541459225)]
def laid_lantern_sha_rounds {H : Type} : DataW H := .agg [.lit (.int .u32 1116352408), .lit (.int .u32 1899447441), .lit (.int .u32 3049323471), .lit (.int .u32 3921009573), .lit (.int .u32 961987163), .lit (.int .u32 1508970993), .lit (.int .u32 2453635748), .lit (.int .u32 2870763221), .lit (.int .u32 3624381080), .lit (.int .u32 310598401), .lit (.int .u32 607225278), .lit (.int .u32 1426881987), .lit (.int .u32 1925078388), .lit (.int .u32 2162078206), .lit (.int .u32 2614888103), .lit (.int .u32 3248222580), .lit (.int .u32 3835390401), .lit (.int .u32 4022224774), .lit (.int .u32 264347078), .lit (.int .u32 604807628), .lit (.int .u32 770255983), .lit (.int .u32 1249150122), .lit (.int .u32 1555081692), .lit (.int .u32 1996064986), .lit (.int .u32 2554220882), .lit (.int .u32 2821834349), .lit (.int .u32 2952996808), .lit (.int .u32 3210313671), .lit (.int .u32 3336571891), .lit (.int .u32 3584528711), .lit (.int .u32 113926993), .lit (.int .u32 338241895), .lit (.int .u32 666307205), .lit (.int .u32 773529912), .lit (.int .u32 1294757372), .lit (.int .u32 1396182291), .lit (.int .u32 1695183700), .lit (.int .u32 1986661051), .lit (.int .u32 2177026350), .lit (.int .u32 2456956037), .lit (.int .u32 2730485921), .lit (.int .u32 2820302411), .lit (.int .u32 3259730800), .lit (.int .u32 3345764771), .lit (.int .u32 3516065817), .lit (.int .u32 3600352804), .lit (.int .u32 4094571909), .lit (.int .u32 275423344), .lit (.int .u32 430227734), .lit (.int .u32 506948616), .lit (.int .u32 659060556), .lit (.int .u32 883997877), .lit (.int .u32 958139571), .lit (.int .u32 1322822218), .lit (.int .u32 1537002063), .lit (.int .u32 1747873779), .lit (.int .u32 1955562222), .lit (.int .u32 2024104815), .lit (.int .u32 2227730452), .lit (.int .u32 2361852424), .lit (.int .u32 2428436474), .lit (.int .u32 2756734187), .lit (.int .u32 3204031479), .lit (.int .u32 3329325298)]

/-- 'lanternlaw02.ShaRoots': WHATEVER THE INPUT: true; the input reads as it did. -/
def shaRootsSpec : ChangeSpec := { name := "shaRoots", fn := fun _ => fun
  | [d] => { results := [.lit (.bool true)], args := [d] }
  | _ => none }
def shaRootsRow : OpenClaim := { program := "ytggbianodoneeaadoor", sum := "7ce990226d1b43f99372bd63ea0a36083393cc8e0722e251982fa593732c45e5", func := "lantern/lanternlaw02.ShaRoots", spec := "shaRoots", recurses := true, named := ["lantern/sha.first", "lantern/sha.rounds"], apart := false, laid := [("lantern/sha.first", laid_lantern_sha_first), ("lantern/sha.rounds", laid_lantern_sha_rounds)] }
def ShaRootsSaid : Prop := shaRootsRow.holds Tryd.pinned (OpenSpec.ofChange shaRootsSpec)

/-- ITS FALSE NEIGHBOUR: 'it returns false'. Refute it at one input. -/
def shaRootsWrong : ChangeSpec := { name := "shaRoots", fn := fun _ => fun
  | [d] => { results := [.lit (.bool false)], args := [d] }
  | _ => none }
def ShaRootsWrongFalsely : Prop := shaRootsRow.holds Tryd.pinned (OpenSpec.ofChange shaRootsWrong)

/-- 'lanternlaw03.MacDerives': WHATEVER THE INPUT: true; the input reads as it did. -/
def macDerivesSpec : ChangeSpec := { name := "macDerives", fn := fun _ => fun
  | [d1, d2, d3] => { results := [.lit (.bool true)], args := [d1, d2, d3] }
  | _ => none }
def macDerivesRow : OpenClaim := { program := "ytggbianodoneeaadoor", sum := "7ce990226d1b43f99372bd63ea0a36083393cc8e0722e251982fa593732c45e5", func := "lantern/lanternlaw03.MacDerives", spec := "macDerives", recurses := true, named := ["lantern/sha.first", "lantern/sha.rounds"], apart := false, laid := [("lantern/sha.first", laid_lantern_sha_first), ("lantern/sha.rounds", laid_lantern_sha_rounds)] }
def MacDerivesSaid : Prop := macDerivesRow.holds Tryd.pinned (OpenSpec.ofChange macDerivesSpec)

/-- ITS FALSE NEIGHBOUR: 'it returns false'. Refute it at one input. -/
def macDerivesWrong : ChangeSpec := { name := "macDerives", fn := fun _ => fun
  | [d1, d2, d3] => { results := [.lit (.bool false)], args := [d1, d2, d3] }
  | _ => none }
def MacDerivesWrongFalsely : Prop := macDerivesRow.holds Tryd.pinned (OpenSpec.ofChange macDerivesWrong)

/-- 'lanternlaw04.SealSeals': WHATEVER THE INPUT: true; the input reads as it did. -/
def sealSealsSpec : ChangeSpec := { name := "sealSeals", fn := fun _ => fun
  | [d1, d2] => { results := [.lit (.bool true)], args := [d1, d2] }
  | _ => none }
def sealSealsRow : OpenClaim := { program := "ytggbianodoneeaadoor", sum := "7ce990226d1b43f99372bd63ea0a36083393cc8e0722e251982fa593732c45e5", func := "lantern/lanternlaw04.SealSeals", spec := "sealSeals", recurses := true, named := ["lantern/sha.first", "lantern/sha.rounds"], apart := false, laid := [("lantern/sha.first", laid_lantern_sha_first), ("lantern/sha.rounds", laid_lantern_sha_rounds)] }
def SealSealsSaid : Prop := sealSealsRow.holds Tryd.pinned (OpenSpec.ofChange sealSealsSpec)

/-- ITS FALSE NEIGHBOUR: 'it returns false'. Refute it at one input. -/
def sealSealsWrong : ChangeSpec := { name := "sealSeals", fn := fun _ => fun
  | [d1, d2] => { results := [.lit (.bool false)], args := [d1, d2] }
  | _ => none }
def SealSealsWrongFalsely : Prop := sealSealsRow.holds Tryd.pinned (OpenSpec.ofChange sealSealsWrong)

/-- 'lanternlaw04.SealOpens': WHATEVER THE INPUT: true; the input reads as it did. -/
def sealOpensSpec : ChangeSpec := { name := "sealOpens", fn := fun _ => fun
  | [d1, d2, d3] => { results := [.lit (.bool true)], args := [d1, d2, d3] }
  | _ => none }
def sealOpensRow : OpenClaim := { program := "ytggbianodoneeaadoor", sum := "7ce990226d1b43f99372bd63ea0a36083393cc8e0722e251982fa593732c45e5", func := "lantern/lanternlaw04.SealOpens", spec := "sealOpens", recurses := true, named := ["lantern/sha.first", "lantern/sha.rounds"], apart := false, laid := [("lantern/sha.first", laid_lantern_sha_first), ("lantern/sha.rounds", laid_lantern_sha_rounds)] }
def SealOpensSaid : Prop := sealOpensRow.holds Tryd.pinned (OpenSpec.ofChange sealOpensSpec)

/-- ITS FALSE NEIGHBOUR: 'it returns false'. Refute it at one input. -/
def sealOpensWrong : ChangeSpec := { name := "sealOpens", fn := fun _ => fun
  | [d1, d2, d3] => { results := [.lit (.bool false)], args := [d1, d2, d3] }
  | _ => none }
def SealOpensWrongFalsely : Prop := sealOpensRow.holds Tryd.pinned (OpenSpec.ofChange sealOpensWrong)

/-- 'lanternlaw04.SealTurns': WHATEVER THE INPUT: true; the input reads as it did. -/
def sealTurnsSpec : ChangeSpec := { name := "sealTurns", fn := fun _ => fun
  | [d1, d2, d3] => { results := [.lit (.bool true)], args := [d1, d2, d3] }
  | _ => none }
def sealTurnsRow : OpenClaim := { program := "ytggbianodoneeaadoor", sum := "7ce990226d1b43f99372bd63ea0a36083393cc8e0722e251982fa593732c45e5", func := "lantern/lanternlaw04.SealTurns", spec := "sealTurns", recurses := true, named := ["lantern/sha.first", "lantern/sha.rounds"], apart := false, laid := [("lantern/sha.first", laid_lantern_sha_first), ("lantern/sha.rounds", laid_lantern_sha_rounds)] }
def SealTurnsSaid : Prop := sealTurnsRow.holds Tryd.pinned (OpenSpec.ofChange sealTurnsSpec)

/-- ITS FALSE NEIGHBOUR: 'it returns false'. Refute it at one input. -/
def sealTurnsWrong : ChangeSpec := { name := "sealTurns", fn := fun _ => fun
  | [d1, d2, d3] => { results := [.lit (.bool false)], args := [d1, d2, d3] }
  | _ => none }
def SealTurnsWrongFalsely : Prop := sealTurnsRow.holds Tryd.pinned (OpenSpec.ofChange sealTurnsWrong)

/-- 'lanternlaw04.SealSizes': WHATEVER THE INPUT: true; the input reads as it did. -/
def sealSizesSpec : ChangeSpec := { name := "sealSizes", fn := fun _ => fun
  | [d] => { results := [.lit (.bool true)], args := [d] }
  | _ => none }
def sealSizesRow : OpenClaim := { program := "ytggbianodoneeaadoor", sum := "7ce990226d1b43f99372bd63ea0a36083393cc8e0722e251982fa593732c45e5", func := "lantern/lanternlaw04.SealSizes", spec := "sealSizes", recurses := true, named := ["lantern/sha.first", "lantern/sha.rounds"], apart := false, laid := [("lantern/sha.first", laid_lantern_sha_first), ("lantern/sha.rounds", laid_lantern_sha_rounds)] }
def SealSizesSaid : Prop := sealSizesRow.holds Tryd.pinned (OpenSpec.ofChange sealSizesSpec)

/-- ITS FALSE NEIGHBOUR: 'it returns false'. Refute it at one input. -/
def sealSizesWrong : ChangeSpec := { name := "sealSizes", fn := fun _ => fun
  | [d] => { results := [.lit (.bool false)], args := [d] }
  | _ => none }
def SealSizesWrongFalsely : Prop := sealSizesRow.holds Tryd.pinned (OpenSpec.ofChange sealSizesWrong)

/- THE SECOND FORM. 'bulk': how many values and letters a reading holds, each counted each time it is reached (what is shared counts as often as it is met; a slice's spare places count too). A statement '..UptoSaid' is the law's where the arguments, and the package variables that the reading takes, are together of bulk at most 1048576: NARROWER than '..Said'. Prove '..Said' where nothing that the law and all that it calls make is longer than what came in: it says more and counts as full. Else prove '..UptoSaid'. A law counts once. -/
mutual
def uptoBulk {H : Type} : DataW H → Nat
  | .lit (.string bytes) => bytes.length + 1
  | .lit _ => 1
  | .nil => 1
  | .ptr d => uptoBulk d + 1
  | .slice elems spare => uptoBulkAll elems + uptoBulkAll spare + 1
  | .agg parts => uptoBulkAll parts + 1
  | .iface _ d => uptoBulk d + 1
  | .map entries => uptoBulkEntries entries + 1
  | .held _ => 1
def uptoBulkAll {H : Type} : List (DataW H) → Nat
  | [] => 0
  | d :: r => uptoBulk d + uptoBulkAll r
def uptoBulkEntries {H : Type} : List (Lit × DataW H) → Nat
  | [] => 0
  | x :: r => uptoBulkEntry x + uptoBulkEntries r
def uptoBulkEntry {H : Type} : Lit × DataW H → Nat
  | (.string bytes, d) => bytes.length + uptoBulk d + 1
  | (_, d) => uptoBulk d + 1
 end
def uptoSmall : (H : Type) → List (DataW H) → Bool := fun _ ds => decide (uptoBulkAll ds ≤ 1048576)
def OpenSpec.upto (s : _root_.Go.ChangeSpec) : _root_.Go.OpenSpec := { _root_.Go.OpenSpec.ofChange s with cond := some uptoSmall }

/-- 'lanternlaw02.ShaRoots', WHERE WHAT IT READS IS OF BULK AT MOST 1048576: true; the input reads as it did. -/
def shaRootsUptoRow : OpenClaim := { program := "ytggbianodoneeaadoor", sum := "7ce990226d1b43f99372bd63ea0a36083393cc8e0722e251982fa593732c45e5", func := "lantern/lanternlaw02.ShaRoots", spec := "shaRoots", recurses := true, named := ["lantern/sha.first", "lantern/sha.rounds"], apart := false, laid := [("lantern/sha.first", laid_lantern_sha_first), ("lantern/sha.rounds", laid_lantern_sha_rounds)], narrowed := true }
def ShaRootsUptoSaid : Prop := shaRootsUptoRow.holds Tryd.pinned (OpenSpec.upto shaRootsSpec)

/-- 'lanternlaw03.MacDerives', WHERE WHAT IT READS IS OF BULK AT MOST 1048576: true; the input reads as it did. -/
def macDerivesUptoRow : OpenClaim := { program := "ytggbianodoneeaadoor", sum := "7ce990226d1b43f99372bd63ea0a36083393cc8e0722e251982fa593732c45e5", func := "lantern/lanternlaw03.MacDerives", spec := "macDerives", recurses := true, named := ["lantern/sha.first", "lantern/sha.rounds"], apart := false, laid := [("lantern/sha.first", laid_lantern_sha_first), ("lantern/sha.rounds", laid_lantern_sha_rounds)], narrowed := true }
def MacDerivesUptoSaid : Prop := macDerivesUptoRow.holds Tryd.pinned (OpenSpec.upto macDerivesSpec)

/-- 'lanternlaw04.SealSeals', WHERE WHAT IT READS IS OF BULK AT MOST 1048576: true; the input reads as it did. -/
def sealSealsUptoRow : OpenClaim := { program := "ytggbianodoneeaadoor", sum := "7ce990226d1b43f99372bd63ea0a36083393cc8e0722e251982fa593732c45e5", func := "lantern/lanternlaw04.SealSeals", spec := "sealSeals", recurses := true, named := ["lantern/sha.first", "lantern/sha.rounds"], apart := false, laid := [("lantern/sha.first", laid_lantern_sha_first), ("lantern/sha.rounds", laid_lantern_sha_rounds)], narrowed := true }
def SealSealsUptoSaid : Prop := sealSealsUptoRow.holds Tryd.pinned (OpenSpec.upto sealSealsSpec)

/-- 'lanternlaw04.SealOpens', WHERE WHAT IT READS IS OF BULK AT MOST 1048576: true; the input reads as it did. -/
def sealOpensUptoRow : OpenClaim := { program := "ytggbianodoneeaadoor", sum := "7ce990226d1b43f99372bd63ea0a36083393cc8e0722e251982fa593732c45e5", func := "lantern/lanternlaw04.SealOpens", spec := "sealOpens", recurses := true, named := ["lantern/sha.first", "lantern/sha.rounds"], apart := false, laid := [("lantern/sha.first", laid_lantern_sha_first), ("lantern/sha.rounds", laid_lantern_sha_rounds)], narrowed := true }
def SealOpensUptoSaid : Prop := sealOpensUptoRow.holds Tryd.pinned (OpenSpec.upto sealOpensSpec)

/-- 'lanternlaw04.SealTurns', WHERE WHAT IT READS IS OF BULK AT MOST 1048576: true; the input reads as it did. -/
def sealTurnsUptoRow : OpenClaim := { program := "ytggbianodoneeaadoor", sum := "7ce990226d1b43f99372bd63ea0a36083393cc8e0722e251982fa593732c45e5", func := "lantern/lanternlaw04.SealTurns", spec := "sealTurns", recurses := true, named := ["lantern/sha.first", "lantern/sha.rounds"], apart := false, laid := [("lantern/sha.first", laid_lantern_sha_first), ("lantern/sha.rounds", laid_lantern_sha_rounds)], narrowed := true }
def SealTurnsUptoSaid : Prop := sealTurnsUptoRow.holds Tryd.pinned (OpenSpec.upto sealTurnsSpec)

/-- 'lanternlaw04.SealSizes', WHERE WHAT IT READS IS OF BULK AT MOST 1048576: true; the input reads as it did. -/
def sealSizesUptoRow : OpenClaim := { program := "ytggbianodoneeaadoor", sum := "7ce990226d1b43f99372bd63ea0a36083393cc8e0722e251982fa593732c45e5", func := "lantern/lanternlaw04.SealSizes", spec := "sealSizes", recurses := true, named := ["lantern/sha.first", "lantern/sha.rounds"], apart := false, laid := [("lantern/sha.first", laid_lantern_sha_first), ("lantern/sha.rounds", laid_lantern_sha_rounds)], narrowed := true }
def SealSizesUptoSaid : Prop := sealSizesUptoRow.holds Tryd.pinned (OpenSpec.upto sealSizesSpec)

end Rows
end Go.Proofs.YtggbianodoneeaaDoor
