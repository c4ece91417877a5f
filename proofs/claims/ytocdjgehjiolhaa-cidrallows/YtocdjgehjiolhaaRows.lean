/-
  No cell of these rows narrows 'for every input' (looked for: loops, veiled, ifaces, maps, wideKeys, modest, calm, conditions, laid).
  DERIVED. THE GIVEN ROWS OF THIS SEAT. 3 by the template 'for every input the law returns true; each argument reads behind the call as it read before'; 0 by the template 'total and deterministic' (their statements: YtocdjgehjiolhaaTotals.lean).
  GIVEN WITH THE SEED: the statements are not yours to turn. If you find one false, say at which input.
  Laid BY PROGRAM, IN A SANDBOX (cutbox-rows.mjs): the forced cells as the released guide's own fill.sh prints them over the translation e0622a5a1daa1e3e… (all of the seat's roots in one cut). By AI agents, Wed Nov 11 2026. No macro, syntax, notation, axiom, sorry.
-/
import Derived.Test.YtocdjgehjiolhaaChecked
import GoSem.Claim
import GoSem.ClaimJoined
import GoSem.ClaimMapViews
import Derived.JoinedTies
import Derived.KernelRfl
namespace Go.Proofs.Ytocdjgehjiolhaa
/- THE CELL 'sum', in the pinned program and in every row, IS THE sha256 OF THE DUMP (.gsa) THAT YtocdjgehjiolhaaProg.lean LOADS. Nothing in Lean hashes anything: it is a label: what it is worth is what the hold of that sum in a sandbox is worth. -/
noncomputable def Try.pinned : Pinned := { name := "ytocdjgehjiolhaa", sum := "e0622a5a1daa1e3e8654ff8e9015852fe13944bd0f9cb63c7afcc51167090f19", checked := Try.checked }
namespace Rows
def none {H : Type} : Left H := { results := [], args := [] }

/-- 'lanternlaw06.CidrHas': WHATEVER THE INPUT: true; the input reads as it did. -/
def cidrHasSpec : ChangeSpec := { name := "cidrHas", fn := fun _ => fun
  | [d1, d2, d3] => { results := [.lit (.bool true)], args := [d1, d2, d3] }
  | _ => none }
def cidrHasRow : OpenClaim := { program := "ytocdjgehjiolhaa", sum := "e0622a5a1daa1e3e8654ff8e9015852fe13944bd0f9cb63c7afcc51167090f19", func := "lantern/lanternlaw06.CidrHas", spec := "cidrHas", unfollowed := true, recurses := true, apart := false }
def CidrHasSaid : Prop := cidrHasRow.holds Try.pinned (OpenSpec.ofChange cidrHasSpec)

/-- ITS FALSE NEIGHBOUR: 'it returns false'. Refute it at one input. -/
def cidrHasWrong : ChangeSpec := { name := "cidrHas", fn := fun _ => fun
  | [d1, d2, d3] => { results := [.lit (.bool false)], args := [d1, d2, d3] }
  | _ => none }
def CidrHasWrongFalsely : Prop := cidrHasRow.holds Try.pinned (OpenSpec.ofChange cidrHasWrong)

/-- 'lanternlaw06.CidrAllows': WHATEVER THE INPUT: true; the input reads as it did. -/
def cidrAllowsSpec : ChangeSpec := { name := "cidrAllows", fn := fun _ => fun
  | [d1, d2] => { results := [.lit (.bool true)], args := [d1, d2] }
  | _ => none }
def cidrAllowsRow : OpenClaim := { program := "ytocdjgehjiolhaa", sum := "e0622a5a1daa1e3e8654ff8e9015852fe13944bd0f9cb63c7afcc51167090f19", func := "lantern/lanternlaw06.CidrAllows", spec := "cidrAllows", unfollowed := true, recurses := true, apart := false }
def CidrAllowsSaid : Prop := cidrAllowsRow.holds Try.pinned (OpenSpec.ofChange cidrAllowsSpec)

/-- ITS FALSE NEIGHBOUR: 'it returns false'. Refute it at one input. -/
def cidrAllowsWrong : ChangeSpec := { name := "cidrAllows", fn := fun _ => fun
  | [d1, d2] => { results := [.lit (.bool false)], args := [d1, d2] }
  | _ => none }
def CidrAllowsWrongFalsely : Prop := cidrAllowsRow.holds Try.pinned (OpenSpec.ofChange cidrAllowsWrong)

/-- 'lanternlaw06.CidrSafe': WHATEVER THE INPUT: true; the input reads as it did. -/
def cidrSafeSpec : ChangeSpec := { name := "cidrSafe", fn := fun _ => fun
  | [d] => { results := [.lit (.bool true)], args := [d] }
  | _ => none }
def cidrSafeRow : OpenClaim := { program := "ytocdjgehjiolhaa", sum := "e0622a5a1daa1e3e8654ff8e9015852fe13944bd0f9cb63c7afcc51167090f19", func := "lantern/lanternlaw06.CidrSafe", spec := "cidrSafe", unfollowed := true, recurses := true, apart := false }
def CidrSafeSaid : Prop := cidrSafeRow.holds Try.pinned (OpenSpec.ofChange cidrSafeSpec)

/-- ITS FALSE NEIGHBOUR: 'it returns false'. Refute it at one input. -/
def cidrSafeWrong : ChangeSpec := { name := "cidrSafe", fn := fun _ => fun
  | [d] => { results := [.lit (.bool false)], args := [d] }
  | _ => none }
def CidrSafeWrongFalsely : Prop := cidrSafeRow.holds Try.pinned (OpenSpec.ofChange cidrSafeWrong)

/- THE SECOND FORM. 'bulk': how many values and letters a reading holds, each counted each time it is reached (what is shared counts as often as it is met; a slice's spare places count too). A statement '..UptoSaid' is the law's where the arguments, and the package variables that the reading takes, are together of bulk at most 1048576: NARROWER than '..Said'. Prove '..Said' where nothing that the law and all that it calls make is longer than what came in: it says more and counts as full. Else prove '..UptoSaid'. A law counts once. -/
mutual
def uptoBulk {H : Type} : DataW H → Nat
  | .lit (.string bytes) => bytes.length + 1
  | .lit _ => 1
  | .nil => 1
  | .ptr d => uptoBulk d + 1
  | .slice elems spare => uptoBulkAll elems + uptoBulkAll spare + 1
  | .agg parts => uptoBulkAll parts + 1
  | .iface _ d => uptoBulk d + 1
  | .map entries => uptoBulkEntries entries + 1
  | .held _ => 1
def uptoBulkAll {H : Type} : List (DataW H) → Nat
  | [] => 0
  | d :: r => uptoBulk d + uptoBulkAll r
def uptoBulkEntries {H : Type} : List (Lit × DataW H) → Nat
  | [] => 0
  | x :: r => uptoBulkEntry x + uptoBulkEntries r
def uptoBulkEntry {H : Type} : Lit × DataW H → Nat
  | (.string bytes, d) => bytes.length + uptoBulk d + 1
  | (_, d) => uptoBulk d + 1
 end
def uptoSmall : (H : Type) → List (DataW H) → Bool := fun _ ds => decide (uptoBulkAll ds ≤ 1048576)
def OpenSpec.upto (s : _root_.Go.ChangeSpec) : _root_.Go.OpenSpec := { _root_.Go.OpenSpec.ofChange s with cond := some uptoSmall }

/-- 'lanternlaw06.CidrHas', WHERE WHAT IT READS IS OF BULK AT MOST 1048576: true; the input reads as it did. -/
def cidrHasUptoRow : OpenClaim := { program := "ytocdjgehjiolhaa", sum := "e0622a5a1daa1e3e8654ff8e9015852fe13944bd0f9cb63c7afcc51167090f19", func := "lantern/lanternlaw06.CidrHas", spec := "cidrHas", unfollowed := true, recurses := true, apart := false, narrowed := true }
def CidrHasUptoSaid : Prop := cidrHasUptoRow.holds Try.pinned (OpenSpec.upto cidrHasSpec)

/-- 'lanternlaw06.CidrAllows', WHERE WHAT IT READS IS OF BULK AT MOST 1048576: true; the input reads as it did. -/
def cidrAllowsUptoRow : OpenClaim := { program := "ytocdjgehjiolhaa", sum := "e0622a5a1daa1e3e8654ff8e9015852fe13944bd0f9cb63c7afcc51167090f19", func := "lantern/lanternlaw06.CidrAllows", spec := "cidrAllows", unfollowed := true, recurses := true, apart := false, narrowed := true }
def CidrAllowsUptoSaid : Prop := cidrAllowsUptoRow.holds Try.pinned (OpenSpec.upto cidrAllowsSpec)

/-- 'lanternlaw06.CidrSafe', WHERE WHAT IT READS IS OF BULK AT MOST 1048576: true; the input reads as it did. -/
def cidrSafeUptoRow : OpenClaim := { program := "ytocdjgehjiolhaa", sum := "e0622a5a1daa1e3e8654ff8e9015852fe13944bd0f9cb63c7afcc51167090f19", func := "lantern/lanternlaw06.CidrSafe", spec := "cidrSafe", unfollowed := true, recurses := true, apart := false, narrowed := true }
def CidrSafeUptoSaid : Prop := cidrSafeUptoRow.holds Try.pinned (OpenSpec.upto cidrSafeSpec)

end Rows
end Go.Proofs.Ytocdjgehjiolhaa
