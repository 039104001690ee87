/-
  No cell of these rows narrows 'for every input' (looked for: loops, veiled, ifaces, maps, wideKeys, modest, calm, conditions, laid).
  DERIVED. THE GIVEN ROWS OF THIS SEAT. 4 by the template 'for every input the law returns true; each argument reads behind the call as it read before'; 0 by the template 'total and deterministic' (their statements: YtjiggiglagmloaaGreatTotals.lean).
  GIVEN WITH THE SEED: the statements are not yours to turn. If you find one false, say at which input.
  Laid BY PROGRAM, IN A SANDBOX (cutbox-rows.mjs): the forced cells as the released guide's own fill.sh prints them over the translation 97a492c01e647f9a… (all of the seat's roots in one cut). By AI agents, Wed Nov 11 2026. No macro, syntax, notation, axiom, sorry.
-/
import Derived.Test.YtjiggiglagmloaaGreatChecked
import GoSem.Claim
import GoSem.ClaimJoined
import GoSem.ClaimMapViews
import Derived.JoinedTies
import Derived.KernelRfl
namespace Go.Proofs.YtjiggiglagmloaaGreat
/- THE CELL 'sum', in the pinned program and in every row, IS THE sha256 OF THE DUMP (.gsa) THAT YtjiggiglagmloaaGreatProg.lean LOADS. Nothing in Lean hashes anything: it is a label: what it is worth is what the hold of that sum in a sandbox is worth. -/
noncomputable def Tryz.pinned : Pinned := { name := "ytjiggiglagmloaagreat", sum := "97a492c01e647f9a12789b807e43913a6508e61a587d438bde4b93f570bc6bf4", checked := Tryz.checked }
namespace Rows
def none {H : Type} : Left H := { results := [], args := [] }

/-- 'laws.FnFresh': WHATEVER THE INPUT: true; the input reads as it did. -/
def fnFreshSpec : ChangeSpec := { name := "fnFresh", fn := fun _ => fun
  | [d] => { results := [.lit (.bool true)], args := [d] }
  | _ => none }
def fnFreshRow : OpenClaim := { program := "ytjiggiglagmloaagreat", sum := "97a492c01e647f9a12789b807e43913a6508e61a587d438bde4b93f570bc6bf4", func := "loop.example/g01292/laws.FnFresh", spec := "fnFresh", unfollowed := true, recurses := true, apart := false }
def FnFreshSaid : Prop := fnFreshRow.holds Tryz.pinned (OpenSpec.ofChange fnFreshSpec)

/-- ITS FALSE NEIGHBOUR: 'it returns false'. Refute it at one input. -/
def fnFreshWrong : ChangeSpec := { name := "fnFresh", fn := fun _ => fun
  | [d] => { results := [.lit (.bool false)], args := [d] }
  | _ => none }
def FnFreshWrongFalsely : Prop := fnFreshRow.holds Tryz.pinned (OpenSpec.ofChange fnFreshWrong)

/-- 'laws.FnExactCanon': WHATEVER THE INPUT: true; the input reads as it did. -/
def fnExactCanonSpec : ChangeSpec := { name := "fnExactCanon", fn := fun _ => fun
  | [d] => { results := [.lit (.bool true)], args := [d] }
  | _ => none }
def fnExactCanonRow : OpenClaim := { program := "ytjiggiglagmloaagreat", sum := "97a492c01e647f9a12789b807e43913a6508e61a587d438bde4b93f570bc6bf4", func := "loop.example/g01292/laws.FnExactCanon", spec := "fnExactCanon", unfollowed := true, recurses := true, apart := false }
def FnExactCanonSaid : Prop := fnExactCanonRow.holds Tryz.pinned (OpenSpec.ofChange fnExactCanonSpec)

/-- ITS FALSE NEIGHBOUR: 'it returns false'. Refute it at one input. -/
def fnExactCanonWrong : ChangeSpec := { name := "fnExactCanon", fn := fun _ => fun
  | [d] => { results := [.lit (.bool false)], args := [d] }
  | _ => none }
def FnExactCanonWrongFalsely : Prop := fnExactCanonRow.holds Tryz.pinned (OpenSpec.ofChange fnExactCanonWrong)

/-- 'laws.FnExactAlphaSame': WHATEVER THE INPUT: true; the input reads as it did. -/
def fnExactAlphaSameSpec : ChangeSpec := { name := "fnExactAlphaSame", fn := fun _ => fun
  | [d1, d2] => { results := [.lit (.bool true)], args := [d1, d2] }
  | _ => none }
def fnExactAlphaSameRow : OpenClaim := { program := "ytjiggiglagmloaagreat", sum := "97a492c01e647f9a12789b807e43913a6508e61a587d438bde4b93f570bc6bf4", func := "loop.example/g01292/laws.FnExactAlphaSame", spec := "fnExactAlphaSame", unfollowed := true, recurses := true, apart := false }
def FnExactAlphaSameSaid : Prop := fnExactAlphaSameRow.holds Tryz.pinned (OpenSpec.ofChange fnExactAlphaSameSpec)

/-- ITS FALSE NEIGHBOUR: 'it returns false'. Refute it at one input. -/
def fnExactAlphaSameWrong : ChangeSpec := { name := "fnExactAlphaSame", fn := fun _ => fun
  | [d1, d2] => { results := [.lit (.bool false)], args := [d1, d2] }
  | _ => none }
def FnExactAlphaSameWrongFalsely : Prop := fnExactAlphaSameRow.holds Tryz.pinned (OpenSpec.ofChange fnExactAlphaSameWrong)

/-- 'laws.FnExactRenameOne': WHATEVER THE INPUT: true; the input reads as it did. -/
def fnExactRenameOneSpec : ChangeSpec := { name := "fnExactRenameOne", fn := fun _ => fun
  | [d1, d2, d3] => { results := [.lit (.bool true)], args := [d1, d2, d3] }
  | _ => none }
def fnExactRenameOneRow : OpenClaim := { program := "ytjiggiglagmloaagreat", sum := "97a492c01e647f9a12789b807e43913a6508e61a587d438bde4b93f570bc6bf4", func := "loop.example/g01292/laws.FnExactRenameOne", spec := "fnExactRenameOne", unfollowed := true, recurses := true, apart := false }
def FnExactRenameOneSaid : Prop := fnExactRenameOneRow.holds Tryz.pinned (OpenSpec.ofChange fnExactRenameOneSpec)

/-- ITS FALSE NEIGHBOUR: 'it returns false'. Refute it at one input. -/
def fnExactRenameOneWrong : ChangeSpec := { name := "fnExactRenameOne", fn := fun _ => fun
  | [d1, d2, d3] => { results := [.lit (.bool false)], args := [d1, d2, d3] }
  | _ => none }
def FnExactRenameOneWrongFalsely : Prop := fnExactRenameOneRow.holds Tryz.pinned (OpenSpec.ofChange fnExactRenameOneWrong)

/- THE SECOND FORM. 'bulk': how many values and letters a reading holds, each counted each time it is reached (what is shared counts as often as it is met; a slice's spare places count too). A statement '..UptoSaid' is the law's where the arguments, and the package variables that the reading takes, are together of bulk at most 1048576: NARROWER than '..Said'. Prove '..Said' where nothing that the law and all that it calls make is longer than what came in: it says more and counts as full. Else prove '..UptoSaid'. A law counts once. -/
mutual
def uptoBulk {H : Type} : DataW H → Nat
  | .lit (.string bytes) => bytes.length + 1
  | .lit _ => 1
  | .nil => 1
  | .ptr d => uptoBulk d + 1
  | .slice elems spare => uptoBulkAll elems + uptoBulkAll spare + 1
  | .agg parts => uptoBulkAll parts + 1
  | .iface _ d => uptoBulk d + 1
  | .map entries => uptoBulkEntries entries + 1
  | .held _ => 1
def uptoBulkAll {H : Type} : List (DataW H) → Nat
  | [] => 0
  | d :: r => uptoBulk d + uptoBulkAll r
def uptoBulkEntries {H : Type} : List (Lit × DataW H) → Nat
  | [] => 0
  | x :: r => uptoBulkEntry x + uptoBulkEntries r
def uptoBulkEntry {H : Type} : Lit × DataW H → Nat
  | (.string bytes, d) => bytes.length + uptoBulk d + 1
  | (_, d) => uptoBulk d + 1
 end
def uptoSmall : (H : Type) → List (DataW H) → Bool := fun _ ds => decide (uptoBulkAll ds ≤ 1048576)
def OpenSpec.upto (s : _root_.Go.ChangeSpec) : _root_.Go.OpenSpec := { _root_.Go.OpenSpec.ofChange s with cond := some uptoSmall }

/-- 'laws.FnFresh', WHERE WHAT IT READS IS OF BULK AT MOST 1048576: true; the input reads as it did. -/
def fnFreshUptoRow : OpenClaim := { program := "ytjiggiglagmloaagreat", sum := "97a492c01e647f9a12789b807e43913a6508e61a587d438bde4b93f570bc6bf4", func := "loop.example/g01292/laws.FnFresh", spec := "fnFresh", unfollowed := true, recurses := true, apart := false, narrowed := true }
def FnFreshUptoSaid : Prop := fnFreshUptoRow.holds Tryz.pinned (OpenSpec.upto fnFreshSpec)

/-- 'laws.FnExactCanon', WHERE WHAT IT READS IS OF BULK AT MOST 1048576: true; the input reads as it did. -/
def fnExactCanonUptoRow : OpenClaim := { program := "ytjiggiglagmloaagreat", sum := "97a492c01e647f9a12789b807e43913a6508e61a587d438bde4b93f570bc6bf4", func := "loop.example/g01292/laws.FnExactCanon", spec := "fnExactCanon", unfollowed := true, recurses := true, apart := false, narrowed := true }
def FnExactCanonUptoSaid : Prop := fnExactCanonUptoRow.holds Tryz.pinned (OpenSpec.upto fnExactCanonSpec)

/-- 'laws.FnExactAlphaSame', WHERE WHAT IT READS IS OF BULK AT MOST 1048576: true; the input reads as it did. -/
def fnExactAlphaSameUptoRow : OpenClaim := { program := "ytjiggiglagmloaagreat", sum := "97a492c01e647f9a12789b807e43913a6508e61a587d438bde4b93f570bc6bf4", func := "loop.example/g01292/laws.FnExactAlphaSame", spec := "fnExactAlphaSame", unfollowed := true, recurses := true, apart := false, narrowed := true }
def FnExactAlphaSameUptoSaid : Prop := fnExactAlphaSameUptoRow.holds Tryz.pinned (OpenSpec.upto fnExactAlphaSameSpec)

/-- 'laws.FnExactRenameOne', WHERE WHAT IT READS IS OF BULK AT MOST 1048576: true; the input reads as it did. -/
def fnExactRenameOneUptoRow : OpenClaim := { program := "ytjiggiglagmloaagreat", sum := "97a492c01e647f9a12789b807e43913a6508e61a587d438bde4b93f570bc6bf4", func := "loop.example/g01292/laws.FnExactRenameOne", spec := "fnExactRenameOne", unfollowed := true, recurses := true, apart := false, narrowed := true }
def FnExactRenameOneUptoSaid : Prop := fnExactRenameOneUptoRow.holds Tryz.pinned (OpenSpec.upto fnExactRenameOneSpec)

end Rows
end Go.Proofs.YtjiggiglagmloaaGreat
