/-
  No cell of these rows narrows 'for every input' (looked for: loops, veiled, ifaces, maps, wideKeys, modest, calm, conditions, laid).
  DERIVED. THE GIVEN ROWS OF THIS SEAT. 6 by the template 'for every input the law returns true; each argument reads behind the call as it read before'; 0 by the template 'total and deterministic' (their statements: YtoehlgigidgfpaaGreatTotals.lean).
  GIVEN WITH THE SEED: the statements are not yours to turn. If you find one false, say at which input.
  Laid BY PROGRAM, IN A SANDBOX (cutbox-rows.mjs): the forced cells as the released guide's own fill.sh prints them over the translation ebfea26a4c4aee0f… (all of the seat's roots in one cut). By AI agents, Wed Nov 11 2026. No macro, syntax, notation, axiom, sorry.
-/
import Derived.Test.YtoehlgigidgfpaaGreatChecked
import GoSem.Claim
import GoSem.ClaimJoined
import GoSem.ClaimMapViews
import Derived.JoinedTies
import Derived.KernelRfl
namespace Go.Proofs.YtoehlgigidgfpaaGreat
/- THE CELL 'sum', in the pinned program and in every row, IS THE sha256 OF THE DUMP (.gsa) THAT YtoehlgigidgfpaaGreatProg.lean LOADS. Nothing in Lean hashes anything: it is a label: what it is worth is what the hold of that sum in a sandbox is worth. -/
noncomputable def Tryz.pinned : Pinned := { name := "ytoehlgigidgfpaagreat", sum := "ebfea26a4c4aee0f4a0329b7a9eb6db2b93289ad4381c768bc4fc1dd34068e68", checked := Tryz.checked }
namespace Rows
def none {H : Type} : Left H := { results := [], args := [] }

/-- 'cressetlaw11.ChainDoes': WHATEVER THE INPUT: true; the input reads as it did. -/
def chainDoesSpec : ChangeSpec := { name := "chainDoes", fn := fun _ => fun
  | [d1, d2] => { results := [.lit (.bool true)], args := [d1, d2] }
  | _ => none }
def chainDoesRow : OpenClaim := { program := "ytoehlgigidgfpaagreat", sum := "ebfea26a4c4aee0f4a0329b7a9eb6db2b93289ad4381c768bc4fc1dd34068e68", func := "cresset/cressetlaw11.ChainDoes", spec := "chainDoes", inPlace := ["sync/atomic.AddInt64", "internal/bytealg.abigen_runtime_cmpstring", "slices.overlaps[cresset/api.Entry]", "sync/atomic.LoadInt64"], unfollowed := true, recurses := true, plainKeys := false, apart := false }
def ChainDoesSaid : Prop := chainDoesRow.holds Tryz.pinned (OpenSpec.ofChange chainDoesSpec)

/-- ITS FALSE NEIGHBOUR: 'it returns false'. Refute it at one input. -/
def chainDoesWrong : ChangeSpec := { name := "chainDoes", fn := fun _ => fun
  | [d1, d2] => { results := [.lit (.bool false)], args := [d1, d2] }
  | _ => none }
def ChainDoesWrongFalsely : Prop := chainDoesRow.holds Tryz.pinned (OpenSpec.ofChange chainDoesWrong)

/-- 'cressetlaw11.ChainGrows': WHATEVER THE INPUT: true; the input reads as it did. -/
def chainGrowsSpec : ChangeSpec := { name := "chainGrows", fn := fun _ => fun
  | [d1, d2, d3] => { results := [.lit (.bool true)], args := [d1, d2, d3] }
  | _ => none }
def chainGrowsRow : OpenClaim := { program := "ytoehlgigidgfpaagreat", sum := "ebfea26a4c4aee0f4a0329b7a9eb6db2b93289ad4381c768bc4fc1dd34068e68", func := "cresset/cressetlaw11.ChainGrows", spec := "chainGrows", inPlace := ["sync/atomic.AddInt64", "internal/bytealg.abigen_runtime_cmpstring", "slices.overlaps[cresset/api.Entry]", "sync/atomic.LoadInt64"], unfollowed := true, recurses := true, plainKeys := false, apart := false }
def ChainGrowsSaid : Prop := chainGrowsRow.holds Tryz.pinned (OpenSpec.ofChange chainGrowsSpec)

/-- ITS FALSE NEIGHBOUR: 'it returns false'. Refute it at one input. -/
def chainGrowsWrong : ChangeSpec := { name := "chainGrows", fn := fun _ => fun
  | [d1, d2, d3] => { results := [.lit (.bool false)], args := [d1, d2, d3] }
  | _ => none }
def ChainGrowsWrongFalsely : Prop := chainGrowsRow.holds Tryz.pinned (OpenSpec.ofChange chainGrowsWrong)

/-- 'cressetlaw11.ChainPacks': WHATEVER THE INPUT: true; the input reads as it did. -/
def chainPacksSpec : ChangeSpec := { name := "chainPacks", fn := fun _ => fun
  | [d1, d2] => { results := [.lit (.bool true)], args := [d1, d2] }
  | _ => none }
def chainPacksRow : OpenClaim := { program := "ytoehlgigidgfpaagreat", sum := "ebfea26a4c4aee0f4a0329b7a9eb6db2b93289ad4381c768bc4fc1dd34068e68", func := "cresset/cressetlaw11.ChainPacks", spec := "chainPacks", inPlace := ["sync/atomic.AddInt64", "internal/bytealg.abigen_runtime_cmpstring", "slices.overlaps[cresset/api.Entry]"], unfollowed := true, recurses := true, plainKeys := false, apart := false }
def ChainPacksSaid : Prop := chainPacksRow.holds Tryz.pinned (OpenSpec.ofChange chainPacksSpec)

/-- ITS FALSE NEIGHBOUR: 'it returns false'. Refute it at one input. -/
def chainPacksWrong : ChangeSpec := { name := "chainPacks", fn := fun _ => fun
  | [d1, d2] => { results := [.lit (.bool false)], args := [d1, d2] }
  | _ => none }
def ChainPacksWrongFalsely : Prop := chainPacksRow.holds Tryz.pinned (OpenSpec.ofChange chainPacksWrong)

/-- 'cressetlaw11.ChainAlone': WHATEVER THE INPUT: true; the input reads as it did. -/
def chainAloneSpec : ChangeSpec := { name := "chainAlone", fn := fun _ => fun
  | [d1, d2, d3] => { results := [.lit (.bool true)], args := [d1, d2, d3] }
  | _ => none }
def chainAloneRow : OpenClaim := { program := "ytoehlgigidgfpaagreat", sum := "ebfea26a4c4aee0f4a0329b7a9eb6db2b93289ad4381c768bc4fc1dd34068e68", func := "cresset/cressetlaw11.ChainAlone", spec := "chainAlone", inPlace := ["sync/atomic.AddInt64", "internal/bytealg.abigen_runtime_cmpstring", "slices.overlaps[cresset/api.Entry]"], unfollowed := true, recurses := true, plainKeys := false, apart := false }
def ChainAloneSaid : Prop := chainAloneRow.holds Tryz.pinned (OpenSpec.ofChange chainAloneSpec)

/-- ITS FALSE NEIGHBOUR: 'it returns false'. Refute it at one input. -/
def chainAloneWrong : ChangeSpec := { name := "chainAlone", fn := fun _ => fun
  | [d1, d2, d3] => { results := [.lit (.bool false)], args := [d1, d2, d3] }
  | _ => none }
def ChainAloneWrongFalsely : Prop := chainAloneRow.holds Tryz.pinned (OpenSpec.ofChange chainAloneWrong)

/-- 'cressetlaw11.ChainOwn': WHATEVER THE INPUT: true; the input reads as it did. -/
def chainOwnSpec : ChangeSpec := { name := "chainOwn", fn := fun _ => fun
  | [d1, d2] => { results := [.lit (.bool true)], args := [d1, d2] }
  | _ => none }
def chainOwnRow : OpenClaim := { program := "ytoehlgigidgfpaagreat", sum := "ebfea26a4c4aee0f4a0329b7a9eb6db2b93289ad4381c768bc4fc1dd34068e68", func := "cresset/cressetlaw11.ChainOwn", spec := "chainOwn", inPlace := ["sync/atomic.AddInt64", "internal/bytealg.abigen_runtime_cmpstring", "slices.overlaps[cresset/api.Entry]"], unfollowed := true, recurses := true, plainKeys := false, apart := false }
def ChainOwnSaid : Prop := chainOwnRow.holds Tryz.pinned (OpenSpec.ofChange chainOwnSpec)

/-- ITS FALSE NEIGHBOUR: 'it returns false'. Refute it at one input. -/
def chainOwnWrong : ChangeSpec := { name := "chainOwn", fn := fun _ => fun
  | [d1, d2] => { results := [.lit (.bool false)], args := [d1, d2] }
  | _ => none }
def ChainOwnWrongFalsely : Prop := chainOwnRow.holds Tryz.pinned (OpenSpec.ofChange chainOwnWrong)

/-- 'cressetlaw11.ChainNone': WHATEVER THE INPUT: true; the input reads as it did. -/
def chainNoneSpec : ChangeSpec := { name := "chainNone", fn := fun _ => fun
  | [d1, d2, d3] => { results := [.lit (.bool true)], args := [d1, d2, d3] }
  | _ => none }
def chainNoneRow : OpenClaim := { program := "ytoehlgigidgfpaagreat", sum := "ebfea26a4c4aee0f4a0329b7a9eb6db2b93289ad4381c768bc4fc1dd34068e68", func := "cresset/cressetlaw11.ChainNone", spec := "chainNone", inPlace := ["sync/atomic.AddInt64", "internal/bytealg.abigen_runtime_cmpstring", "slices.overlaps[cresset/api.Entry]"], unfollowed := true, recurses := true, plainKeys := false, apart := false }
def ChainNoneSaid : Prop := chainNoneRow.holds Tryz.pinned (OpenSpec.ofChange chainNoneSpec)

/-- ITS FALSE NEIGHBOUR: 'it returns false'. Refute it at one input. -/
def chainNoneWrong : ChangeSpec := { name := "chainNone", fn := fun _ => fun
  | [d1, d2, d3] => { results := [.lit (.bool false)], args := [d1, d2, d3] }
  | _ => none }
def ChainNoneWrongFalsely : Prop := chainNoneRow.holds Tryz.pinned (OpenSpec.ofChange chainNoneWrong)

/- THE SECOND FORM. 'bulk': how many values and letters a reading holds, each counted each time it is reached (what is shared counts as often as it is met; a slice's spare places count too). A statement '..UptoSaid' is the law's where the arguments, and the package variables that the reading takes, are together of bulk at most 1048576: NARROWER than '..Said'. Prove '..Said' where nothing that the law and all that it calls make is longer than what came in: it says more and counts as full. Else prove '..UptoSaid'. A law counts once. -/
mutual
def uptoBulk {H : Type} : DataW H → Nat
  | .lit (.string bytes) => bytes.length + 1
  | .lit _ => 1
  | .nil => 1
  | .ptr d => uptoBulk d + 1
  | .slice elems spare => uptoBulkAll elems + uptoBulkAll spare + 1
  | .agg parts => uptoBulkAll parts + 1
  | .iface _ d => uptoBulk d + 1
  | .map entries => uptoBulkEntries entries + 1
  | .held _ => 1
def uptoBulkAll {H : Type} : List (DataW H) → Nat
  | [] => 0
  | d :: r => uptoBulk d + uptoBulkAll r
def uptoBulkEntries {H : Type} : List (Lit × DataW H) → Nat
  | [] => 0
  | x :: r => uptoBulkEntry x + uptoBulkEntries r
def uptoBulkEntry {H : Type} : Lit × DataW H → Nat
  | (.string bytes, d) => bytes.length + uptoBulk d + 1
  | (_, d) => uptoBulk d + 1
 end
def uptoSmall : (H : Type) → List (DataW H) → Bool := fun _ ds => decide (uptoBulkAll ds ≤ 1048576)
def OpenSpec.upto (s : _root_.Go.ChangeSpec) : _root_.Go.OpenSpec := { _root_.Go.OpenSpec.ofChange s with cond := some uptoSmall }

/-- 'cressetlaw11.ChainDoes', WHERE WHAT IT READS IS OF BULK AT MOST 1048576: true; the input reads as it did. -/
def chainDoesUptoRow : OpenClaim := { program := "ytoehlgigidgfpaagreat", sum := "ebfea26a4c4aee0f4a0329b7a9eb6db2b93289ad4381c768bc4fc1dd34068e68", func := "cresset/cressetlaw11.ChainDoes", spec := "chainDoes", inPlace := ["sync/atomic.AddInt64", "internal/bytealg.abigen_runtime_cmpstring", "slices.overlaps[cresset/api.Entry]", "sync/atomic.LoadInt64"], unfollowed := true, recurses := true, plainKeys := false, apart := false, narrowed := true }
def ChainDoesUptoSaid : Prop := chainDoesUptoRow.holds Tryz.pinned (OpenSpec.upto chainDoesSpec)

/-- 'cressetlaw11.ChainGrows', WHERE WHAT IT READS IS OF BULK AT MOST 1048576: true; the input reads as it did. -/
def chainGrowsUptoRow : OpenClaim := { program := "ytoehlgigidgfpaagreat", sum := "ebfea26a4c4aee0f4a0329b7a9eb6db2b93289ad4381c768bc4fc1dd34068e68", func := "cresset/cressetlaw11.ChainGrows", spec := "chainGrows", inPlace := ["sync/atomic.AddInt64", "internal/bytealg.abigen_runtime_cmpstring", "slices.overlaps[cresset/api.Entry]", "sync/atomic.LoadInt64"], unfollowed := true, recurses := true, plainKeys := false, apart := false, narrowed := true }
def ChainGrowsUptoSaid : Prop := chainGrowsUptoRow.holds Tryz.pinned (OpenSpec.upto chainGrowsSpec)

/-- 'cressetlaw11.ChainPacks', WHERE WHAT IT READS IS OF BULK AT MOST 1048576: true; the input reads as it did. -/
def chainPacksUptoRow : OpenClaim := { program := "ytoehlgigidgfpaagreat", sum := "ebfea26a4c4aee0f4a0329b7a9eb6db2b93289ad4381c768bc4fc1dd34068e68", func := "cresset/cressetlaw11.ChainPacks", spec := "chainPacks", inPlace := ["sync/atomic.AddInt64", "internal/bytealg.abigen_runtime_cmpstring", "slices.overlaps[cresset/api.Entry]"], unfollowed := true, recurses := true, plainKeys := false, apart := false, narrowed := true }
def ChainPacksUptoSaid : Prop := chainPacksUptoRow.holds Tryz.pinned (OpenSpec.upto chainPacksSpec)

/-- 'cressetlaw11.ChainAlone', WHERE WHAT IT READS IS OF BULK AT MOST 1048576: true; the input reads as it did. -/
def chainAloneUptoRow : OpenClaim := { program := "ytoehlgigidgfpaagreat", sum := "ebfea26a4c4aee0f4a0329b7a9eb6db2b93289ad4381c768bc4fc1dd34068e68", func := "cresset/cressetlaw11.ChainAlone", spec := "chainAlone", inPlace := ["sync/atomic.AddInt64", "internal/bytealg.abigen_runtime_cmpstring", "slices.overlaps[cresset/api.Entry]"], unfollowed := true, recurses := true, plainKeys := false, apart := false, narrowed := true }
def ChainAloneUptoSaid : Prop := chainAloneUptoRow.holds Tryz.pinned (OpenSpec.upto chainAloneSpec)

/-- 'cressetlaw11.ChainOwn', WHERE WHAT IT READS IS OF BULK AT MOST 1048576: true; the input reads as it did. -/
def chainOwnUptoRow : OpenClaim := { program := "ytoehlgigidgfpaagreat", sum := "ebfea26a4c4aee0f4a0329b7a9eb6db2b93289ad4381c768bc4fc1dd34068e68", func := "cresset/cressetlaw11.ChainOwn", spec := "chainOwn", inPlace := ["sync/atomic.AddInt64", "internal/bytealg.abigen_runtime_cmpstring", "slices.overlaps[cresset/api.Entry]"], unfollowed := true, recurses := true, plainKeys := false, apart := false, narrowed := true }
def ChainOwnUptoSaid : Prop := chainOwnUptoRow.holds Tryz.pinned (OpenSpec.upto chainOwnSpec)

/-- 'cressetlaw11.ChainNone', WHERE WHAT IT READS IS OF BULK AT MOST 1048576: true; the input reads as it did. -/
def chainNoneUptoRow : OpenClaim := { program := "ytoehlgigidgfpaagreat", sum := "ebfea26a4c4aee0f4a0329b7a9eb6db2b93289ad4381c768bc4fc1dd34068e68", func := "cresset/cressetlaw11.ChainNone", spec := "chainNone", inPlace := ["sync/atomic.AddInt64", "internal/bytealg.abigen_runtime_cmpstring", "slices.overlaps[cresset/api.Entry]"], unfollowed := true, recurses := true, plainKeys := false, apart := false, narrowed := true }
def ChainNoneUptoSaid : Prop := chainNoneUptoRow.holds Tryz.pinned (OpenSpec.upto chainNoneSpec)

end Rows
end Go.Proofs.YtoehlgigidgfpaaGreat
