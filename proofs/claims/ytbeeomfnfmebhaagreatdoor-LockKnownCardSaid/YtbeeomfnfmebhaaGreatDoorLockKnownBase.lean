/- What the closed run of LockKnown() begins with: its program, the rows of the listed tables, the calls below. -/
import Derived.Test.YtbeeomfnfmebhaaGreatDoorEvWT
import Derived.Test.YtbeeomfnfmebhaaGreatDoorRows
import Derived.Test.YtbeeomfnfmebhaaGreatDoorChecked
import Derived.KernelRfl
namespace Go.Proofs.YtbeeomfnfmebhaaGreatDoor.lockKnown
open Go.Ev Go.RowKit

noncomputable def nP (n : Nat) : Pos := Pos.ofNat n
def tE {α : Type} : Tree α := .leaf
def tL {α : Type} (x : α) : Tree α := .node .leaf (some x) .leaf
def tN {α : Type} (l r : Tree α) : Tree α := .node l none r
def tV {α : Type} (l : Tree α) (x : α) (r : Tree α) : Tree α := .node l (some x) r
def iI (n : Nat) : SV := .int .i64 (.ofNat n)
def iU (n : Nat) : SV := .int .u64 (.ofNat n)
def iB (n : Nat) : SV := .int .u8 (.ofNat n)
noncomputable def adF (l : List (Nat × List SV)) (t : Tree SObj) : Tree SObj := List.rec t (fun x _ ih => Tree.put (some (.fix x.2)) (Pos.ofNat x.1) ih) l
noncomputable def fixes : List (Nat × List SV) := [(6, intCells .u8 [0, 1, 28, 2, 29, 14, 24, 3, 30, 22, 20, 15, 25, 17, 4, 8, 31, 27, 13, 23, 21, 19, 16, 7, 26, 12, 18, 6, 11, 5, 10, 9]), (7, intCells .u8 [0, 1, 56, 2, 57, 49, 28, 3, 61, 58, 42, 50, 38, 29, 17, 4, 62, 47, 59, 36, 45, 43, 51, 22, 53, 39, 33, 30, 24, 18, 12, 5, 63, 55, 48, 27, 60, 41, 37, 16, 46, 35, 44, 21, 52, 32, 23, 11, 54, 26, 40, 15, 34, 20, 31, 10, 25, 14, 19, 9, 13, 8, 7, 6]), (5, intCells .u64 [1, 10, 100, 1000, 10000, 100000, 1000000, 10000000, 100000000, 1000000000, 10000000000, 100000000000, 1000000000000, 10000000000000, 100000000000000, 1000000000000000, 10000000000000000, 100000000000000000, 1000000000000000000, 10000000000000000000])]
noncomputable def Dn : Known := levelST noneKnown Tryz.prog 15 15
theorem mixed : Tryz.prog.follows .mixedOrders = true := by kernel_rfl
theorem sound0 : ∀ B, Sound Tryz.prog B noneKnown := fun B => sound_none Tryz.prog B
theorem soundDn : ∀ B, Sound Tryz.prog B Dn := fun B => levelS_soundT sound0 mixed 15 15 B
theorem enterF : (enterS Tryz.prog 3 []).isSome = true := by kernel_rfl
end Go.Proofs.YtbeeomfnfmebhaaGreatDoor.lockKnown
