/-
  What the laws of this claim lean on: what functions of the program and of the model answer, one after another, and plain mathematics. No condition.
-/
import Derived.Test.YtfiaiephbemdoaaMgD
import Derived.Test.YtfiaiephbemdoaaProg
import Derived.KernelRfl

set_option maxHeartbeats 800000
set_option linter.unusedVariables false
set_option linter.unusedSimpArgs false
set_option linter.unnecessarySimpa false
set_option maxRecDepth 100000

namespace Go.Proofs.Ytfiaiephbemdoaa

def Tryp.keep : List Nat := [3, 4, 5, 6, 7, 8, 9, 10, 11, 12, 13, 14, 15, 16, 17, 18, 19, 20, 21, 22, 23, 24, 25, 26, 27, 28, 29, 30, 31, 32, 33, 35, 36, 37, 38, 39, 40, 41, 42, 43, 44, 45, 46, 47, 48, 49, 50, 51, 52, 53, 55, 56, 57, 58, 59, 60, 61, 62, 63, 64, 65, 66, 67, 68, 69, 70, 71, 76, 77, 78, 79, 80, 81, 100]
def Tryp.noType : TypeId := 1000000000000
def cutP (P : Program) : Program := cutProg P Tryp.noType (P.funcs.mapIdx fun i f => if Tryp.keep.contains i then f else struckFn)

theorem Tryp.noInfo : Try.prog.info? Tryp.noType = none := by kernel_rfl

@[simp] theorem Tryp.call10 : ∀ (args : Array Go.Value) (w : Go.World), Go.Sem.run (cutP Go.Proofs.Try.prog) (Go.callFunc 10 args) w = Go.Result.ok (Go.Next.enter 10 args) w := by intros; kernel_rfl
@[simp] theorem Tryp.call100 : ∀ (args : Array Go.Value) (w : Go.World), Go.Sem.run (cutP Go.Proofs.Try.prog) (Go.callFunc 100 args) w = Go.Result.ok (Go.Next.enter 100 args) w := by intros; kernel_rfl
@[simp] theorem Tryp.call11 : ∀ (args : Array Go.Value) (w : Go.World), Go.Sem.run (cutP Go.Proofs.Try.prog) (Go.callFunc 11 args) w = Go.Result.ok (Go.Next.enter 11 args) w := by intros; kernel_rfl
@[simp] theorem Tryp.call12 : ∀ (args : Array Go.Value) (w : Go.World), Go.Sem.run (cutP Go.Proofs.Try.prog) (Go.callFunc 12 args) w = Go.Result.ok (Go.Next.enter 12 args) w := by intros; kernel_rfl
@[simp] theorem Tryp.call13 : ∀ (args : Array Go.Value) (w : Go.World), Go.Sem.run (cutP Go.Proofs.Try.prog) (Go.callFunc 13 args) w = Go.Result.ok (Go.Next.enter 13 args) w := by intros; kernel_rfl
@[simp] theorem Tryp.call14 : ∀ (args : Array Go.Value) (w : Go.World), Go.Sem.run (cutP Go.Proofs.Try.prog) (Go.callFunc 14 args) w = Go.Result.ok (Go.Next.enter 14 args) w := by intros; kernel_rfl
@[simp] theorem Tryp.call15 : ∀ (args : Array Go.Value) (w : Go.World), Go.Sem.run (cutP Go.Proofs.Try.prog) (Go.callFunc 15 args) w = Go.Result.ok (Go.Next.enter 15 args) w := by intros; kernel_rfl
@[simp] theorem Tryp.call16 : ∀ (args : Array Go.Value) (w : Go.World), Go.Sem.run (cutP Go.Proofs.Try.prog) (Go.callFunc 16 args) w = Go.Result.ok (Go.Next.enter 16 args) w := by intros; kernel_rfl
@[simp] theorem Tryp.call17 : ∀ (args : Array Go.Value) (w : Go.World), Go.Sem.run (cutP Go.Proofs.Try.prog) (Go.callFunc 17 args) w = Go.Result.ok (Go.Next.enter 17 args) w := by intros; kernel_rfl
@[simp] theorem Tryp.call18 : ∀ (args : Array Go.Value) (w : Go.World), Go.Sem.run (cutP Go.Proofs.Try.prog) (Go.callFunc 18 args) w = Go.Result.ok (Go.Next.enter 18 args) w := by intros; kernel_rfl
@[simp] theorem Tryp.call19 : ∀ (args : Array Go.Value) (w : Go.World), Go.Sem.run (cutP Go.Proofs.Try.prog) (Go.callFunc 19 args) w = Go.Result.ok (Go.Next.enter 19 args) w := by intros; kernel_rfl
@[simp] theorem Tryp.call20 : ∀ (args : Array Go.Value) (w : Go.World), Go.Sem.run (cutP Go.Proofs.Try.prog) (Go.callFunc 20 args) w = Go.Result.ok (Go.Next.enter 20 args) w := by intros; kernel_rfl
@[simp] theorem Tryp.call21 : ∀ (args : Array Go.Value) (w : Go.World), Go.Sem.run (cutP Go.Proofs.Try.prog) (Go.callFunc 21 args) w = Go.Result.ok (Go.Next.enter 21 args) w := by intros; kernel_rfl
@[simp] theorem Tryp.call22 : ∀ (args : Array Go.Value) (w : Go.World), Go.Sem.run (cutP Go.Proofs.Try.prog) (Go.callFunc 22 args) w = Go.Result.ok (Go.Next.enter 22 args) w := by intros; kernel_rfl
@[simp] theorem Tryp.call23 : ∀ (args : Array Go.Value) (w : Go.World), Go.Sem.run (cutP Go.Proofs.Try.prog) (Go.callFunc 23 args) w = Go.Result.ok (Go.Next.enter 23 args) w := by intros; kernel_rfl
@[simp] theorem Tryp.call24 : ∀ (args : Array Go.Value) (w : Go.World), Go.Sem.run (cutP Go.Proofs.Try.prog) (Go.callFunc 24 args) w = Go.Result.ok (Go.Next.enter 24 args) w := by intros; kernel_rfl
@[simp] theorem Tryp.call25 : ∀ (args : Array Go.Value) (w : Go.World), Go.Sem.run (cutP Go.Proofs.Try.prog) (Go.callFunc 25 args) w = Go.Result.ok (Go.Next.enter 25 args) w := by intros; kernel_rfl
@[simp] theorem Tryp.call26 : ∀ (args : Array Go.Value) (w : Go.World), Go.Sem.run (cutP Go.Proofs.Try.prog) (Go.callFunc 26 args) w = Go.Result.ok (Go.Next.enter 26 args) w := by intros; kernel_rfl
@[simp] theorem Tryp.call27 : ∀ (args : Array Go.Value) (w : Go.World), Go.Sem.run (cutP Go.Proofs.Try.prog) (Go.callFunc 27 args) w = Go.Result.ok (Go.Next.enter 27 args) w := by intros; kernel_rfl
@[simp] theorem Tryp.call28 : ∀ (args : Array Go.Value) (w : Go.World), Go.Sem.run (cutP Go.Proofs.Try.prog) (Go.callFunc 28 args) w = Go.Result.ok (Go.Next.enter 28 args) w := by intros; kernel_rfl
@[simp] theorem Tryp.call29 : ∀ (args : Array Go.Value) (w : Go.World), Go.Sem.run (cutP Go.Proofs.Try.prog) (Go.callFunc 29 args) w = Go.Result.ok (Go.Next.enter 29 args) w := by intros; kernel_rfl
@[simp] theorem Tryp.call3 : ∀ (args : Array Go.Value) (w : Go.World), Go.Sem.run (cutP Go.Proofs.Try.prog) (Go.callFunc 3 args) w = Go.Result.ok (Go.Next.enter 3 args) w := by intros; kernel_rfl
@[simp] theorem Tryp.call30 : ∀ (args : Array Go.Value) (w : Go.World), Go.Sem.run (cutP Go.Proofs.Try.prog) (Go.callFunc 30 args) w = Go.Result.ok (Go.Next.enter 30 args) w := by intros; kernel_rfl
@[simp] theorem Tryp.call31 : ∀ (args : Array Go.Value) (w : Go.World), Go.Sem.run (cutP Go.Proofs.Try.prog) (Go.callFunc 31 args) w = Go.Result.ok (Go.Next.enter 31 args) w := by intros; kernel_rfl
@[simp] theorem Tryp.call32 : ∀ (args : Array Go.Value) (w : Go.World), Go.Sem.run (cutP Go.Proofs.Try.prog) (Go.callFunc 32 args) w = Go.Result.ok (Go.Next.enter 32 args) w := by intros; kernel_rfl
@[simp] theorem Tryp.call33 : ∀ (args : Array Go.Value) (w : Go.World), Go.Sem.run (cutP Go.Proofs.Try.prog) (Go.callFunc 33 args) w = Go.Result.ok (Go.Next.enter 33 args) w := by intros; kernel_rfl
@[simp] theorem Tryp.call35 : ∀ (args : Array Go.Value) (w : Go.World), Go.Sem.run (cutP Go.Proofs.Try.prog) (Go.callFunc 35 args) w = Go.Result.ok (Go.Next.enter 35 args) w := by intros; kernel_rfl
@[simp] theorem Tryp.call36 : ∀ (args : Array Go.Value) (w : Go.World), Go.Sem.run (cutP Go.Proofs.Try.prog) (Go.callFunc 36 args) w = Go.Result.ok (Go.Next.enter 36 args) w := by intros; kernel_rfl
@[simp] theorem Tryp.call37 : ∀ (args : Array Go.Value) (w : Go.World), Go.Sem.run (cutP Go.Proofs.Try.prog) (Go.callFunc 37 args) w = Go.Result.ok (Go.Next.enter 37 args) w := by intros; kernel_rfl
@[simp] theorem Tryp.call38 : ∀ (args : Array Go.Value) (w : Go.World), Go.Sem.run (cutP Go.Proofs.Try.prog) (Go.callFunc 38 args) w = Go.Result.ok (Go.Next.enter 38 args) w := by intros; kernel_rfl
@[simp] theorem Tryp.call39 : ∀ (args : Array Go.Value) (w : Go.World), Go.Sem.run (cutP Go.Proofs.Try.prog) (Go.callFunc 39 args) w = Go.Result.ok (Go.Next.enter 39 args) w := by intros; kernel_rfl
@[simp] theorem Tryp.call4 : ∀ (args : Array Go.Value) (w : Go.World), Go.Sem.run (cutP Go.Proofs.Try.prog) (Go.callFunc 4 args) w = Go.Result.ok (Go.Next.enter 4 args) w := by intros; kernel_rfl
@[simp] theorem Tryp.call40 : ∀ (args : Array Go.Value) (w : Go.World), Go.Sem.run (cutP Go.Proofs.Try.prog) (Go.callFunc 40 args) w = Go.Result.ok (Go.Next.enter 40 args) w := by intros; kernel_rfl
@[simp] theorem Tryp.call41 : ∀ (args : Array Go.Value) (w : Go.World), Go.Sem.run (cutP Go.Proofs.Try.prog) (Go.callFunc 41 args) w = Go.Result.ok (Go.Next.enter 41 args) w := by intros; kernel_rfl
@[simp] theorem Tryp.call42 : ∀ (args : Array Go.Value) (w : Go.World), Go.Sem.run (cutP Go.Proofs.Try.prog) (Go.callFunc 42 args) w = Go.Result.ok (Go.Next.enter 42 args) w := by intros; kernel_rfl
@[simp] theorem Tryp.call43 : ∀ (args : Array Go.Value) (w : Go.World), Go.Sem.run (cutP Go.Proofs.Try.prog) (Go.callFunc 43 args) w = Go.Result.ok (Go.Next.enter 43 args) w := by intros; kernel_rfl
@[simp] theorem Tryp.call44 : ∀ (args : Array Go.Value) (w : Go.World), Go.Sem.run (cutP Go.Proofs.Try.prog) (Go.callFunc 44 args) w = Go.Result.ok (Go.Next.enter 44 args) w := by intros; kernel_rfl
@[simp] theorem Tryp.call45 : ∀ (args : Array Go.Value) (w : Go.World), Go.Sem.run (cutP Go.Proofs.Try.prog) (Go.callFunc 45 args) w = Go.Result.ok (Go.Next.enter 45 args) w := by intros; kernel_rfl
@[simp] theorem Tryp.call46 : ∀ (args : Array Go.Value) (w : Go.World), Go.Sem.run (cutP Go.Proofs.Try.prog) (Go.callFunc 46 args) w = Go.Result.ok (Go.Next.enter 46 args) w := by intros; kernel_rfl
@[simp] theorem Tryp.call47 : ∀ (args : Array Go.Value) (w : Go.World), Go.Sem.run (cutP Go.Proofs.Try.prog) (Go.callFunc 47 args) w = Go.Result.ok (Go.Next.enter 47 args) w := by intros; kernel_rfl
@[simp] theorem Tryp.call48 : ∀ (args : Array Go.Value) (w : Go.World), Go.Sem.run (cutP Go.Proofs.Try.prog) (Go.callFunc 48 args) w = Go.Result.ok (Go.Next.enter 48 args) w := by intros; kernel_rfl
@[simp] theorem Tryp.call49 : ∀ (args : Array Go.Value) (w : Go.World), Go.Sem.run (cutP Go.Proofs.Try.prog) (Go.callFunc 49 args) w = Go.Result.ok (Go.Next.enter 49 args) w := by intros; kernel_rfl
@[simp] theorem Tryp.call5 : ∀ (args : Array Go.Value) (w : Go.World), Go.Sem.run (cutP Go.Proofs.Try.prog) (Go.callFunc 5 args) w = Go.Result.ok (Go.Next.enter 5 args) w := by intros; kernel_rfl
@[simp] theorem Tryp.call50 : ∀ (args : Array Go.Value) (w : Go.World), Go.Sem.run (cutP Go.Proofs.Try.prog) (Go.callFunc 50 args) w = Go.Result.ok (Go.Next.enter 50 args) w := by intros; kernel_rfl
@[simp] theorem Tryp.call51 : ∀ (args : Array Go.Value) (w : Go.World), Go.Sem.run (cutP Go.Proofs.Try.prog) (Go.callFunc 51 args) w = Go.Result.ok (Go.Next.enter 51 args) w := by intros; kernel_rfl
@[simp] theorem Tryp.call52 : ∀ (args : Array Go.Value) (w : Go.World), Go.Sem.run (cutP Go.Proofs.Try.prog) (Go.callFunc 52 args) w = Go.Result.ok (Go.Next.enter 52 args) w := by intros; kernel_rfl
@[simp] theorem Tryp.call53 : ∀ (args : Array Go.Value) (w : Go.World), Go.Sem.run (cutP Go.Proofs.Try.prog) (Go.callFunc 53 args) w = Go.Result.ok (Go.Next.enter 53 args) w := by intros; kernel_rfl
@[simp] theorem Tryp.call55 : ∀ (args : Array Go.Value) (w : Go.World), Go.Sem.run (cutP Go.Proofs.Try.prog) (Go.callFunc 55 args) w = Go.Result.ok (Go.Next.enter 55 args) w := by intros; kernel_rfl
@[simp] theorem Tryp.call56 : ∀ (args : Array Go.Value) (w : Go.World), Go.Sem.run (cutP Go.Proofs.Try.prog) (Go.callFunc 56 args) w = Go.Result.ok (Go.Next.enter 56 args) w := by intros; kernel_rfl
@[simp] theorem Tryp.call57 : ∀ (args : Array Go.Value) (w : Go.World), Go.Sem.run (cutP Go.Proofs.Try.prog) (Go.callFunc 57 args) w = Go.Result.ok (Go.Next.enter 57 args) w := by intros; kernel_rfl
@[simp] theorem Tryp.call58 : ∀ (args : Array Go.Value) (w : Go.World), Go.Sem.run (cutP Go.Proofs.Try.prog) (Go.callFunc 58 args) w = Go.Result.ok (Go.Next.enter 58 args) w := by intros; kernel_rfl
@[simp] theorem Tryp.call59 : ∀ (args : Array Go.Value) (w : Go.World), Go.Sem.run (cutP Go.Proofs.Try.prog) (Go.callFunc 59 args) w = Go.Result.ok (Go.Next.enter 59 args) w := by intros; kernel_rfl
@[simp] theorem Tryp.call6 : ∀ (args : Array Go.Value) (w : Go.World), Go.Sem.run (cutP Go.Proofs.Try.prog) (Go.callFunc 6 args) w = Go.Result.ok (Go.Next.enter 6 args) w := by intros; kernel_rfl
@[simp] theorem Tryp.call60 : ∀ (args : Array Go.Value) (w : Go.World), Go.Sem.run (cutP Go.Proofs.Try.prog) (Go.callFunc 60 args) w = Go.Result.ok (Go.Next.enter 60 args) w := by intros; kernel_rfl
@[simp] theorem Tryp.call61 : ∀ (args : Array Go.Value) (w : Go.World), Go.Sem.run (cutP Go.Proofs.Try.prog) (Go.callFunc 61 args) w = Go.Result.ok (Go.Next.enter 61 args) w := by intros; kernel_rfl
@[simp] theorem Tryp.call62 : ∀ (args : Array Go.Value) (w : Go.World), Go.Sem.run (cutP Go.Proofs.Try.prog) (Go.callFunc 62 args) w = Go.Result.ok (Go.Next.enter 62 args) w := by intros; kernel_rfl
@[simp] theorem Tryp.call63 : ∀ (args : Array Go.Value) (w : Go.World), Go.Sem.run (cutP Go.Proofs.Try.prog) (Go.callFunc 63 args) w = Go.Result.ok (Go.Next.enter 63 args) w := by intros; kernel_rfl
@[simp] theorem Tryp.call64 : ∀ (args : Array Go.Value) (w : Go.World), Go.Sem.run (cutP Go.Proofs.Try.prog) (Go.callFunc 64 args) w = Go.Result.ok (Go.Next.enter 64 args) w := by intros; kernel_rfl
@[simp] theorem Tryp.call65 : ∀ (args : Array Go.Value) (w : Go.World), Go.Sem.run (cutP Go.Proofs.Try.prog) (Go.callFunc 65 args) w = Go.Result.ok (Go.Next.enter 65 args) w := by intros; kernel_rfl
@[simp] theorem Tryp.call66 : ∀ (args : Array Go.Value) (w : Go.World), Go.Sem.run (cutP Go.Proofs.Try.prog) (Go.callFunc 66 args) w = Go.Result.ok (Go.Next.enter 66 args) w := by intros; kernel_rfl
@[simp] theorem Tryp.call67 : ∀ (args : Array Go.Value) (w : Go.World), Go.Sem.run (cutP Go.Proofs.Try.prog) (Go.callFunc 67 args) w = Go.Result.ok (Go.Next.enter 67 args) w := by intros; kernel_rfl
@[simp] theorem Tryp.call68 : ∀ (args : Array Go.Value) (w : Go.World), Go.Sem.run (cutP Go.Proofs.Try.prog) (Go.callFunc 68 args) w = Go.Result.ok (Go.Next.enter 68 args) w := by intros; kernel_rfl
@[simp] theorem Tryp.call69 : ∀ (args : Array Go.Value) (w : Go.World), Go.Sem.run (cutP Go.Proofs.Try.prog) (Go.callFunc 69 args) w = Go.Result.ok (Go.Next.enter 69 args) w := by intros; kernel_rfl
@[simp] theorem Tryp.call7 : ∀ (args : Array Go.Value) (w : Go.World), Go.Sem.run (cutP Go.Proofs.Try.prog) (Go.callFunc 7 args) w = Go.Result.ok (Go.Next.enter 7 args) w := by intros; kernel_rfl
@[simp] theorem Tryp.call70 : ∀ (args : Array Go.Value) (w : Go.World), Go.Sem.run (cutP Go.Proofs.Try.prog) (Go.callFunc 70 args) w = Go.Result.ok (Go.Next.enter 70 args) w := by intros; kernel_rfl
@[simp] theorem Tryp.call71 : ∀ (args : Array Go.Value) (w : Go.World), Go.Sem.run (cutP Go.Proofs.Try.prog) (Go.callFunc 71 args) w = Go.Result.ok (Go.Next.enter 71 args) w := by intros; kernel_rfl
@[simp] theorem Tryp.call76 : ∀ (args : Array Go.Value) (w : Go.World), Go.Sem.run (cutP Go.Proofs.Try.prog) (Go.callFunc 76 args) w = Go.Result.ok (Go.Next.enter 76 args) w := by intros; kernel_rfl
@[simp] theorem Tryp.call77 : ∀ (args : Array Go.Value) (w : Go.World), Go.Sem.run (cutP Go.Proofs.Try.prog) (Go.callFunc 77 args) w = Go.Result.ok (Go.Next.enter 77 args) w := by intros; kernel_rfl
@[simp] theorem Tryp.call78 : ∀ (args : Array Go.Value) (w : Go.World), Go.Sem.run (cutP Go.Proofs.Try.prog) (Go.callFunc 78 args) w = Go.Result.ok (Go.Next.enter 78 args) w := by intros; kernel_rfl
@[simp] theorem Tryp.call79 : ∀ (args : Array Go.Value) (w : Go.World), Go.Sem.run (cutP Go.Proofs.Try.prog) (Go.callFunc 79 args) w = Go.Result.ok (Go.Next.enter 79 args) w := by intros; kernel_rfl
@[simp] theorem Tryp.call8 : ∀ (args : Array Go.Value) (w : Go.World), Go.Sem.run (cutP Go.Proofs.Try.prog) (Go.callFunc 8 args) w = Go.Result.ok (Go.Next.enter 8 args) w := by intros; kernel_rfl
@[simp] theorem Tryp.call80 : ∀ (args : Array Go.Value) (w : Go.World), Go.Sem.run (cutP Go.Proofs.Try.prog) (Go.callFunc 80 args) w = Go.Result.ok (Go.Next.enter 80 args) w := by intros; kernel_rfl
@[simp] theorem Tryp.call81 : ∀ (args : Array Go.Value) (w : Go.World), Go.Sem.run (cutP Go.Proofs.Try.prog) (Go.callFunc 81 args) w = Go.Result.ok (Go.Next.enter 81 args) w := by intros; kernel_rfl
@[simp] theorem Tryp.call9 : ∀ (args : Array Go.Value) (w : Go.World), Go.Sem.run (cutP Go.Proofs.Try.prog) (Go.callFunc 9 args) w = Go.Result.ok (Go.Next.enter 9 args) w := by intros; kernel_rfl
theorem Tryp.eqGuardType116 : (cutP Go.Proofs.Try.prog).eqGuardType (cutP Go.Proofs.Try.prog).depth 116 = Bool.false := by kernel_rfl
theorem Tryp.eqGuardType117 : (cutP Go.Proofs.Try.prog).eqGuardType (cutP Go.Proofs.Try.prog).depth 117 = Bool.false := by kernel_rfl
theorem Tryp.eqGuardType118 : (cutP Go.Proofs.Try.prog).eqGuardType (cutP Go.Proofs.Try.prog).depth 118 = Bool.false := by kernel_rfl
theorem Tryp.eqGuardType119 : (cutP Go.Proofs.Try.prog).eqGuardType (cutP Go.Proofs.Try.prog).depth 119 = Bool.false := by kernel_rfl
theorem Tryp.eqGuardType120 : (cutP Go.Proofs.Try.prog).eqGuardType (cutP Go.Proofs.Try.prog).depth 120 = Bool.false := by kernel_rfl
theorem Tryp.eqGuardType127 : (cutP Go.Proofs.Try.prog).eqGuardType (cutP Go.Proofs.Try.prog).depth 127 = Bool.false := by kernel_rfl
theorem Tryp.eqGuardType128 : (cutP Go.Proofs.Try.prog).eqGuardType (cutP Go.Proofs.Try.prog).depth 128 = Bool.false := by kernel_rfl
theorem Tryp.eqGuardType13 : (cutP Go.Proofs.Try.prog).eqGuardType (cutP Go.Proofs.Try.prog).depth 13 = Bool.false := by kernel_rfl
theorem Tryp.eqGuardType14 : (cutP Go.Proofs.Try.prog).eqGuardType (cutP Go.Proofs.Try.prog).depth 14 = Bool.false := by kernel_rfl
theorem Tryp.eqGuardType18 : (cutP Go.Proofs.Try.prog).eqGuardType (cutP Go.Proofs.Try.prog).depth 18 = Bool.false := by kernel_rfl
theorem Tryp.eqGuardType19 : (cutP Go.Proofs.Try.prog).eqGuardType (cutP Go.Proofs.Try.prog).depth 19 = Bool.false := by kernel_rfl
theorem Tryp.eqGuardType64 : (cutP Go.Proofs.Try.prog).eqGuardType (cutP Go.Proofs.Try.prog).depth 64 = Bool.false := by kernel_rfl
theorem Tryp.eqGuardType65 : (cutP Go.Proofs.Try.prog).eqGuardType (cutP Go.Proofs.Try.prog).depth 65 = Bool.false := by kernel_rfl
theorem Tryp.eqGuardType7 : (cutP Go.Proofs.Try.prog).eqGuardType (cutP Go.Proofs.Try.prog).depth 7 = Bool.false := by kernel_rfl
theorem Tryp.eqGuardType70 : (cutP Go.Proofs.Try.prog).eqGuardType (cutP Go.Proofs.Try.prog).depth 70 = Bool.false := by kernel_rfl
theorem Tryp.eqGuardType71 : (cutP Go.Proofs.Try.prog).eqGuardType (cutP Go.Proofs.Try.prog).depth 71 = Bool.false := by kernel_rfl
theorem Tryp.eqGuardType8 : (cutP Go.Proofs.Try.prog).eqGuardType (cutP Go.Proofs.Try.prog).depth 8 = Bool.false := by kernel_rfl
theorem Tryp.eqGuardType80 : (cutP Go.Proofs.Try.prog).eqGuardType (cutP Go.Proofs.Try.prog).depth 80 = Bool.false := by kernel_rfl
theorem Tryp.eqGuardType81 : (cutP Go.Proofs.Try.prog).eqGuardType (cutP Go.Proofs.Try.prog).depth 81 = Bool.false := by kernel_rfl
theorem Tryp.eqGuardType82 : (cutP Go.Proofs.Try.prog).eqGuardType (cutP Go.Proofs.Try.prog).depth 82 = Bool.false := by kernel_rfl
theorem Tryp.eqGuardType83 : (cutP Go.Proofs.Try.prog).eqGuardType (cutP Go.Proofs.Try.prog).depth 83 = Bool.false := by kernel_rfl
theorem Tryp.eqGuardType85 : (cutP Go.Proofs.Try.prog).eqGuardType (cutP Go.Proofs.Try.prog).depth 85 = Bool.false := by kernel_rfl
theorem Tryp.eqGuardType86 : (cutP Go.Proofs.Try.prog).eqGuardType (cutP Go.Proofs.Try.prog).depth 86 = Bool.false := by kernel_rfl
theorem Tryp.eqGuardType88 : (cutP Go.Proofs.Try.prog).eqGuardType (cutP Go.Proofs.Try.prog).depth 88 = Bool.false := by kernel_rfl
theorem Tryp.eqGuardType89 : (cutP Go.Proofs.Try.prog).eqGuardType (cutP Go.Proofs.Try.prog).depth 89 = Bool.false := by kernel_rfl
@[simp] theorem Tryp.func10 : (cutP Go.Proofs.Try.prog).funcs[10]? = Option.some Go.Proofs.Try.f10 := by kernel_rfl
@[simp] theorem Tryp.func100 : (cutP Go.Proofs.Try.prog).funcs[100]? = Option.some Go.Proofs.Try.f100 := by kernel_rfl
@[simp] theorem Tryp.func11 : (cutP Go.Proofs.Try.prog).funcs[11]? = Option.some Go.Proofs.Try.f11 := by kernel_rfl
@[simp] theorem Tryp.func12 : (cutP Go.Proofs.Try.prog).funcs[12]? = Option.some Go.Proofs.Try.f12 := by kernel_rfl
@[simp] theorem Tryp.func13 : (cutP Go.Proofs.Try.prog).funcs[13]? = Option.some Go.Proofs.Try.f13 := by kernel_rfl
@[simp] theorem Tryp.func14 : (cutP Go.Proofs.Try.prog).funcs[14]? = Option.some Go.Proofs.Try.f14 := by kernel_rfl
@[simp] theorem Tryp.func15 : (cutP Go.Proofs.Try.prog).funcs[15]? = Option.some Go.Proofs.Try.f15 := by kernel_rfl
@[simp] theorem Tryp.func16 : (cutP Go.Proofs.Try.prog).funcs[16]? = Option.some Go.Proofs.Try.f16 := by kernel_rfl
@[simp] theorem Tryp.func17 : (cutP Go.Proofs.Try.prog).funcs[17]? = Option.some Go.Proofs.Try.f17 := by kernel_rfl
@[simp] theorem Tryp.func18 : (cutP Go.Proofs.Try.prog).funcs[18]? = Option.some Go.Proofs.Try.f18 := by kernel_rfl
@[simp] theorem Tryp.func19 : (cutP Go.Proofs.Try.prog).funcs[19]? = Option.some Go.Proofs.Try.f19 := by kernel_rfl
@[simp] theorem Tryp.func20 : (cutP Go.Proofs.Try.prog).funcs[20]? = Option.some Go.Proofs.Try.f20 := by kernel_rfl
@[simp] theorem Tryp.func21 : (cutP Go.Proofs.Try.prog).funcs[21]? = Option.some Go.Proofs.Try.f21 := by kernel_rfl
@[simp] theorem Tryp.func22 : (cutP Go.Proofs.Try.prog).funcs[22]? = Option.some Go.Proofs.Try.f22 := by kernel_rfl
@[simp] theorem Tryp.func23 : (cutP Go.Proofs.Try.prog).funcs[23]? = Option.some Go.Proofs.Try.f23 := by kernel_rfl
@[simp] theorem Tryp.func24 : (cutP Go.Proofs.Try.prog).funcs[24]? = Option.some Go.Proofs.Try.f24 := by kernel_rfl
@[simp] theorem Tryp.func25 : (cutP Go.Proofs.Try.prog).funcs[25]? = Option.some Go.Proofs.Try.f25 := by kernel_rfl
@[simp] theorem Tryp.func26 : (cutP Go.Proofs.Try.prog).funcs[26]? = Option.some Go.Proofs.Try.f26 := by kernel_rfl
@[simp] theorem Tryp.func27 : (cutP Go.Proofs.Try.prog).funcs[27]? = Option.some Go.Proofs.Try.f27 := by kernel_rfl
@[simp] theorem Tryp.func28 : (cutP Go.Proofs.Try.prog).funcs[28]? = Option.some Go.Proofs.Try.f28 := by kernel_rfl
@[simp] theorem Tryp.func29 : (cutP Go.Proofs.Try.prog).funcs[29]? = Option.some Go.Proofs.Try.f29 := by kernel_rfl
@[simp] theorem Tryp.func3 : (cutP Go.Proofs.Try.prog).funcs[3]? = Option.some Go.Proofs.Try.f3 := by kernel_rfl
@[simp] theorem Tryp.func30 : (cutP Go.Proofs.Try.prog).funcs[30]? = Option.some Go.Proofs.Try.f30 := by kernel_rfl
@[simp] theorem Tryp.func31 : (cutP Go.Proofs.Try.prog).funcs[31]? = Option.some Go.Proofs.Try.f31 := by kernel_rfl
@[simp] theorem Tryp.func32 : (cutP Go.Proofs.Try.prog).funcs[32]? = Option.some Go.Proofs.Try.f32 := by kernel_rfl
@[simp] theorem Tryp.func33 : (cutP Go.Proofs.Try.prog).funcs[33]? = Option.some Go.Proofs.Try.f33 := by kernel_rfl
@[simp] theorem Tryp.func35 : (cutP Go.Proofs.Try.prog).funcs[35]? = Option.some Go.Proofs.Try.f35 := by kernel_rfl
@[simp] theorem Tryp.func36 : (cutP Go.Proofs.Try.prog).funcs[36]? = Option.some Go.Proofs.Try.f36 := by kernel_rfl
@[simp] theorem Tryp.func37 : (cutP Go.Proofs.Try.prog).funcs[37]? = Option.some Go.Proofs.Try.f37 := by kernel_rfl
@[simp] theorem Tryp.func38 : (cutP Go.Proofs.Try.prog).funcs[38]? = Option.some Go.Proofs.Try.f38 := by kernel_rfl
@[simp] theorem Tryp.func39 : (cutP Go.Proofs.Try.prog).funcs[39]? = Option.some Go.Proofs.Try.f39 := by kernel_rfl
@[simp] theorem Tryp.func4 : (cutP Go.Proofs.Try.prog).funcs[4]? = Option.some Go.Proofs.Try.f4 := by kernel_rfl
@[simp] theorem Tryp.func40 : (cutP Go.Proofs.Try.prog).funcs[40]? = Option.some Go.Proofs.Try.f40 := by kernel_rfl
@[simp] theorem Tryp.func41 : (cutP Go.Proofs.Try.prog).funcs[41]? = Option.some Go.Proofs.Try.f41 := by kernel_rfl
@[simp] theorem Tryp.func42 : (cutP Go.Proofs.Try.prog).funcs[42]? = Option.some Go.Proofs.Try.f42 := by kernel_rfl
@[simp] theorem Tryp.func43 : (cutP Go.Proofs.Try.prog).funcs[43]? = Option.some Go.Proofs.Try.f43 := by kernel_rfl
@[simp] theorem Tryp.func44 : (cutP Go.Proofs.Try.prog).funcs[44]? = Option.some Go.Proofs.Try.f44 := by kernel_rfl
@[simp] theorem Tryp.func45 : (cutP Go.Proofs.Try.prog).funcs[45]? = Option.some Go.Proofs.Try.f45 := by kernel_rfl
@[simp] theorem Tryp.func46 : (cutP Go.Proofs.Try.prog).funcs[46]? = Option.some Go.Proofs.Try.f46 := by kernel_rfl
@[simp] theorem Tryp.func47 : (cutP Go.Proofs.Try.prog).funcs[47]? = Option.some Go.Proofs.Try.f47 := by kernel_rfl
@[simp] theorem Tryp.func48 : (cutP Go.Proofs.Try.prog).funcs[48]? = Option.some Go.Proofs.Try.f48 := by kernel_rfl
@[simp] theorem Tryp.func49 : (cutP Go.Proofs.Try.prog).funcs[49]? = Option.some Go.Proofs.Try.f49 := by kernel_rfl
@[simp] theorem Tryp.func5 : (cutP Go.Proofs.Try.prog).funcs[5]? = Option.some Go.Proofs.Try.f5 := by kernel_rfl
@[simp] theorem Tryp.func50 : (cutP Go.Proofs.Try.prog).funcs[50]? = Option.some Go.Proofs.Try.f50 := by kernel_rfl
@[simp] theorem Tryp.func51 : (cutP Go.Proofs.Try.prog).funcs[51]? = Option.some Go.Proofs.Try.f51 := by kernel_rfl
@[simp] theorem Tryp.func52 : (cutP Go.Proofs.Try.prog).funcs[52]? = Option.some Go.Proofs.Try.f52 := by kernel_rfl
@[simp] theorem Tryp.func53 : (cutP Go.Proofs.Try.prog).funcs[53]? = Option.some Go.Proofs.Try.f53 := by kernel_rfl
@[simp] theorem Tryp.func55 : (cutP Go.Proofs.Try.prog).funcs[55]? = Option.some Go.Proofs.Try.f55 := by kernel_rfl
@[simp] theorem Tryp.func56 : (cutP Go.Proofs.Try.prog).funcs[56]? = Option.some Go.Proofs.Try.f56 := by kernel_rfl
@[simp] theorem Tryp.func57 : (cutP Go.Proofs.Try.prog).funcs[57]? = Option.some Go.Proofs.Try.f57 := by kernel_rfl
@[simp] theorem Tryp.func58 : (cutP Go.Proofs.Try.prog).funcs[58]? = Option.some Go.Proofs.Try.f58 := by kernel_rfl
@[simp] theorem Tryp.func59 : (cutP Go.Proofs.Try.prog).funcs[59]? = Option.some Go.Proofs.Try.f59 := by kernel_rfl
@[simp] theorem Tryp.func6 : (cutP Go.Proofs.Try.prog).funcs[6]? = Option.some Go.Proofs.Try.f6 := by kernel_rfl
@[simp] theorem Tryp.func60 : (cutP Go.Proofs.Try.prog).funcs[60]? = Option.some Go.Proofs.Try.f60 := by kernel_rfl
@[simp] theorem Tryp.func61 : (cutP Go.Proofs.Try.prog).funcs[61]? = Option.some Go.Proofs.Try.f61 := by kernel_rfl
@[simp] theorem Tryp.func62 : (cutP Go.Proofs.Try.prog).funcs[62]? = Option.some Go.Proofs.Try.f62 := by kernel_rfl
@[simp] theorem Tryp.func63 : (cutP Go.Proofs.Try.prog).funcs[63]? = Option.some Go.Proofs.Try.f63 := by kernel_rfl
@[simp] theorem Tryp.func64 : (cutP Go.Proofs.Try.prog).funcs[64]? = Option.some Go.Proofs.Try.f64 := by kernel_rfl
@[simp] theorem Tryp.func65 : (cutP Go.Proofs.Try.prog).funcs[65]? = Option.some Go.Proofs.Try.f65 := by kernel_rfl
@[simp] theorem Tryp.func66 : (cutP Go.Proofs.Try.prog).funcs[66]? = Option.some Go.Proofs.Try.f66 := by kernel_rfl
@[simp] theorem Tryp.func67 : (cutP Go.Proofs.Try.prog).funcs[67]? = Option.some Go.Proofs.Try.f67 := by kernel_rfl
@[simp] theorem Tryp.func68 : (cutP Go.Proofs.Try.prog).funcs[68]? = Option.some Go.Proofs.Try.f68 := by kernel_rfl
@[simp] theorem Tryp.func69 : (cutP Go.Proofs.Try.prog).funcs[69]? = Option.some Go.Proofs.Try.f69 := by kernel_rfl
@[simp] theorem Tryp.func7 : (cutP Go.Proofs.Try.prog).funcs[7]? = Option.some Go.Proofs.Try.f7 := by kernel_rfl
@[simp] theorem Tryp.func70 : (cutP Go.Proofs.Try.prog).funcs[70]? = Option.some Go.Proofs.Try.f70 := by kernel_rfl
@[simp] theorem Tryp.func71 : (cutP Go.Proofs.Try.prog).funcs[71]? = Option.some Go.Proofs.Try.f71 := by kernel_rfl
@[simp] theorem Tryp.func76 : (cutP Go.Proofs.Try.prog).funcs[76]? = Option.some Go.Proofs.Try.f76 := by kernel_rfl
@[simp] theorem Tryp.func77 : (cutP Go.Proofs.Try.prog).funcs[77]? = Option.some Go.Proofs.Try.f77 := by kernel_rfl
@[simp] theorem Tryp.func78 : (cutP Go.Proofs.Try.prog).funcs[78]? = Option.some Go.Proofs.Try.f78 := by kernel_rfl
@[simp] theorem Tryp.func79 : (cutP Go.Proofs.Try.prog).funcs[79]? = Option.some Go.Proofs.Try.f79 := by kernel_rfl
@[simp] theorem Tryp.func8 : (cutP Go.Proofs.Try.prog).funcs[8]? = Option.some Go.Proofs.Try.f8 := by kernel_rfl
@[simp] theorem Tryp.func80 : (cutP Go.Proofs.Try.prog).funcs[80]? = Option.some Go.Proofs.Try.f80 := by kernel_rfl
@[simp] theorem Tryp.func81 : (cutP Go.Proofs.Try.prog).funcs[81]? = Option.some Go.Proofs.Try.f81 := by kernel_rfl
@[simp] theorem Tryp.func9 : (cutP Go.Proofs.Try.prog).funcs[9]? = Option.some Go.Proofs.Try.f9 := by kernel_rfl
@[simp] theorem Tryp.globals_size : (cutP Go.Proofs.Try.prog).globals.size = 0 := by kernel_rfl
theorem Tryp.inits_eq : (cutP Go.Proofs.Try.prog).inits = #[2] := by kernel_rfl
@[simp] theorem Tryp.isAgg0 : ∀ (w : Go.World), Go.Sem.run (cutP Go.Proofs.Try.prog) (Go.isAgg 0) w = Go.Result.ok Bool.false w := by intros; kernel_rfl
@[simp] theorem Tryp.isAgg1 : ∀ (w : Go.World), Go.Sem.run (cutP Go.Proofs.Try.prog) (Go.isAgg 1) w = Go.Result.ok Bool.false w := by intros; kernel_rfl
@[simp] theorem Tryp.isAgg10 : ∀ (w : Go.World), Go.Sem.run (cutP Go.Proofs.Try.prog) (Go.isAgg 10) w = Go.Result.ok Bool.false w := by intros; kernel_rfl
@[simp] theorem Tryp.isAgg100 : ∀ (w : Go.World), Go.Sem.run (cutP Go.Proofs.Try.prog) (Go.isAgg 100) w = Go.Result.ok Bool.false w := by intros; kernel_rfl
@[simp] theorem Tryp.isAgg101 : ∀ (w : Go.World), Go.Sem.run (cutP Go.Proofs.Try.prog) (Go.isAgg 101) w = Go.Result.ok Bool.false w := by intros; kernel_rfl
@[simp] theorem Tryp.isAgg102 : ∀ (w : Go.World), Go.Sem.run (cutP Go.Proofs.Try.prog) (Go.isAgg 102) w = Go.Result.ok Bool.false w := by intros; kernel_rfl
@[simp] theorem Tryp.isAgg103 : ∀ (w : Go.World), Go.Sem.run (cutP Go.Proofs.Try.prog) (Go.isAgg 103) w = Go.Result.ok Bool.false w := by intros; kernel_rfl
@[simp] theorem Tryp.isAgg104 : ∀ (w : Go.World), Go.Sem.run (cutP Go.Proofs.Try.prog) (Go.isAgg 104) w = Go.Result.ok Bool.false w := by intros; kernel_rfl
@[simp] theorem Tryp.isAgg105 : ∀ (w : Go.World), Go.Sem.run (cutP Go.Proofs.Try.prog) (Go.isAgg 105) w = Go.Result.ok Bool.false w := by intros; kernel_rfl
@[simp] theorem Tryp.isAgg106 : ∀ (w : Go.World), Go.Sem.run (cutP Go.Proofs.Try.prog) (Go.isAgg 106) w = Go.Result.ok Bool.false w := by intros; kernel_rfl
@[simp] theorem Tryp.isAgg107 : ∀ (w : Go.World), Go.Sem.run (cutP Go.Proofs.Try.prog) (Go.isAgg 107) w = Go.Result.ok Bool.false w := by intros; kernel_rfl
@[simp] theorem Tryp.isAgg108 : ∀ (w : Go.World), Go.Sem.run (cutP Go.Proofs.Try.prog) (Go.isAgg 108) w = Go.Result.ok Bool.false w := by intros; kernel_rfl
@[simp] theorem Tryp.isAgg109 : ∀ (w : Go.World), Go.Sem.run (cutP Go.Proofs.Try.prog) (Go.isAgg 109) w = Go.Result.ok Bool.false w := by intros; kernel_rfl
@[simp] theorem Tryp.isAgg11 : ∀ (w : Go.World), Go.Sem.run (cutP Go.Proofs.Try.prog) (Go.isAgg 11) w = Go.Result.ok Bool.false w := by intros; kernel_rfl
@[simp] theorem Tryp.isAgg110 : ∀ (w : Go.World), Go.Sem.run (cutP Go.Proofs.Try.prog) (Go.isAgg 110) w = Go.Result.ok Bool.false w := by intros; kernel_rfl
@[simp] theorem Tryp.isAgg111 : ∀ (w : Go.World), Go.Sem.run (cutP Go.Proofs.Try.prog) (Go.isAgg 111) w = Go.Result.ok Bool.false w := by intros; kernel_rfl
@[simp] theorem Tryp.isAgg112 : ∀ (w : Go.World), Go.Sem.run (cutP Go.Proofs.Try.prog) (Go.isAgg 112) w = Go.Result.ok Bool.false w := by intros; kernel_rfl
@[simp] theorem Tryp.isAgg113 : ∀ (w : Go.World), Go.Sem.run (cutP Go.Proofs.Try.prog) (Go.isAgg 113) w = Go.Result.ok Bool.false w := by intros; kernel_rfl
@[simp] theorem Tryp.isAgg114 : ∀ (w : Go.World), Go.Sem.run (cutP Go.Proofs.Try.prog) (Go.isAgg 114) w = Go.Result.ok Bool.false w := by intros; kernel_rfl
@[simp] theorem Tryp.isAgg115 : ∀ (w : Go.World), Go.Sem.run (cutP Go.Proofs.Try.prog) (Go.isAgg 115) w = Go.Result.ok Bool.false w := by intros; kernel_rfl
@[simp] theorem Tryp.isAgg116 : ∀ (w : Go.World), Go.Sem.run (cutP Go.Proofs.Try.prog) (Go.isAgg 116) w = Go.Result.ok Bool.true w := by intros; kernel_rfl
@[simp] theorem Tryp.isAgg117 : ∀ (w : Go.World), Go.Sem.run (cutP Go.Proofs.Try.prog) (Go.isAgg 117) w = Go.Result.ok Bool.true w := by intros; kernel_rfl
@[simp] theorem Tryp.isAgg118 : ∀ (w : Go.World), Go.Sem.run (cutP Go.Proofs.Try.prog) (Go.isAgg 118) w = Go.Result.ok Bool.true w := by intros; kernel_rfl
@[simp] theorem Tryp.isAgg119 : ∀ (w : Go.World), Go.Sem.run (cutP Go.Proofs.Try.prog) (Go.isAgg 119) w = Go.Result.ok Bool.true w := by intros; kernel_rfl
@[simp] theorem Tryp.isAgg12 : ∀ (w : Go.World), Go.Sem.run (cutP Go.Proofs.Try.prog) (Go.isAgg 12) w = Go.Result.ok Bool.false w := by intros; kernel_rfl
@[simp] theorem Tryp.isAgg120 : ∀ (w : Go.World), Go.Sem.run (cutP Go.Proofs.Try.prog) (Go.isAgg 120) w = Go.Result.ok Bool.true w := by intros; kernel_rfl
@[simp] theorem Tryp.isAgg121 : ∀ (w : Go.World), Go.Sem.run (cutP Go.Proofs.Try.prog) (Go.isAgg 121) w = Go.Result.ok Bool.false w := by intros; kernel_rfl
@[simp] theorem Tryp.isAgg122 : ∀ (w : Go.World), Go.Sem.run (cutP Go.Proofs.Try.prog) (Go.isAgg 122) w = Go.Result.ok Bool.false w := by intros; kernel_rfl
@[simp] theorem Tryp.isAgg123 : ∀ (w : Go.World), Go.Sem.run (cutP Go.Proofs.Try.prog) (Go.isAgg 123) w = Go.Result.ok Bool.false w := by intros; kernel_rfl
@[simp] theorem Tryp.isAgg124 : ∀ (w : Go.World), Go.Sem.run (cutP Go.Proofs.Try.prog) (Go.isAgg 124) w = Go.Result.ok Bool.false w := by intros; kernel_rfl
@[simp] theorem Tryp.isAgg125 : ∀ (w : Go.World), Go.Sem.run (cutP Go.Proofs.Try.prog) (Go.isAgg 125) w = Go.Result.ok Bool.false w := by intros; kernel_rfl
@[simp] theorem Tryp.isAgg126 : ∀ (w : Go.World), Go.Sem.run (cutP Go.Proofs.Try.prog) (Go.isAgg 126) w = Go.Result.ok Bool.false w := by intros; kernel_rfl
@[simp] theorem Tryp.isAgg127 : ∀ (w : Go.World), Go.Sem.run (cutP Go.Proofs.Try.prog) (Go.isAgg 127) w = Go.Result.ok Bool.true w := by intros; kernel_rfl
@[simp] theorem Tryp.isAgg128 : ∀ (w : Go.World), Go.Sem.run (cutP Go.Proofs.Try.prog) (Go.isAgg 128) w = Go.Result.ok Bool.true w := by intros; kernel_rfl
@[simp] theorem Tryp.isAgg13 : ∀ (w : Go.World), Go.Sem.run (cutP Go.Proofs.Try.prog) (Go.isAgg 13) w = Go.Result.ok Bool.true w := by intros; kernel_rfl
@[simp] theorem Tryp.isAgg14 : ∀ (w : Go.World), Go.Sem.run (cutP Go.Proofs.Try.prog) (Go.isAgg 14) w = Go.Result.ok Bool.true w := by intros; kernel_rfl
@[simp] theorem Tryp.isAgg15 : ∀ (w : Go.World), Go.Sem.run (cutP Go.Proofs.Try.prog) (Go.isAgg 15) w = Go.Result.ok Bool.false w := by intros; kernel_rfl
@[simp] theorem Tryp.isAgg16 : ∀ (w : Go.World), Go.Sem.run (cutP Go.Proofs.Try.prog) (Go.isAgg 16) w = Go.Result.ok Bool.false w := by intros; kernel_rfl
@[simp] theorem Tryp.isAgg17 : ∀ (w : Go.World), Go.Sem.run (cutP Go.Proofs.Try.prog) (Go.isAgg 17) w = Go.Result.ok Bool.false w := by intros; kernel_rfl
@[simp] theorem Tryp.isAgg18 : ∀ (w : Go.World), Go.Sem.run (cutP Go.Proofs.Try.prog) (Go.isAgg 18) w = Go.Result.ok Bool.true w := by intros; kernel_rfl
@[simp] theorem Tryp.isAgg19 : ∀ (w : Go.World), Go.Sem.run (cutP Go.Proofs.Try.prog) (Go.isAgg 19) w = Go.Result.ok Bool.true w := by intros; kernel_rfl
@[simp] theorem Tryp.isAgg2 : ∀ (w : Go.World), Go.Sem.run (cutP Go.Proofs.Try.prog) (Go.isAgg 2) w = Go.Result.ok Bool.false w := by intros; kernel_rfl
@[simp] theorem Tryp.isAgg20 : ∀ (w : Go.World), Go.Sem.run (cutP Go.Proofs.Try.prog) (Go.isAgg 20) w = Go.Result.ok Bool.false w := by intros; kernel_rfl
@[simp] theorem Tryp.isAgg21 : ∀ (w : Go.World), Go.Sem.run (cutP Go.Proofs.Try.prog) (Go.isAgg 21) w = Go.Result.ok Bool.false w := by intros; kernel_rfl
@[simp] theorem Tryp.isAgg22 : ∀ (w : Go.World), Go.Sem.run (cutP Go.Proofs.Try.prog) (Go.isAgg 22) w = Go.Result.ok Bool.false w := by intros; kernel_rfl
@[simp] theorem Tryp.isAgg23 : ∀ (w : Go.World), Go.Sem.run (cutP Go.Proofs.Try.prog) (Go.isAgg 23) w = Go.Result.ok Bool.false w := by intros; kernel_rfl
@[simp] theorem Tryp.isAgg24 : ∀ (w : Go.World), Go.Sem.run (cutP Go.Proofs.Try.prog) (Go.isAgg 24) w = Go.Result.ok Bool.false w := by intros; kernel_rfl
@[simp] theorem Tryp.isAgg25 : ∀ (w : Go.World), Go.Sem.run (cutP Go.Proofs.Try.prog) (Go.isAgg 25) w = Go.Result.ok Bool.false w := by intros; kernel_rfl
@[simp] theorem Tryp.isAgg26 : ∀ (w : Go.World), Go.Sem.run (cutP Go.Proofs.Try.prog) (Go.isAgg 26) w = Go.Result.ok Bool.false w := by intros; kernel_rfl
@[simp] theorem Tryp.isAgg27 : ∀ (w : Go.World), Go.Sem.run (cutP Go.Proofs.Try.prog) (Go.isAgg 27) w = Go.Result.ok Bool.false w := by intros; kernel_rfl
@[simp] theorem Tryp.isAgg28 : ∀ (w : Go.World), Go.Sem.run (cutP Go.Proofs.Try.prog) (Go.isAgg 28) w = Go.Result.ok Bool.false w := by intros; kernel_rfl
@[simp] theorem Tryp.isAgg29 : ∀ (w : Go.World), Go.Sem.run (cutP Go.Proofs.Try.prog) (Go.isAgg 29) w = Go.Result.ok Bool.false w := by intros; kernel_rfl
@[simp] theorem Tryp.isAgg3 : ∀ (w : Go.World), Go.Sem.run (cutP Go.Proofs.Try.prog) (Go.isAgg 3) w = Go.Result.ok Bool.false w := by intros; kernel_rfl
@[simp] theorem Tryp.isAgg30 : ∀ (w : Go.World), Go.Sem.run (cutP Go.Proofs.Try.prog) (Go.isAgg 30) w = Go.Result.ok Bool.false w := by intros; kernel_rfl
@[simp] theorem Tryp.isAgg31 : ∀ (w : Go.World), Go.Sem.run (cutP Go.Proofs.Try.prog) (Go.isAgg 31) w = Go.Result.ok Bool.false w := by intros; kernel_rfl
@[simp] theorem Tryp.isAgg32 : ∀ (w : Go.World), Go.Sem.run (cutP Go.Proofs.Try.prog) (Go.isAgg 32) w = Go.Result.ok Bool.false w := by intros; kernel_rfl
@[simp] theorem Tryp.isAgg33 : ∀ (w : Go.World), Go.Sem.run (cutP Go.Proofs.Try.prog) (Go.isAgg 33) w = Go.Result.ok Bool.false w := by intros; kernel_rfl
@[simp] theorem Tryp.isAgg34 : ∀ (w : Go.World), Go.Sem.run (cutP Go.Proofs.Try.prog) (Go.isAgg 34) w = Go.Result.ok Bool.false w := by intros; kernel_rfl
@[simp] theorem Tryp.isAgg35 : ∀ (w : Go.World), Go.Sem.run (cutP Go.Proofs.Try.prog) (Go.isAgg 35) w = Go.Result.ok Bool.false w := by intros; kernel_rfl
@[simp] theorem Tryp.isAgg36 : ∀ (w : Go.World), Go.Sem.run (cutP Go.Proofs.Try.prog) (Go.isAgg 36) w = Go.Result.ok Bool.false w := by intros; kernel_rfl
@[simp] theorem Tryp.isAgg37 : ∀ (w : Go.World), Go.Sem.run (cutP Go.Proofs.Try.prog) (Go.isAgg 37) w = Go.Result.ok Bool.false w := by intros; kernel_rfl
@[simp] theorem Tryp.isAgg38 : ∀ (w : Go.World), Go.Sem.run (cutP Go.Proofs.Try.prog) (Go.isAgg 38) w = Go.Result.ok Bool.false w := by intros; kernel_rfl
@[simp] theorem Tryp.isAgg39 : ∀ (w : Go.World), Go.Sem.run (cutP Go.Proofs.Try.prog) (Go.isAgg 39) w = Go.Result.ok Bool.false w := by intros; kernel_rfl
@[simp] theorem Tryp.isAgg4 : ∀ (w : Go.World), Go.Sem.run (cutP Go.Proofs.Try.prog) (Go.isAgg 4) w = Go.Result.ok Bool.false w := by intros; kernel_rfl
@[simp] theorem Tryp.isAgg40 : ∀ (w : Go.World), Go.Sem.run (cutP Go.Proofs.Try.prog) (Go.isAgg 40) w = Go.Result.ok Bool.false w := by intros; kernel_rfl
@[simp] theorem Tryp.isAgg41 : ∀ (w : Go.World), Go.Sem.run (cutP Go.Proofs.Try.prog) (Go.isAgg 41) w = Go.Result.ok Bool.false w := by intros; kernel_rfl
@[simp] theorem Tryp.isAgg42 : ∀ (w : Go.World), Go.Sem.run (cutP Go.Proofs.Try.prog) (Go.isAgg 42) w = Go.Result.ok Bool.false w := by intros; kernel_rfl
@[simp] theorem Tryp.isAgg43 : ∀ (w : Go.World), Go.Sem.run (cutP Go.Proofs.Try.prog) (Go.isAgg 43) w = Go.Result.ok Bool.false w := by intros; kernel_rfl
@[simp] theorem Tryp.isAgg44 : ∀ (w : Go.World), Go.Sem.run (cutP Go.Proofs.Try.prog) (Go.isAgg 44) w = Go.Result.ok Bool.false w := by intros; kernel_rfl
@[simp] theorem Tryp.isAgg45 : ∀ (w : Go.World), Go.Sem.run (cutP Go.Proofs.Try.prog) (Go.isAgg 45) w = Go.Result.ok Bool.false w := by intros; kernel_rfl
@[simp] theorem Tryp.isAgg46 : ∀ (w : Go.World), Go.Sem.run (cutP Go.Proofs.Try.prog) (Go.isAgg 46) w = Go.Result.ok Bool.false w := by intros; kernel_rfl
@[simp] theorem Tryp.isAgg47 : ∀ (w : Go.World), Go.Sem.run (cutP Go.Proofs.Try.prog) (Go.isAgg 47) w = Go.Result.ok Bool.false w := by intros; kernel_rfl
@[simp] theorem Tryp.isAgg48 : ∀ (w : Go.World), Go.Sem.run (cutP Go.Proofs.Try.prog) (Go.isAgg 48) w = Go.Result.ok Bool.false w := by intros; kernel_rfl
@[simp] theorem Tryp.isAgg49 : ∀ (w : Go.World), Go.Sem.run (cutP Go.Proofs.Try.prog) (Go.isAgg 49) w = Go.Result.ok Bool.false w := by intros; kernel_rfl
@[simp] theorem Tryp.isAgg5 : ∀ (w : Go.World), Go.Sem.run (cutP Go.Proofs.Try.prog) (Go.isAgg 5) w = Go.Result.ok Bool.false w := by intros; kernel_rfl
@[simp] theorem Tryp.isAgg50 : ∀ (w : Go.World), Go.Sem.run (cutP Go.Proofs.Try.prog) (Go.isAgg 50) w = Go.Result.ok Bool.false w := by intros; kernel_rfl
@[simp] theorem Tryp.isAgg51 : ∀ (w : Go.World), Go.Sem.run (cutP Go.Proofs.Try.prog) (Go.isAgg 51) w = Go.Result.ok Bool.false w := by intros; kernel_rfl
@[simp] theorem Tryp.isAgg52 : ∀ (w : Go.World), Go.Sem.run (cutP Go.Proofs.Try.prog) (Go.isAgg 52) w = Go.Result.ok Bool.false w := by intros; kernel_rfl
@[simp] theorem Tryp.isAgg53 : ∀ (w : Go.World), Go.Sem.run (cutP Go.Proofs.Try.prog) (Go.isAgg 53) w = Go.Result.ok Bool.false w := by intros; kernel_rfl
@[simp] theorem Tryp.isAgg54 : ∀ (w : Go.World), Go.Sem.run (cutP Go.Proofs.Try.prog) (Go.isAgg 54) w = Go.Result.ok Bool.false w := by intros; kernel_rfl
@[simp] theorem Tryp.isAgg55 : ∀ (w : Go.World), Go.Sem.run (cutP Go.Proofs.Try.prog) (Go.isAgg 55) w = Go.Result.ok Bool.false w := by intros; kernel_rfl
@[simp] theorem Tryp.isAgg56 : ∀ (w : Go.World), Go.Sem.run (cutP Go.Proofs.Try.prog) (Go.isAgg 56) w = Go.Result.ok Bool.false w := by intros; kernel_rfl
@[simp] theorem Tryp.isAgg57 : ∀ (w : Go.World), Go.Sem.run (cutP Go.Proofs.Try.prog) (Go.isAgg 57) w = Go.Result.ok Bool.false w := by intros; kernel_rfl
@[simp] theorem Tryp.isAgg58 : ∀ (w : Go.World), Go.Sem.run (cutP Go.Proofs.Try.prog) (Go.isAgg 58) w = Go.Result.ok Bool.false w := by intros; kernel_rfl
@[simp] theorem Tryp.isAgg59 : ∀ (w : Go.World), Go.Sem.run (cutP Go.Proofs.Try.prog) (Go.isAgg 59) w = Go.Result.ok Bool.false w := by intros; kernel_rfl
@[simp] theorem Tryp.isAgg6 : ∀ (w : Go.World), Go.Sem.run (cutP Go.Proofs.Try.prog) (Go.isAgg 6) w = Go.Result.ok Bool.false w := by intros; kernel_rfl
@[simp] theorem Tryp.isAgg60 : ∀ (w : Go.World), Go.Sem.run (cutP Go.Proofs.Try.prog) (Go.isAgg 60) w = Go.Result.ok Bool.false w := by intros; kernel_rfl
@[simp] theorem Tryp.isAgg61 : ∀ (w : Go.World), Go.Sem.run (cutP Go.Proofs.Try.prog) (Go.isAgg 61) w = Go.Result.ok Bool.false w := by intros; kernel_rfl
@[simp] theorem Tryp.isAgg62 : ∀ (w : Go.World), Go.Sem.run (cutP Go.Proofs.Try.prog) (Go.isAgg 62) w = Go.Result.ok Bool.false w := by intros; kernel_rfl
@[simp] theorem Tryp.isAgg63 : ∀ (w : Go.World), Go.Sem.run (cutP Go.Proofs.Try.prog) (Go.isAgg 63) w = Go.Result.ok Bool.false w := by intros; kernel_rfl
@[simp] theorem Tryp.isAgg64 : ∀ (w : Go.World), Go.Sem.run (cutP Go.Proofs.Try.prog) (Go.isAgg 64) w = Go.Result.ok Bool.true w := by intros; kernel_rfl
@[simp] theorem Tryp.isAgg65 : ∀ (w : Go.World), Go.Sem.run (cutP Go.Proofs.Try.prog) (Go.isAgg 65) w = Go.Result.ok Bool.true w := by intros; kernel_rfl
@[simp] theorem Tryp.isAgg66 : ∀ (w : Go.World), Go.Sem.run (cutP Go.Proofs.Try.prog) (Go.isAgg 66) w = Go.Result.ok Bool.false w := by intros; kernel_rfl
@[simp] theorem Tryp.isAgg67 : ∀ (w : Go.World), Go.Sem.run (cutP Go.Proofs.Try.prog) (Go.isAgg 67) w = Go.Result.ok Bool.false w := by intros; kernel_rfl
@[simp] theorem Tryp.isAgg68 : ∀ (w : Go.World), Go.Sem.run (cutP Go.Proofs.Try.prog) (Go.isAgg 68) w = Go.Result.ok Bool.false w := by intros; kernel_rfl
@[simp] theorem Tryp.isAgg69 : ∀ (w : Go.World), Go.Sem.run (cutP Go.Proofs.Try.prog) (Go.isAgg 69) w = Go.Result.ok Bool.false w := by intros; kernel_rfl
@[simp] theorem Tryp.isAgg7 : ∀ (w : Go.World), Go.Sem.run (cutP Go.Proofs.Try.prog) (Go.isAgg 7) w = Go.Result.ok Bool.true w := by intros; kernel_rfl
@[simp] theorem Tryp.isAgg70 : ∀ (w : Go.World), Go.Sem.run (cutP Go.Proofs.Try.prog) (Go.isAgg 70) w = Go.Result.ok Bool.true w := by intros; kernel_rfl
@[simp] theorem Tryp.isAgg71 : ∀ (w : Go.World), Go.Sem.run (cutP Go.Proofs.Try.prog) (Go.isAgg 71) w = Go.Result.ok Bool.true w := by intros; kernel_rfl
@[simp] theorem Tryp.isAgg72 : ∀ (w : Go.World), Go.Sem.run (cutP Go.Proofs.Try.prog) (Go.isAgg 72) w = Go.Result.ok Bool.false w := by intros; kernel_rfl
@[simp] theorem Tryp.isAgg73 : ∀ (w : Go.World), Go.Sem.run (cutP Go.Proofs.Try.prog) (Go.isAgg 73) w = Go.Result.ok Bool.false w := by intros; kernel_rfl
@[simp] theorem Tryp.isAgg74 : ∀ (w : Go.World), Go.Sem.run (cutP Go.Proofs.Try.prog) (Go.isAgg 74) w = Go.Result.ok Bool.false w := by intros; kernel_rfl
@[simp] theorem Tryp.isAgg75 : ∀ (w : Go.World), Go.Sem.run (cutP Go.Proofs.Try.prog) (Go.isAgg 75) w = Go.Result.ok Bool.false w := by intros; kernel_rfl
@[simp] theorem Tryp.isAgg76 : ∀ (w : Go.World), Go.Sem.run (cutP Go.Proofs.Try.prog) (Go.isAgg 76) w = Go.Result.ok Bool.false w := by intros; kernel_rfl
@[simp] theorem Tryp.isAgg77 : ∀ (w : Go.World), Go.Sem.run (cutP Go.Proofs.Try.prog) (Go.isAgg 77) w = Go.Result.ok Bool.false w := by intros; kernel_rfl
@[simp] theorem Tryp.isAgg78 : ∀ (w : Go.World), Go.Sem.run (cutP Go.Proofs.Try.prog) (Go.isAgg 78) w = Go.Result.ok Bool.false w := by intros; kernel_rfl
@[simp] theorem Tryp.isAgg79 : ∀ (w : Go.World), Go.Sem.run (cutP Go.Proofs.Try.prog) (Go.isAgg 79) w = Go.Result.ok Bool.false w := by intros; kernel_rfl
@[simp] theorem Tryp.isAgg8 : ∀ (w : Go.World), Go.Sem.run (cutP Go.Proofs.Try.prog) (Go.isAgg 8) w = Go.Result.ok Bool.true w := by intros; kernel_rfl
@[simp] theorem Tryp.isAgg80 : ∀ (w : Go.World), Go.Sem.run (cutP Go.Proofs.Try.prog) (Go.isAgg 80) w = Go.Result.ok Bool.true w := by intros; kernel_rfl
@[simp] theorem Tryp.isAgg81 : ∀ (w : Go.World), Go.Sem.run (cutP Go.Proofs.Try.prog) (Go.isAgg 81) w = Go.Result.ok Bool.true w := by intros; kernel_rfl
@[simp] theorem Tryp.isAgg82 : ∀ (w : Go.World), Go.Sem.run (cutP Go.Proofs.Try.prog) (Go.isAgg 82) w = Go.Result.ok Bool.true w := by intros; kernel_rfl
@[simp] theorem Tryp.isAgg83 : ∀ (w : Go.World), Go.Sem.run (cutP Go.Proofs.Try.prog) (Go.isAgg 83) w = Go.Result.ok Bool.true w := by intros; kernel_rfl
@[simp] theorem Tryp.isAgg84 : ∀ (w : Go.World), Go.Sem.run (cutP Go.Proofs.Try.prog) (Go.isAgg 84) w = Go.Result.ok Bool.false w := by intros; kernel_rfl
@[simp] theorem Tryp.isAgg85 : ∀ (w : Go.World), Go.Sem.run (cutP Go.Proofs.Try.prog) (Go.isAgg 85) w = Go.Result.ok Bool.true w := by intros; kernel_rfl
@[simp] theorem Tryp.isAgg86 : ∀ (w : Go.World), Go.Sem.run (cutP Go.Proofs.Try.prog) (Go.isAgg 86) w = Go.Result.ok Bool.true w := by intros; kernel_rfl
@[simp] theorem Tryp.isAgg87 : ∀ (w : Go.World), Go.Sem.run (cutP Go.Proofs.Try.prog) (Go.isAgg 87) w = Go.Result.ok Bool.false w := by intros; kernel_rfl
@[simp] theorem Tryp.isAgg88 : ∀ (w : Go.World), Go.Sem.run (cutP Go.Proofs.Try.prog) (Go.isAgg 88) w = Go.Result.ok Bool.true w := by intros; kernel_rfl
@[simp] theorem Tryp.isAgg89 : ∀ (w : Go.World), Go.Sem.run (cutP Go.Proofs.Try.prog) (Go.isAgg 89) w = Go.Result.ok Bool.true w := by intros; kernel_rfl
@[simp] theorem Tryp.isAgg9 : ∀ (w : Go.World), Go.Sem.run (cutP Go.Proofs.Try.prog) (Go.isAgg 9) w = Go.Result.ok Bool.false w := by intros; kernel_rfl
@[simp] theorem Tryp.isAgg90 : ∀ (w : Go.World), Go.Sem.run (cutP Go.Proofs.Try.prog) (Go.isAgg 90) w = Go.Result.ok Bool.false w := by intros; kernel_rfl
@[simp] theorem Tryp.isAgg91 : ∀ (w : Go.World), Go.Sem.run (cutP Go.Proofs.Try.prog) (Go.isAgg 91) w = Go.Result.ok Bool.false w := by intros; kernel_rfl
@[simp] theorem Tryp.isAgg92 : ∀ (w : Go.World), Go.Sem.run (cutP Go.Proofs.Try.prog) (Go.isAgg 92) w = Go.Result.ok Bool.false w := by intros; kernel_rfl
@[simp] theorem Tryp.isAgg93 : ∀ (w : Go.World), Go.Sem.run (cutP Go.Proofs.Try.prog) (Go.isAgg 93) w = Go.Result.ok Bool.false w := by intros; kernel_rfl
@[simp] theorem Tryp.isAgg94 : ∀ (w : Go.World), Go.Sem.run (cutP Go.Proofs.Try.prog) (Go.isAgg 94) w = Go.Result.ok Bool.false w := by intros; kernel_rfl
@[simp] theorem Tryp.isAgg95 : ∀ (w : Go.World), Go.Sem.run (cutP Go.Proofs.Try.prog) (Go.isAgg 95) w = Go.Result.ok Bool.false w := by intros; kernel_rfl
@[simp] theorem Tryp.isAgg96 : ∀ (w : Go.World), Go.Sem.run (cutP Go.Proofs.Try.prog) (Go.isAgg 96) w = Go.Result.ok Bool.false w := by intros; kernel_rfl
@[simp] theorem Tryp.isAgg97 : ∀ (w : Go.World), Go.Sem.run (cutP Go.Proofs.Try.prog) (Go.isAgg 97) w = Go.Result.ok Bool.false w := by intros; kernel_rfl
@[simp] theorem Tryp.isAgg98 : ∀ (w : Go.World), Go.Sem.run (cutP Go.Proofs.Try.prog) (Go.isAgg 98) w = Go.Result.ok Bool.false w := by intros; kernel_rfl
@[simp] theorem Tryp.isAgg99 : ∀ (w : Go.World), Go.Sem.run (cutP Go.Proofs.Try.prog) (Go.isAgg 99) w = Go.Result.ok Bool.false w := by intros; kernel_rfl
theorem Tryp.main_eq : (cutP Go.Proofs.Try.prog).main = 0 := by kernel_rfl
theorem Tryp.nfree10 : Go.Proofs.Try.f10.nfree = 0 := Go.Proofs.Try.nfree10
theorem Tryp.nfree100 : Go.Proofs.Try.f100.nfree = 0 := Go.Proofs.Try.nfree100
theorem Tryp.nfree11 : Go.Proofs.Try.f11.nfree = 0 := Go.Proofs.Try.nfree11
theorem Tryp.nfree12 : Go.Proofs.Try.f12.nfree = 0 := Go.Proofs.Try.nfree12
theorem Tryp.nfree13 : Go.Proofs.Try.f13.nfree = 0 := Go.Proofs.Try.nfree13
theorem Tryp.nfree14 : Go.Proofs.Try.f14.nfree = 0 := Go.Proofs.Try.nfree14
theorem Tryp.nfree15 : Go.Proofs.Try.f15.nfree = 0 := Go.Proofs.Try.nfree15
theorem Tryp.nfree16 : Go.Proofs.Try.f16.nfree = 0 := Go.Proofs.Try.nfree16
theorem Tryp.nfree17 : Go.Proofs.Try.f17.nfree = 0 := Go.Proofs.Try.nfree17
theorem Tryp.nfree18 : Go.Proofs.Try.f18.nfree = 0 := Go.Proofs.Try.nfree18
theorem Tryp.nfree19 : Go.Proofs.Try.f19.nfree = 0 := Go.Proofs.Try.nfree19
theorem Tryp.nfree20 : Go.Proofs.Try.f20.nfree = 0 := Go.Proofs.Try.nfree20
theorem Tryp.nfree21 : Go.Proofs.Try.f21.nfree = 0 := Go.Proofs.Try.nfree21
theorem Tryp.nfree22 : Go.Proofs.Try.f22.nfree = 0 := Go.Proofs.Try.nfree22
theorem Tryp.nfree23 : Go.Proofs.Try.f23.nfree = 0 := Go.Proofs.Try.nfree23
theorem Tryp.nfree24 : Go.Proofs.Try.f24.nfree = 0 := Go.Proofs.Try.nfree24
theorem Tryp.nfree25 : Go.Proofs.Try.f25.nfree = 0 := Go.Proofs.Try.nfree25
theorem Tryp.nfree26 : Go.Proofs.Try.f26.nfree = 0 := Go.Proofs.Try.nfree26
theorem Tryp.nfree27 : Go.Proofs.Try.f27.nfree = 0 := Go.Proofs.Try.nfree27
theorem Tryp.nfree28 : Go.Proofs.Try.f28.nfree = 0 := Go.Proofs.Try.nfree28
theorem Tryp.nfree29 : Go.Proofs.Try.f29.nfree = 0 := Go.Proofs.Try.nfree29
theorem Tryp.nfree3 : Go.Proofs.Try.f3.nfree = 0 := Go.Proofs.Try.nfree3
theorem Tryp.nfree30 : Go.Proofs.Try.f30.nfree = 0 := Go.Proofs.Try.nfree30
theorem Tryp.nfree31 : Go.Proofs.Try.f31.nfree = 0 := Go.Proofs.Try.nfree31
theorem Tryp.nfree32 : Go.Proofs.Try.f32.nfree = 0 := Go.Proofs.Try.nfree32
theorem Tryp.nfree33 : Go.Proofs.Try.f33.nfree = 0 := Go.Proofs.Try.nfree33
theorem Tryp.nfree35 : Go.Proofs.Try.f35.nfree = 0 := Go.Proofs.Try.nfree35
theorem Tryp.nfree36 : Go.Proofs.Try.f36.nfree = 0 := Go.Proofs.Try.nfree36
theorem Tryp.nfree37 : Go.Proofs.Try.f37.nfree = 0 := Go.Proofs.Try.nfree37
theorem Tryp.nfree38 : Go.Proofs.Try.f38.nfree = 0 := Go.Proofs.Try.nfree38
theorem Tryp.nfree39 : Go.Proofs.Try.f39.nfree = 0 := Go.Proofs.Try.nfree39
theorem Tryp.nfree4 : Go.Proofs.Try.f4.nfree = 0 := Go.Proofs.Try.nfree4
theorem Tryp.nfree40 : Go.Proofs.Try.f40.nfree = 0 := Go.Proofs.Try.nfree40
theorem Tryp.nfree41 : Go.Proofs.Try.f41.nfree = 0 := Go.Proofs.Try.nfree41
theorem Tryp.nfree42 : Go.Proofs.Try.f42.nfree = 0 := Go.Proofs.Try.nfree42
theorem Tryp.nfree43 : Go.Proofs.Try.f43.nfree = 0 := Go.Proofs.Try.nfree43
theorem Tryp.nfree44 : Go.Proofs.Try.f44.nfree = 0 := Go.Proofs.Try.nfree44
theorem Tryp.nfree45 : Go.Proofs.Try.f45.nfree = 0 := Go.Proofs.Try.nfree45
theorem Tryp.nfree46 : Go.Proofs.Try.f46.nfree = 0 := Go.Proofs.Try.nfree46
theorem Tryp.nfree47 : Go.Proofs.Try.f47.nfree = 0 := Go.Proofs.Try.nfree47
theorem Tryp.nfree48 : Go.Proofs.Try.f48.nfree = 0 := Go.Proofs.Try.nfree48
theorem Tryp.nfree49 : Go.Proofs.Try.f49.nfree = 0 := Go.Proofs.Try.nfree49
theorem Tryp.nfree5 : Go.Proofs.Try.f5.nfree = 0 := Go.Proofs.Try.nfree5
theorem Tryp.nfree50 : Go.Proofs.Try.f50.nfree = 0 := Go.Proofs.Try.nfree50
theorem Tryp.nfree51 : Go.Proofs.Try.f51.nfree = 0 := Go.Proofs.Try.nfree51
theorem Tryp.nfree52 : Go.Proofs.Try.f52.nfree = 0 := Go.Proofs.Try.nfree52
theorem Tryp.nfree53 : Go.Proofs.Try.f53.nfree = 0 := Go.Proofs.Try.nfree53
theorem Tryp.nfree55 : Go.Proofs.Try.f55.nfree = 1 := Go.Proofs.Try.nfree55
theorem Tryp.nfree56 : Go.Proofs.Try.f56.nfree = 0 := Go.Proofs.Try.nfree56
theorem Tryp.nfree57 : Go.Proofs.Try.f57.nfree = 0 := Go.Proofs.Try.nfree57
theorem Tryp.nfree58 : Go.Proofs.Try.f58.nfree = 0 := Go.Proofs.Try.nfree58
theorem Tryp.nfree59 : Go.Proofs.Try.f59.nfree = 0 := Go.Proofs.Try.nfree59
theorem Tryp.nfree6 : Go.Proofs.Try.f6.nfree = 0 := Go.Proofs.Try.nfree6
theorem Tryp.nfree60 : Go.Proofs.Try.f60.nfree = 0 := Go.Proofs.Try.nfree60
theorem Tryp.nfree61 : Go.Proofs.Try.f61.nfree = 0 := Go.Proofs.Try.nfree61
theorem Tryp.nfree62 : Go.Proofs.Try.f62.nfree = 0 := Go.Proofs.Try.nfree62
theorem Tryp.nfree63 : Go.Proofs.Try.f63.nfree = 1 := Go.Proofs.Try.nfree63
theorem Tryp.nfree64 : Go.Proofs.Try.f64.nfree = 0 := Go.Proofs.Try.nfree64
theorem Tryp.nfree65 : Go.Proofs.Try.f65.nfree = 0 := Go.Proofs.Try.nfree65
theorem Tryp.nfree66 : Go.Proofs.Try.f66.nfree = 0 := Go.Proofs.Try.nfree66
theorem Tryp.nfree67 : Go.Proofs.Try.f67.nfree = 1 := Go.Proofs.Try.nfree67
theorem Tryp.nfree68 : Go.Proofs.Try.f68.nfree = 0 := Go.Proofs.Try.nfree68
theorem Tryp.nfree69 : Go.Proofs.Try.f69.nfree = 0 := Go.Proofs.Try.nfree69
theorem Tryp.nfree7 : Go.Proofs.Try.f7.nfree = 0 := Go.Proofs.Try.nfree7
theorem Tryp.nfree70 : Go.Proofs.Try.f70.nfree = 0 := Go.Proofs.Try.nfree70
theorem Tryp.nfree71 : Go.Proofs.Try.f71.nfree = 0 := Go.Proofs.Try.nfree71
theorem Tryp.nfree76 : Go.Proofs.Try.f76.nfree = 0 := Go.Proofs.Try.nfree76
theorem Tryp.nfree77 : Go.Proofs.Try.f77.nfree = 0 := Go.Proofs.Try.nfree77
theorem Tryp.nfree78 : Go.Proofs.Try.f78.nfree = 0 := Go.Proofs.Try.nfree78
theorem Tryp.nfree79 : Go.Proofs.Try.f79.nfree = 0 := Go.Proofs.Try.nfree79
theorem Tryp.nfree8 : Go.Proofs.Try.f8.nfree = 0 := Go.Proofs.Try.nfree8
theorem Tryp.nfree80 : Go.Proofs.Try.f80.nfree = 0 := Go.Proofs.Try.nfree80
theorem Tryp.nfree81 : Go.Proofs.Try.f81.nfree = 0 := Go.Proofs.Try.nfree81
theorem Tryp.nfree9 : Go.Proofs.Try.f9.nfree = 0 := Go.Proofs.Try.nfree9
theorem Tryp.ntmps10 : Go.Proofs.Try.f10.ntmps = 28 := Go.Proofs.Try.ntmps10
theorem Tryp.ntmps100 : Go.Proofs.Try.f100.ntmps = 21 := Go.Proofs.Try.ntmps100
theorem Tryp.ntmps11 : Go.Proofs.Try.f11.ntmps = 46 := Go.Proofs.Try.ntmps11
theorem Tryp.ntmps12 : Go.Proofs.Try.f12.ntmps = 26 := Go.Proofs.Try.ntmps12
theorem Tryp.ntmps13 : Go.Proofs.Try.f13.ntmps = 23 := Go.Proofs.Try.ntmps13
theorem Tryp.ntmps14 : Go.Proofs.Try.f14.ntmps = 21 := Go.Proofs.Try.ntmps14
theorem Tryp.ntmps15 : Go.Proofs.Try.f15.ntmps = 26 := Go.Proofs.Try.ntmps15
theorem Tryp.ntmps16 : Go.Proofs.Try.f16.ntmps = 13 := Go.Proofs.Try.ntmps16
theorem Tryp.ntmps17 : Go.Proofs.Try.f17.ntmps = 5 := Go.Proofs.Try.ntmps17
theorem Tryp.ntmps18 : Go.Proofs.Try.f18.ntmps = 33 := Go.Proofs.Try.ntmps18
theorem Tryp.ntmps19 : Go.Proofs.Try.f19.ntmps = 31 := Go.Proofs.Try.ntmps19
theorem Tryp.ntmps20 : Go.Proofs.Try.f20.ntmps = 13 := Go.Proofs.Try.ntmps20
theorem Tryp.ntmps21 : Go.Proofs.Try.f21.ntmps = 27 := Go.Proofs.Try.ntmps21
theorem Tryp.ntmps22 : Go.Proofs.Try.f22.ntmps = 22 := Go.Proofs.Try.ntmps22
theorem Tryp.ntmps23 : Go.Proofs.Try.f23.ntmps = 23 := Go.Proofs.Try.ntmps23
theorem Tryp.ntmps24 : Go.Proofs.Try.f24.ntmps = 26 := Go.Proofs.Try.ntmps24
theorem Tryp.ntmps25 : Go.Proofs.Try.f25.ntmps = 27 := Go.Proofs.Try.ntmps25
theorem Tryp.ntmps26 : Go.Proofs.Try.f26.ntmps = 19 := Go.Proofs.Try.ntmps26
theorem Tryp.ntmps27 : Go.Proofs.Try.f27.ntmps = 19 := Go.Proofs.Try.ntmps27
theorem Tryp.ntmps28 : Go.Proofs.Try.f28.ntmps = 21 := Go.Proofs.Try.ntmps28
theorem Tryp.ntmps29 : Go.Proofs.Try.f29.ntmps = 6 := Go.Proofs.Try.ntmps29
theorem Tryp.ntmps3 : Go.Proofs.Try.f3.ntmps = 78 := Go.Proofs.Try.ntmps3
theorem Tryp.ntmps30 : Go.Proofs.Try.f30.ntmps = 31 := Go.Proofs.Try.ntmps30
theorem Tryp.ntmps31 : Go.Proofs.Try.f31.ntmps = 21 := Go.Proofs.Try.ntmps31
theorem Tryp.ntmps32 : Go.Proofs.Try.f32.ntmps = 10 := Go.Proofs.Try.ntmps32
theorem Tryp.ntmps33 : Go.Proofs.Try.f33.ntmps = 19 := Go.Proofs.Try.ntmps33
theorem Tryp.ntmps35 : Go.Proofs.Try.f35.ntmps = 39 := Go.Proofs.Try.ntmps35
theorem Tryp.ntmps36 : Go.Proofs.Try.f36.ntmps = 24 := Go.Proofs.Try.ntmps36
theorem Tryp.ntmps37 : Go.Proofs.Try.f37.ntmps = 22 := Go.Proofs.Try.ntmps37
theorem Tryp.ntmps38 : Go.Proofs.Try.f38.ntmps = 18 := Go.Proofs.Try.ntmps38
theorem Tryp.ntmps39 : Go.Proofs.Try.f39.ntmps = 11 := Go.Proofs.Try.ntmps39
theorem Tryp.ntmps4 : Go.Proofs.Try.f4.ntmps = 76 := Go.Proofs.Try.ntmps4
theorem Tryp.ntmps40 : Go.Proofs.Try.f40.ntmps = 36 := Go.Proofs.Try.ntmps40
theorem Tryp.ntmps41 : Go.Proofs.Try.f41.ntmps = 41 := Go.Proofs.Try.ntmps41
theorem Tryp.ntmps42 : Go.Proofs.Try.f42.ntmps = 99 := Go.Proofs.Try.ntmps42
theorem Tryp.ntmps43 : Go.Proofs.Try.f43.ntmps = 28 := Go.Proofs.Try.ntmps43
theorem Tryp.ntmps44 : Go.Proofs.Try.f44.ntmps = 28 := Go.Proofs.Try.ntmps44
theorem Tryp.ntmps45 : Go.Proofs.Try.f45.ntmps = 49 := Go.Proofs.Try.ntmps45
theorem Tryp.ntmps46 : Go.Proofs.Try.f46.ntmps = 39 := Go.Proofs.Try.ntmps46
theorem Tryp.ntmps47 : Go.Proofs.Try.f47.ntmps = 35 := Go.Proofs.Try.ntmps47
theorem Tryp.ntmps48 : Go.Proofs.Try.f48.ntmps = 26 := Go.Proofs.Try.ntmps48
theorem Tryp.ntmps49 : Go.Proofs.Try.f49.ntmps = 12 := Go.Proofs.Try.ntmps49
theorem Tryp.ntmps5 : Go.Proofs.Try.f5.ntmps = 58 := Go.Proofs.Try.ntmps5
theorem Tryp.ntmps50 : Go.Proofs.Try.f50.ntmps = 9 := Go.Proofs.Try.ntmps50
theorem Tryp.ntmps51 : Go.Proofs.Try.f51.ntmps = 19 := Go.Proofs.Try.ntmps51
theorem Tryp.ntmps52 : Go.Proofs.Try.f52.ntmps = 4 := Go.Proofs.Try.ntmps52
theorem Tryp.ntmps53 : Go.Proofs.Try.f53.ntmps = 7 := Go.Proofs.Try.ntmps53
theorem Tryp.ntmps55 : Go.Proofs.Try.f55.ntmps = 12 := Go.Proofs.Try.ntmps55
theorem Tryp.ntmps56 : Go.Proofs.Try.f56.ntmps = 15 := Go.Proofs.Try.ntmps56
theorem Tryp.ntmps57 : Go.Proofs.Try.f57.ntmps = 45 := Go.Proofs.Try.ntmps57
theorem Tryp.ntmps58 : Go.Proofs.Try.f58.ntmps = 40 := Go.Proofs.Try.ntmps58
theorem Tryp.ntmps59 : Go.Proofs.Try.f59.ntmps = 41 := Go.Proofs.Try.ntmps59
theorem Tryp.ntmps6 : Go.Proofs.Try.f6.ntmps = 56 := Go.Proofs.Try.ntmps6
theorem Tryp.ntmps60 : Go.Proofs.Try.f60.ntmps = 29 := Go.Proofs.Try.ntmps60
theorem Tryp.ntmps61 : Go.Proofs.Try.f61.ntmps = 19 := Go.Proofs.Try.ntmps61
theorem Tryp.ntmps62 : Go.Proofs.Try.f62.ntmps = 28 := Go.Proofs.Try.ntmps62
theorem Tryp.ntmps63 : Go.Proofs.Try.f63.ntmps = 19 := Go.Proofs.Try.ntmps63
theorem Tryp.ntmps64 : Go.Proofs.Try.f64.ntmps = 9 := Go.Proofs.Try.ntmps64
theorem Tryp.ntmps65 : Go.Proofs.Try.f65.ntmps = 18 := Go.Proofs.Try.ntmps65
theorem Tryp.ntmps66 : Go.Proofs.Try.f66.ntmps = 43 := Go.Proofs.Try.ntmps66
theorem Tryp.ntmps67 : Go.Proofs.Try.f67.ntmps = 18 := Go.Proofs.Try.ntmps67
theorem Tryp.ntmps68 : Go.Proofs.Try.f68.ntmps = 6 := Go.Proofs.Try.ntmps68
theorem Tryp.ntmps69 : Go.Proofs.Try.f69.ntmps = 32 := Go.Proofs.Try.ntmps69
theorem Tryp.ntmps7 : Go.Proofs.Try.f7.ntmps = 96 := Go.Proofs.Try.ntmps7
theorem Tryp.ntmps70 : Go.Proofs.Try.f70.ntmps = 8 := Go.Proofs.Try.ntmps70
theorem Tryp.ntmps71 : Go.Proofs.Try.f71.ntmps = 9 := Go.Proofs.Try.ntmps71
theorem Tryp.ntmps76 : Go.Proofs.Try.f76.ntmps = 19 := Go.Proofs.Try.ntmps76
theorem Tryp.ntmps77 : Go.Proofs.Try.f77.ntmps = 9 := Go.Proofs.Try.ntmps77
theorem Tryp.ntmps78 : Go.Proofs.Try.f78.ntmps = 15 := Go.Proofs.Try.ntmps78
theorem Tryp.ntmps79 : Go.Proofs.Try.f79.ntmps = 6 := Go.Proofs.Try.ntmps79
theorem Tryp.ntmps8 : Go.Proofs.Try.f8.ntmps = 96 := Go.Proofs.Try.ntmps8
theorem Tryp.ntmps80 : Go.Proofs.Try.f80.ntmps = 21 := Go.Proofs.Try.ntmps80
theorem Tryp.ntmps81 : Go.Proofs.Try.f81.ntmps = 10 := Go.Proofs.Try.ntmps81
theorem Tryp.ntmps9 : Go.Proofs.Try.f9.ntmps = 5 := Go.Proofs.Try.ntmps9
theorem Tryp.params10 : Go.Proofs.Try.f10.params = #[23] := Go.Proofs.Try.params10
theorem Tryp.params100 : Go.Proofs.Try.f100.params = #[65, 3] := Go.Proofs.Try.params100
theorem Tryp.params11 : Go.Proofs.Try.f11.params = #[23] := Go.Proofs.Try.params11
theorem Tryp.params12 : Go.Proofs.Try.f12.params = #[25, 25] := Go.Proofs.Try.params12
theorem Tryp.params13 : Go.Proofs.Try.f13.params = #[25, 23] := Go.Proofs.Try.params13
theorem Tryp.params14 : Go.Proofs.Try.f14.params = #[22] := Go.Proofs.Try.params14
theorem Tryp.params15 : Go.Proofs.Try.f15.params = #[25, 23] := Go.Proofs.Try.params15
theorem Tryp.params16 : Go.Proofs.Try.f16.params = #[25, 25] := Go.Proofs.Try.params16
theorem Tryp.params17 : Go.Proofs.Try.f17.params = #[22] := Go.Proofs.Try.params17
theorem Tryp.params18 : Go.Proofs.Try.f18.params = #[23] := Go.Proofs.Try.params18
theorem Tryp.params19 : Go.Proofs.Try.f19.params = #[23] := Go.Proofs.Try.params19
theorem Tryp.params20 : Go.Proofs.Try.f20.params = #[25, 25] := Go.Proofs.Try.params20
theorem Tryp.params21 : Go.Proofs.Try.f21.params = #[23, 3] := Go.Proofs.Try.params21
theorem Tryp.params22 : Go.Proofs.Try.f22.params = #[25] := Go.Proofs.Try.params22
theorem Tryp.params23 : Go.Proofs.Try.f23.params = #[23] := Go.Proofs.Try.params23
theorem Tryp.params24 : Go.Proofs.Try.f24.params = #[25, 25] := Go.Proofs.Try.params24
theorem Tryp.params25 : Go.Proofs.Try.f25.params = #[23, 23] := Go.Proofs.Try.params25
theorem Tryp.params26 : Go.Proofs.Try.f26.params = #[23, 3] := Go.Proofs.Try.params26
theorem Tryp.params27 : Go.Proofs.Try.f27.params = #[25, 3] := Go.Proofs.Try.params27
theorem Tryp.params28 : Go.Proofs.Try.f28.params = #[25, 3] := Go.Proofs.Try.params28
theorem Tryp.params29 : Go.Proofs.Try.f29.params = #[22] := Go.Proofs.Try.params29
theorem Tryp.params3 : Go.Proofs.Try.f3.params = #[22] := Go.Proofs.Try.params3
theorem Tryp.params30 : Go.Proofs.Try.f30.params = #[23] := Go.Proofs.Try.params30
theorem Tryp.params31 : Go.Proofs.Try.f31.params = #[3] := Go.Proofs.Try.params31
theorem Tryp.params32 : Go.Proofs.Try.f32.params = #[23, 23] := Go.Proofs.Try.params32
theorem Tryp.params33 : Go.Proofs.Try.f33.params = #[25, 3] := Go.Proofs.Try.params33
theorem Tryp.params35 : Go.Proofs.Try.f35.params = #[23] := Go.Proofs.Try.params35
theorem Tryp.params36 : Go.Proofs.Try.f36.params = #[3] := Go.Proofs.Try.params36
theorem Tryp.params37 : Go.Proofs.Try.f37.params = #[25, 23] := Go.Proofs.Try.params37
theorem Tryp.params38 : Go.Proofs.Try.f38.params = #[25, 25] := Go.Proofs.Try.params38
theorem Tryp.params39 : Go.Proofs.Try.f39.params = #[22] := Go.Proofs.Try.params39
theorem Tryp.params4 : Go.Proofs.Try.f4.params = #[22] := Go.Proofs.Try.params4
theorem Tryp.params40 : Go.Proofs.Try.f40.params = #[47] := Go.Proofs.Try.params40
theorem Tryp.params41 : Go.Proofs.Try.f41.params = #[47, 3] := Go.Proofs.Try.params41
theorem Tryp.params42 : Go.Proofs.Try.f42.params = #[47, 3] := Go.Proofs.Try.params42
theorem Tryp.params43 : Go.Proofs.Try.f43.params = #[25] := Go.Proofs.Try.params43
theorem Tryp.params44 : Go.Proofs.Try.f44.params = #[25, 25] := Go.Proofs.Try.params44
theorem Tryp.params45 : Go.Proofs.Try.f45.params = #[23, 3] := Go.Proofs.Try.params45
theorem Tryp.params46 : Go.Proofs.Try.f46.params = #[25] := Go.Proofs.Try.params46
theorem Tryp.params47 : Go.Proofs.Try.f47.params = #[25, 25] := Go.Proofs.Try.params47
theorem Tryp.params48 : Go.Proofs.Try.f48.params = #[25, 25] := Go.Proofs.Try.params48
theorem Tryp.params49 : Go.Proofs.Try.f49.params = #[25, 3] := Go.Proofs.Try.params49
theorem Tryp.params5 : Go.Proofs.Try.f5.params = #[22] := Go.Proofs.Try.params5
theorem Tryp.params50 : Go.Proofs.Try.f50.params = #[3] := Go.Proofs.Try.params50
theorem Tryp.params51 : Go.Proofs.Try.f51.params = #[3, 3] := Go.Proofs.Try.params51
theorem Tryp.params52 : Go.Proofs.Try.f52.params = #[3] := Go.Proofs.Try.params52
theorem Tryp.params53 : Go.Proofs.Try.f53.params = #[65] := Go.Proofs.Try.params53
theorem Tryp.params55 : Go.Proofs.Try.f55.params = #[25, 3] := Go.Proofs.Try.params55
theorem Tryp.params56 : Go.Proofs.Try.f56.params = #[3, 3, 3] := Go.Proofs.Try.params56
theorem Tryp.params57 : Go.Proofs.Try.f57.params = #[3] := Go.Proofs.Try.params57
theorem Tryp.params58 : Go.Proofs.Try.f58.params = #[3, 3] := Go.Proofs.Try.params58
theorem Tryp.params59 : Go.Proofs.Try.f59.params = #[25, 25] := Go.Proofs.Try.params59
theorem Tryp.params6 : Go.Proofs.Try.f6.params = #[25, 23] := Go.Proofs.Try.params6
theorem Tryp.params60 : Go.Proofs.Try.f60.params = #[25] := Go.Proofs.Try.params60
theorem Tryp.params61 : Go.Proofs.Try.f61.params = #[25] := Go.Proofs.Try.params61
theorem Tryp.params62 : Go.Proofs.Try.f62.params = #[25, 25, 3, 3] := Go.Proofs.Try.params62
theorem Tryp.params63 : Go.Proofs.Try.f63.params = #[25, 3] := Go.Proofs.Try.params63
theorem Tryp.params64 : Go.Proofs.Try.f64.params = #[57, 3] := Go.Proofs.Try.params64
theorem Tryp.params65 : Go.Proofs.Try.f65.params = #[25, 25] := Go.Proofs.Try.params65
theorem Tryp.params66 : Go.Proofs.Try.f66.params = #[25] := Go.Proofs.Try.params66
theorem Tryp.params67 : Go.Proofs.Try.f67.params = #[74] := Go.Proofs.Try.params67
theorem Tryp.params68 : Go.Proofs.Try.f68.params = #[3] := Go.Proofs.Try.params68
theorem Tryp.params69 : Go.Proofs.Try.f69.params = #[65] := Go.Proofs.Try.params69
theorem Tryp.params7 : Go.Proofs.Try.f7.params = #[23] := Go.Proofs.Try.params7
theorem Tryp.params70 : Go.Proofs.Try.f70.params = #[25] := Go.Proofs.Try.params70
theorem Tryp.params71 : Go.Proofs.Try.f71.params = #[65] := Go.Proofs.Try.params71
theorem Tryp.params76 : Go.Proofs.Try.f76.params = #[3, 3] := Go.Proofs.Try.params76
theorem Tryp.params77 : Go.Proofs.Try.f77.params = #[3] := Go.Proofs.Try.params77
theorem Tryp.params78 : Go.Proofs.Try.f78.params = #[25] := Go.Proofs.Try.params78
theorem Tryp.params79 : Go.Proofs.Try.f79.params = #[3] := Go.Proofs.Try.params79
theorem Tryp.params8 : Go.Proofs.Try.f8.params = #[23] := Go.Proofs.Try.params8
theorem Tryp.params80 : Go.Proofs.Try.f80.params = #[65, 3] := Go.Proofs.Try.params80
theorem Tryp.params81 : Go.Proofs.Try.f81.params = #[65, 3] := Go.Proofs.Try.params81
theorem Tryp.params9 : Go.Proofs.Try.f9.params = #[22] := Go.Proofs.Try.params9
theorem Tryp.results10 : Go.Proofs.Try.f10.results = #[Go.ResultVar.tmp 2, Go.ResultVar.tmp 3] := Go.Proofs.Try.results10
theorem Tryp.results100 : Go.Proofs.Try.f100.results = #[Go.ResultVar.cell 4 65] := Go.Proofs.Try.results100
theorem Tryp.results11 : Go.Proofs.Try.f11.results = #[Go.ResultVar.tmp 2, Go.ResultVar.tmp 3] := Go.Proofs.Try.results11
theorem Tryp.results12 : Go.Proofs.Try.f12.results = #[Go.ResultVar.tmp 4] := Go.Proofs.Try.results12
theorem Tryp.results13 : Go.Proofs.Try.f13.results = #[Go.ResultVar.tmp 4, Go.ResultVar.tmp 5] := Go.Proofs.Try.results13
theorem Tryp.results14 : Go.Proofs.Try.f14.results = #[Go.ResultVar.tmp 2, Go.ResultVar.tmp 3] := Go.Proofs.Try.results14
theorem Tryp.results15 : Go.Proofs.Try.f15.results = #[Go.ResultVar.tmp 4, Go.ResultVar.tmp 5] := Go.Proofs.Try.results15
theorem Tryp.results16 : Go.Proofs.Try.f16.results = #[Go.ResultVar.tmp 4, Go.ResultVar.tmp 5] := Go.Proofs.Try.results16
theorem Tryp.results17 : Go.Proofs.Try.f17.results = #[Go.ResultVar.tmp 2] := Go.Proofs.Try.results17
theorem Tryp.results18 : Go.Proofs.Try.f18.results = #[Go.ResultVar.tmp 2, Go.ResultVar.tmp 3] := Go.Proofs.Try.results18
theorem Tryp.results19 : Go.Proofs.Try.f19.results = #[Go.ResultVar.tmp 2, Go.ResultVar.tmp 3] := Go.Proofs.Try.results19
theorem Tryp.results20 : Go.Proofs.Try.f20.results = #[Go.ResultVar.tmp 4] := Go.Proofs.Try.results20
theorem Tryp.results21 : Go.Proofs.Try.f21.results = #[Go.ResultVar.tmp 4] := Go.Proofs.Try.results21
theorem Tryp.results22 : Go.Proofs.Try.f22.results = #[Go.ResultVar.tmp 2] := Go.Proofs.Try.results22
theorem Tryp.results23 : Go.Proofs.Try.f23.results = #[Go.ResultVar.tmp 2] := Go.Proofs.Try.results23
theorem Tryp.results24 : Go.Proofs.Try.f24.results = #[Go.ResultVar.tmp 4] := Go.Proofs.Try.results24
theorem Tryp.results25 : Go.Proofs.Try.f25.results = #[Go.ResultVar.tmp 4] := Go.Proofs.Try.results25
theorem Tryp.results26 : Go.Proofs.Try.f26.results = #[Go.ResultVar.tmp 4] := Go.Proofs.Try.results26
theorem Tryp.results27 : Go.Proofs.Try.f27.results = #[Go.ResultVar.tmp 4] := Go.Proofs.Try.results27
theorem Tryp.results28 : Go.Proofs.Try.f28.results = #[Go.ResultVar.tmp 4] := Go.Proofs.Try.results28
theorem Tryp.results29 : Go.Proofs.Try.f29.results = #[Go.ResultVar.tmp 2] := Go.Proofs.Try.results29
theorem Tryp.results3 : Go.Proofs.Try.f3.results = #[Go.ResultVar.tmp 2] := Go.Proofs.Try.results3
theorem Tryp.results30 : Go.Proofs.Try.f30.results = #[Go.ResultVar.tmp 2] := Go.Proofs.Try.results30
theorem Tryp.results31 : Go.Proofs.Try.f31.results = #[Go.ResultVar.tmp 2, Go.ResultVar.tmp 3] := Go.Proofs.Try.results31
theorem Tryp.results32 : Go.Proofs.Try.f32.results = #[Go.ResultVar.tmp 4] := Go.Proofs.Try.results32
theorem Tryp.results33 : Go.Proofs.Try.f33.results = #[Go.ResultVar.tmp 4] := Go.Proofs.Try.results33
theorem Tryp.results35 : Go.Proofs.Try.f35.results = #[Go.ResultVar.tmp 2] := Go.Proofs.Try.results35
theorem Tryp.results36 : Go.Proofs.Try.f36.results = #[Go.ResultVar.tmp 2, Go.ResultVar.tmp 3] := Go.Proofs.Try.results36
theorem Tryp.results37 : Go.Proofs.Try.f37.results = #[Go.ResultVar.tmp 4] := Go.Proofs.Try.results37
theorem Tryp.results38 : Go.Proofs.Try.f38.results = #[Go.ResultVar.tmp 4] := Go.Proofs.Try.results38
theorem Tryp.results39 : Go.Proofs.Try.f39.results = #[Go.ResultVar.tmp 2] := Go.Proofs.Try.results39
theorem Tryp.results4 : Go.Proofs.Try.f4.results = #[Go.ResultVar.tmp 2] := Go.Proofs.Try.results4
theorem Tryp.results40 : Go.Proofs.Try.f40.results = #[Go.ResultVar.tmp 2] := Go.Proofs.Try.results40
theorem Tryp.results41 : Go.Proofs.Try.f41.results = #[Go.ResultVar.tmp 4] := Go.Proofs.Try.results41
theorem Tryp.results42 : Go.Proofs.Try.f42.results = #[Go.ResultVar.tmp 4] := Go.Proofs.Try.results42
theorem Tryp.results43 : Go.Proofs.Try.f43.results = #[Go.ResultVar.tmp 2] := Go.Proofs.Try.results43
theorem Tryp.results44 : Go.Proofs.Try.f44.results = #[Go.ResultVar.tmp 4] := Go.Proofs.Try.results44
theorem Tryp.results45 : Go.Proofs.Try.f45.results = #[Go.ResultVar.tmp 4] := Go.Proofs.Try.results45
theorem Tryp.results46 : Go.Proofs.Try.f46.results = #[Go.ResultVar.tmp 2] := Go.Proofs.Try.results46
theorem Tryp.results47 : Go.Proofs.Try.f47.results = #[Go.ResultVar.tmp 4, Go.ResultVar.tmp 5] := Go.Proofs.Try.results47
theorem Tryp.results48 : Go.Proofs.Try.f48.results = #[Go.ResultVar.tmp 4] := Go.Proofs.Try.results48
theorem Tryp.results49 : Go.Proofs.Try.f49.results = #[Go.ResultVar.tmp 4] := Go.Proofs.Try.results49
theorem Tryp.results5 : Go.Proofs.Try.f5.results = #[Go.ResultVar.tmp 2] := Go.Proofs.Try.results5
theorem Tryp.results50 : Go.Proofs.Try.f50.results = #[Go.ResultVar.tmp 2] := Go.Proofs.Try.results50
theorem Tryp.results51 : Go.Proofs.Try.f51.results = #[Go.ResultVar.tmp 4] := Go.Proofs.Try.results51
theorem Tryp.results52 : Go.Proofs.Try.f52.results = #[Go.ResultVar.tmp 2] := Go.Proofs.Try.results52
theorem Tryp.results53 : Go.Proofs.Try.f53.results = #[Go.ResultVar.tmp 2] := Go.Proofs.Try.results53
theorem Tryp.results55 : Go.Proofs.Try.f55.results = #[Go.ResultVar.tmp 5] := Go.Proofs.Try.results55
theorem Tryp.results56 : Go.Proofs.Try.f56.results = #[Go.ResultVar.tmp 6] := Go.Proofs.Try.results56
theorem Tryp.results57 : Go.Proofs.Try.f57.results = #[Go.ResultVar.tmp 2] := Go.Proofs.Try.results57
theorem Tryp.results58 : Go.Proofs.Try.f58.results = #[Go.ResultVar.tmp 4] := Go.Proofs.Try.results58
theorem Tryp.results59 : Go.Proofs.Try.f59.results = #[Go.ResultVar.tmp 4] := Go.Proofs.Try.results59
theorem Tryp.results6 : Go.Proofs.Try.f6.results = #[Go.ResultVar.tmp 4] := Go.Proofs.Try.results6
theorem Tryp.results60 : Go.Proofs.Try.f60.results = #[Go.ResultVar.tmp 2] := Go.Proofs.Try.results60
theorem Tryp.results61 : Go.Proofs.Try.f61.results = #[Go.ResultVar.tmp 2] := Go.Proofs.Try.results61
theorem Tryp.results62 : Go.Proofs.Try.f62.results = #[Go.ResultVar.tmp 8] := Go.Proofs.Try.results62
theorem Tryp.results63 : Go.Proofs.Try.f63.results = #[Go.ResultVar.tmp 5] := Go.Proofs.Try.results63
theorem Tryp.results64 : Go.Proofs.Try.f64.results = #[Go.ResultVar.tmp 4] := Go.Proofs.Try.results64
theorem Tryp.results65 : Go.Proofs.Try.f65.results = #[Go.ResultVar.tmp 4] := Go.Proofs.Try.results65
theorem Tryp.results66 : Go.Proofs.Try.f66.results = #[Go.ResultVar.tmp 2] := Go.Proofs.Try.results66
theorem Tryp.results67 : Go.Proofs.Try.f67.results = #[] := Go.Proofs.Try.results67
theorem Tryp.results68 : Go.Proofs.Try.f68.results = #[Go.ResultVar.cell 2 65] := Go.Proofs.Try.results68
theorem Tryp.results69 : Go.Proofs.Try.f69.results = #[Go.ResultVar.cell 2 65, Go.ResultVar.tmp 3] := Go.Proofs.Try.results69
theorem Tryp.results7 : Go.Proofs.Try.f7.results = #[Go.ResultVar.tmp 2] := Go.Proofs.Try.results7
theorem Tryp.results70 : Go.Proofs.Try.f70.results = #[Go.ResultVar.tmp 2] := Go.Proofs.Try.results70
theorem Tryp.results71 : Go.Proofs.Try.f71.results = #[Go.ResultVar.tmp 2] := Go.Proofs.Try.results71
theorem Tryp.results76 : Go.Proofs.Try.f76.results = #[Go.ResultVar.tmp 4] := Go.Proofs.Try.results76
theorem Tryp.results77 : Go.Proofs.Try.f77.results = #[Go.ResultVar.tmp 2] := Go.Proofs.Try.results77
theorem Tryp.results78 : Go.Proofs.Try.f78.results = #[Go.ResultVar.cell 2 65] := Go.Proofs.Try.results78
theorem Tryp.results79 : Go.Proofs.Try.f79.results = #[Go.ResultVar.cell 2 65] := Go.Proofs.Try.results79
theorem Tryp.results8 : Go.Proofs.Try.f8.results = #[Go.ResultVar.tmp 2] := Go.Proofs.Try.results8
theorem Tryp.results80 : Go.Proofs.Try.f80.results = #[Go.ResultVar.tmp 4] := Go.Proofs.Try.results80
theorem Tryp.results81 : Go.Proofs.Try.f81.results = #[Go.ResultVar.cell 4 65] := Go.Proofs.Try.results81
theorem Tryp.results9 : Go.Proofs.Try.f9.results = #[Go.ResultVar.tmp 2] := Go.Proofs.Try.results9
@[simp] theorem Tryp.runUnderlying0 : ∀ (w : Go.World), Go.Sem.run (cutP Go.Proofs.Try.prog) (Go.underlying 0) w = Go.Result.ok (Go.TypeDesc.tuple #[]) w := by intros; kernel_rfl
@[simp] theorem Tryp.runUnderlying1 : ∀ (w : Go.World), Go.Sem.run (cutP Go.Proofs.Try.prog) (Go.underlying 1) w = Go.Result.ok (Go.TypeDesc.func #[] #[] Bool.false) w := by intros; kernel_rfl
@[simp] theorem Tryp.runUnderlying10 : ∀ (w : Go.World), Go.Sem.run (cutP Go.Proofs.Try.prog) (Go.underlying 10) w = Go.Result.ok Go.TypeDesc.string w := by intros; kernel_rfl
@[simp] theorem Tryp.runUnderlying100 : ∀ (w : Go.World), Go.Sem.run (cutP Go.Proofs.Try.prog) (Go.underlying 100) w = Go.Result.ok (Go.TypeDesc.func #[84] #[84] Bool.false) w := by intros; kernel_rfl
@[simp] theorem Tryp.runUnderlying101 : ∀ (w : Go.World), Go.Sem.run (cutP Go.Proofs.Try.prog) (Go.underlying 101) w = Go.Result.ok (Go.TypeDesc.pointer 87) w := by intros; kernel_rfl
@[simp] theorem Tryp.runUnderlying102 : ∀ (w : Go.World), Go.Sem.run (cutP Go.Proofs.Try.prog) (Go.underlying 102) w = Go.Result.ok (Go.TypeDesc.func #[] #[84] Bool.false) w := by intros; kernel_rfl
@[simp] theorem Tryp.runUnderlying103 : ∀ (w : Go.World), Go.Sem.run (cutP Go.Proofs.Try.prog) (Go.underlying 103) w = Go.Result.ok (Go.TypeDesc.func #[84] #[] Bool.false) w := by intros; kernel_rfl
@[simp] theorem Tryp.runUnderlying104 : ∀ (w : Go.World), Go.Sem.run (cutP Go.Proofs.Try.prog) (Go.underlying 104) w = Go.Result.ok (Go.TypeDesc.func #[93] #[] Bool.false) w := by intros; kernel_rfl
@[simp] theorem Tryp.runUnderlying105 : ∀ (w : Go.World), Go.Sem.run (cutP Go.Proofs.Try.prog) (Go.underlying 105) w = Go.Result.ok (Go.TypeDesc.func #[101, 4, 3] #[] Bool.false) w := by intros; kernel_rfl
@[simp] theorem Tryp.runUnderlying106 : ∀ (w : Go.World), Go.Sem.run (cutP Go.Proofs.Try.prog) (Go.underlying 106) w = Go.Result.ok (Go.TypeDesc.func #[93] #[4] Bool.false) w := by intros; kernel_rfl
@[simp] theorem Tryp.runUnderlying107 : ∀ (w : Go.World), Go.Sem.run (cutP Go.Proofs.Try.prog) (Go.underlying 107) w = Go.Result.ok (Go.TypeDesc.func #[84, 84] #[4] Bool.false) w := by intros; kernel_rfl
@[simp] theorem Tryp.runUnderlying108 : ∀ (w : Go.World), Go.Sem.run (cutP Go.Proofs.Try.prog) (Go.underlying 108) w = Go.Result.ok (Go.TypeDesc.func #[101, 4] #[] Bool.false) w := by intros; kernel_rfl
@[simp] theorem Tryp.runUnderlying109 : ∀ (w : Go.World), Go.Sem.run (cutP Go.Proofs.Try.prog) (Go.underlying 109) w = Go.Result.ok (Go.TypeDesc.pointer 86) w := by intros; kernel_rfl
@[simp] theorem Tryp.runUnderlying11 : ∀ (w : Go.World), Go.Sem.run (cutP Go.Proofs.Try.prog) (Go.underlying 11) w = Go.Result.ok Go.TypeDesc.string w := by intros; kernel_rfl
@[simp] theorem Tryp.runUnderlying110 : ∀ (w : Go.World), Go.Sem.run (cutP Go.Proofs.Try.prog) (Go.underlying 110) w = Go.Result.ok (Go.TypeDesc.func #[111, 84] #[84] Bool.false) w := by intros; kernel_rfl
@[simp] theorem Tryp.runUnderlying111 : ∀ (w : Go.World), Go.Sem.run (cutP Go.Proofs.Try.prog) (Go.underlying 111) w = Go.Result.ok (Go.TypeDesc.pointer 84) w := by intros; kernel_rfl
@[simp] theorem Tryp.runUnderlying112 : ∀ (w : Go.World), Go.Sem.run (cutP Go.Proofs.Try.prog) (Go.underlying 112) w = Go.Result.ok (Go.TypeDesc.func #[111] #[84] Bool.false) w := by intros; kernel_rfl
@[simp] theorem Tryp.runUnderlying113 : ∀ (w : Go.World), Go.Sem.run (cutP Go.Proofs.Try.prog) (Go.underlying 113) w = Go.Result.ok (Go.TypeDesc.func #[111, 84] #[] Bool.false) w := by intros; kernel_rfl
@[simp] theorem Tryp.runUnderlying114 : ∀ (w : Go.World), Go.Sem.run (cutP Go.Proofs.Try.prog) (Go.underlying 114) w = Go.Result.ok (Go.TypeDesc.func #[111, 84, 84] #[4] Bool.false) w := by intros; kernel_rfl
@[simp] theorem Tryp.runUnderlying115 : ∀ (w : Go.World), Go.Sem.run (cutP Go.Proofs.Try.prog) (Go.underlying 115) w = Go.Result.ok (Go.TypeDesc.func #[] #[9] Bool.false) w := by intros; kernel_rfl
@[simp] theorem Tryp.runUnderlying116 : ∀ (w : Go.World), Go.Sem.run (cutP Go.Proofs.Try.prog) (Go.underlying 116) w = Go.Result.ok (Go.TypeDesc.struct #[{ name := "_interface", type := 17, offset := 0, embedded := Bool.false, tag := "", pkgPath := "runtime", byteOffset := 0 }, { name := "concrete", type := 17, offset := 1, embedded := Bool.false, tag := "", pkgPath := "runtime", byteOffset := 8 }, { name := "asserted", type := 17, offset := 2, embedded := Bool.false, tag := "", pkgPath := "runtime", byteOffset := 16 }, { name := "missingMethod", type := 9, offset := 3, embedded := Bool.false, tag := "", pkgPath := "runtime", byteOffset := 24 }]) w := by intros; kernel_rfl
@[simp] theorem Tryp.runUnderlying117 : ∀ (w : Go.World), Go.Sem.run (cutP Go.Proofs.Try.prog) (Go.underlying 117) w = Go.Result.ok (Go.TypeDesc.struct #[{ name := "_interface", type := 17, offset := 0, embedded := Bool.false, tag := "", pkgPath := "runtime", byteOffset := 0 }, { name := "concrete", type := 17, offset := 1, embedded := Bool.false, tag := "", pkgPath := "runtime", byteOffset := 8 }, { name := "asserted", type := 17, offset := 2, embedded := Bool.false, tag := "", pkgPath := "runtime", byteOffset := 16 }, { name := "missingMethod", type := 9, offset := 3, embedded := Bool.false, tag := "", pkgPath := "runtime", byteOffset := 24 }]) w := by intros; kernel_rfl
@[simp] theorem Tryp.runUnderlying118 : ∀ (w : Go.World), Go.Sem.run (cutP Go.Proofs.Try.prog) (Go.underlying 118) w = Go.Result.ok (Go.TypeDesc.array 0 16) w := by intros; kernel_rfl
@[simp] theorem Tryp.runUnderlying119 : ∀ (w : Go.World), Go.Sem.run (cutP Go.Proofs.Try.prog) (Go.underlying 119) w = Go.Result.ok (Go.TypeDesc.struct #[{ name := "_", type := 118, offset := 0, embedded := Bool.false, tag := "", pkgPath := "runtime", byteOffset := 0 }]) w := by intros; kernel_rfl
@[simp] theorem Tryp.runUnderlying12 : ∀ (w : Go.World), Go.Sem.run (cutP Go.Proofs.Try.prog) (Go.underlying 12) w = Go.Result.ok (Go.TypeDesc.int Go.IntKind.u64) w := by intros; kernel_rfl
@[simp] theorem Tryp.runUnderlying120 : ∀ (w : Go.World), Go.Sem.run (cutP Go.Proofs.Try.prog) (Go.underlying 120) w = Go.Result.ok (Go.TypeDesc.struct #[{ name := "_", type := 118, offset := 0, embedded := Bool.false, tag := "", pkgPath := "runtime", byteOffset := 0 }]) w := by intros; kernel_rfl
@[simp] theorem Tryp.runUnderlying121 : ∀ (w : Go.World), Go.Sem.run (cutP Go.Proofs.Try.prog) (Go.underlying 121) w = Go.Result.ok (Go.TypeDesc.int Go.IntKind.u8) w := by intros; kernel_rfl
@[simp] theorem Tryp.runUnderlying122 : ∀ (w : Go.World), Go.Sem.run (cutP Go.Proofs.Try.prog) (Go.underlying 122) w = Go.Result.ok (Go.TypeDesc.int Go.IntKind.u8) w := by intros; kernel_rfl
@[simp] theorem Tryp.runUnderlying123 : ∀ (w : Go.World), Go.Sem.run (cutP Go.Proofs.Try.prog) (Go.underlying 123) w = Go.Result.ok (Go.TypeDesc.func #[95, 95] #[4] Bool.false) w := by intros; kernel_rfl
@[simp] theorem Tryp.runUnderlying124 : ∀ (w : Go.World), Go.Sem.run (cutP Go.Proofs.Try.prog) (Go.underlying 124) w = Go.Result.ok (Go.TypeDesc.pointer 5) w := by intros; kernel_rfl
@[simp] theorem Tryp.runUnderlying125 : ∀ (w : Go.World), Go.Sem.run (cutP Go.Proofs.Try.prog) (Go.underlying 125) w = Go.Result.ok (Go.TypeDesc.int Go.IntKind.i32) w := by intros; kernel_rfl
@[simp] theorem Tryp.runUnderlying126 : ∀ (w : Go.World), Go.Sem.run (cutP Go.Proofs.Try.prog) (Go.underlying 126) w = Go.Result.ok (Go.TypeDesc.int Go.IntKind.i32) w := by intros; kernel_rfl
@[simp] theorem Tryp.runUnderlying127 : ∀ (w : Go.World), Go.Sem.run (cutP Go.Proofs.Try.prog) (Go.underlying 127) w = Go.Result.ok (Go.TypeDesc.struct #[{ name := "Size_", type := 12, offset := 0, embedded := Bool.false, tag := "", pkgPath := "", byteOffset := 0 }, { name := "PtrBytes", type := 12, offset := 1, embedded := Bool.false, tag := "", pkgPath := "", byteOffset := 8 }, { name := "Hash", type := 87, offset := 2, embedded := Bool.false, tag := "", pkgPath := "", byteOffset := 16 }, { name := "TFlag", type := 121, offset := 3, embedded := Bool.false, tag := "", pkgPath := "", byteOffset := 20 }, { name := "Align_", type := 5, offset := 4, embedded := Bool.false, tag := "", pkgPath := "", byteOffset := 21 }, { name := "FieldAlign_", type := 5, offset := 5, embedded := Bool.false, tag := "", pkgPath := "", byteOffset := 22 }, { name := "Kind_", type := 122, offset := 6, embedded := Bool.false, tag := "", pkgPath := "", byteOffset := 23 }, { name := "Equal", type := 123, offset := 7, embedded := Bool.false, tag := "", pkgPath := "", byteOffset := 24 }, { name := "GCData", type := 124, offset := 8, embedded := Bool.false, tag := "", pkgPath := "", byteOffset := 32 }, { name := "Str", type := 125, offset := 9, embedded := Bool.false, tag := "", pkgPath := "", byteOffset := 40 }, { name := "PtrToThis", type := 126, offset := 10, embedded := Bool.false, tag := "", pkgPath := "", byteOffset := 44 }]) w := by intros; kernel_rfl
@[simp] theorem Tryp.runUnderlying128 : ∀ (w : Go.World), Go.Sem.run (cutP Go.Proofs.Try.prog) (Go.underlying 128) w = Go.Result.ok (Go.TypeDesc.struct #[{ name := "Size_", type := 12, offset := 0, embedded := Bool.false, tag := "", pkgPath := "", byteOffset := 0 }, { name := "PtrBytes", type := 12, offset := 1, embedded := Bool.false, tag := "", pkgPath := "", byteOffset := 8 }, { name := "Hash", type := 87, offset := 2, embedded := Bool.false, tag := "", pkgPath := "", byteOffset := 16 }, { name := "TFlag", type := 121, offset := 3, embedded := Bool.false, tag := "", pkgPath := "", byteOffset := 20 }, { name := "Align_", type := 5, offset := 4, embedded := Bool.false, tag := "", pkgPath := "", byteOffset := 21 }, { name := "FieldAlign_", type := 5, offset := 5, embedded := Bool.false, tag := "", pkgPath := "", byteOffset := 22 }, { name := "Kind_", type := 122, offset := 6, embedded := Bool.false, tag := "", pkgPath := "", byteOffset := 23 }, { name := "Equal", type := 123, offset := 7, embedded := Bool.false, tag := "", pkgPath := "", byteOffset := 24 }, { name := "GCData", type := 124, offset := 8, embedded := Bool.false, tag := "", pkgPath := "", byteOffset := 32 }, { name := "Str", type := 125, offset := 9, embedded := Bool.false, tag := "", pkgPath := "", byteOffset := 40 }, { name := "PtrToThis", type := 126, offset := 10, embedded := Bool.false, tag := "", pkgPath := "", byteOffset := 44 }]) w := by intros; kernel_rfl
@[simp] theorem Tryp.runUnderlying13 : ∀ (w : Go.World), Go.Sem.run (cutP Go.Proofs.Try.prog) (Go.underlying 13) w = Go.Result.ok (Go.TypeDesc.struct #[{ name := "msg", type := 9, offset := 0, embedded := Bool.false, tag := "", pkgPath := "runtime", byteOffset := 0 }, { name := "addr", type := 12, offset := 1, embedded := Bool.false, tag := "", pkgPath := "runtime", byteOffset := 16 }]) w := by intros; kernel_rfl
@[simp] theorem Tryp.runUnderlying14 : ∀ (w : Go.World), Go.Sem.run (cutP Go.Proofs.Try.prog) (Go.underlying 14) w = Go.Result.ok (Go.TypeDesc.struct #[{ name := "msg", type := 9, offset := 0, embedded := Bool.false, tag := "", pkgPath := "runtime", byteOffset := 0 }, { name := "addr", type := 12, offset := 1, embedded := Bool.false, tag := "", pkgPath := "runtime", byteOffset := 16 }]) w := by intros; kernel_rfl
@[simp] theorem Tryp.runUnderlying15 : ∀ (w : Go.World), Go.Sem.run (cutP Go.Proofs.Try.prog) (Go.underlying 15) w = Go.Result.ok (Go.TypeDesc.pointer 117) w := by intros; kernel_rfl
@[simp] theorem Tryp.runUnderlying16 : ∀ (w : Go.World), Go.Sem.run (cutP Go.Proofs.Try.prog) (Go.underlying 16) w = Go.Result.ok (Go.TypeDesc.pointer 120) w := by intros; kernel_rfl
@[simp] theorem Tryp.runUnderlying17 : ∀ (w : Go.World), Go.Sem.run (cutP Go.Proofs.Try.prog) (Go.underlying 17) w = Go.Result.ok (Go.TypeDesc.pointer 128) w := by intros; kernel_rfl
@[simp] theorem Tryp.runUnderlying18 : ∀ (w : Go.World), Go.Sem.run (cutP Go.Proofs.Try.prog) (Go.underlying 18) w = Go.Result.ok (Go.TypeDesc.struct #[{ name := "typ", type := 17, offset := 0, embedded := Bool.false, tag := "", pkgPath := "internal/runtime/maps", byteOffset := 0 }]) w := by intros; kernel_rfl
@[simp] theorem Tryp.runUnderlying19 : ∀ (w : Go.World), Go.Sem.run (cutP Go.Proofs.Try.prog) (Go.underlying 19) w = Go.Result.ok (Go.TypeDesc.struct #[{ name := "typ", type := 17, offset := 0, embedded := Bool.false, tag := "", pkgPath := "internal/runtime/maps", byteOffset := 0 }]) w := by intros; kernel_rfl
@[simp] theorem Tryp.runUnderlying2 : ∀ (w : Go.World), Go.Sem.run (cutP Go.Proofs.Try.prog) (Go.underlying 2) w = Go.Result.ok (Go.TypeDesc.int Go.IntKind.i64) w := by intros; kernel_rfl
@[simp] theorem Tryp.runUnderlying20 : ∀ (w : Go.World), Go.Sem.run (cutP Go.Proofs.Try.prog) (Go.underlying 20) w = Go.Result.ok (Go.TypeDesc.interface #[]) w := by intros; kernel_rfl
@[simp] theorem Tryp.runUnderlying21 : ∀ (w : Go.World), Go.Sem.run (cutP Go.Proofs.Try.prog) (Go.underlying 21) w = Go.Result.ok (Go.TypeDesc.int Go.IntKind.i32) w := by intros; kernel_rfl
@[simp] theorem Tryp.runUnderlying22 : ∀ (w : Go.World), Go.Sem.run (cutP Go.Proofs.Try.prog) (Go.underlying 22) w = Go.Result.ok (Go.TypeDesc.slice 5) w := by intros; kernel_rfl
@[simp] theorem Tryp.runUnderlying23 : ∀ (w : Go.World), Go.Sem.run (cutP Go.Proofs.Try.prog) (Go.underlying 23) w = Go.Result.ok (Go.TypeDesc.slice 25) w := by intros; kernel_rfl
@[simp] theorem Tryp.runUnderlying24 : ∀ (w : Go.World), Go.Sem.run (cutP Go.Proofs.Try.prog) (Go.underlying 24) w = Go.Result.ok (Go.TypeDesc.func #[22] #[23] Bool.false) w := by intros; kernel_rfl
@[simp] theorem Tryp.runUnderlying25 : ∀ (w : Go.World), Go.Sem.run (cutP Go.Proofs.Try.prog) (Go.underlying 25) w = Go.Result.ok (Go.TypeDesc.slice 3) w := by intros; kernel_rfl
@[simp] theorem Tryp.runUnderlying26 : ∀ (w : Go.World), Go.Sem.run (cutP Go.Proofs.Try.prog) (Go.underlying 26) w = Go.Result.ok (Go.TypeDesc.tuple #[25, 4]) w := by intros; kernel_rfl
@[simp] theorem Tryp.runUnderlying27 : ∀ (w : Go.World), Go.Sem.run (cutP Go.Proofs.Try.prog) (Go.underlying 27) w = Go.Result.ok (Go.TypeDesc.func #[23] #[25, 4] Bool.false) w := by intros; kernel_rfl
@[simp] theorem Tryp.runUnderlying28 : ∀ (w : Go.World), Go.Sem.run (cutP Go.Proofs.Try.prog) (Go.underlying 28) w = Go.Result.ok (Go.TypeDesc.func #[25, 25] #[4] Bool.false) w := by intros; kernel_rfl
@[simp] theorem Tryp.runUnderlying29 : ∀ (w : Go.World), Go.Sem.run (cutP Go.Proofs.Try.prog) (Go.underlying 29) w = Go.Result.ok (Go.TypeDesc.tuple #[3, 4]) w := by intros; kernel_rfl
@[simp] theorem Tryp.runUnderlying3 : ∀ (w : Go.World), Go.Sem.run (cutP Go.Proofs.Try.prog) (Go.underlying 3) w = Go.Result.ok (Go.TypeDesc.int Go.IntKind.i64) w := by intros; kernel_rfl
@[simp] theorem Tryp.runUnderlying30 : ∀ (w : Go.World), Go.Sem.run (cutP Go.Proofs.Try.prog) (Go.underlying 30) w = Go.Result.ok (Go.TypeDesc.func #[25, 23] #[3, 4] Bool.false) w := by intros; kernel_rfl
@[simp] theorem Tryp.runUnderlying31 : ∀ (w : Go.World), Go.Sem.run (cutP Go.Proofs.Try.prog) (Go.underlying 31) w = Go.Result.ok (Go.TypeDesc.func #[22] #[4] Bool.false) w := by intros; kernel_rfl
@[simp] theorem Tryp.runUnderlying32 : ∀ (w : Go.World), Go.Sem.run (cutP Go.Proofs.Try.prog) (Go.underlying 32) w = Go.Result.ok (Go.TypeDesc.tuple #[25, 23]) w := by intros; kernel_rfl
@[simp] theorem Tryp.runUnderlying33 : ∀ (w : Go.World), Go.Sem.run (cutP Go.Proofs.Try.prog) (Go.underlying 33) w = Go.Result.ok (Go.TypeDesc.func #[22] #[25, 23] Bool.false) w := by intros; kernel_rfl
@[simp] theorem Tryp.runUnderlying34 : ∀ (w : Go.World), Go.Sem.run (cutP Go.Proofs.Try.prog) (Go.underlying 34) w = Go.Result.ok (Go.TypeDesc.func #[25, 25] #[3, 4] Bool.false) w := by intros; kernel_rfl
@[simp] theorem Tryp.runUnderlying35 : ∀ (w : Go.World), Go.Sem.run (cutP Go.Proofs.Try.prog) (Go.underlying 35) w = Go.Result.ok (Go.TypeDesc.func #[23, 3] #[3] Bool.false) w := by intros; kernel_rfl
@[simp] theorem Tryp.runUnderlying36 : ∀ (w : Go.World), Go.Sem.run (cutP Go.Proofs.Try.prog) (Go.underlying 36) w = Go.Result.ok (Go.TypeDesc.func #[25] #[25] Bool.false) w := by intros; kernel_rfl
@[simp] theorem Tryp.runUnderlying37 : ∀ (w : Go.World), Go.Sem.run (cutP Go.Proofs.Try.prog) (Go.underlying 37) w = Go.Result.ok (Go.TypeDesc.func #[23] #[23] Bool.false) w := by intros; kernel_rfl
@[simp] theorem Tryp.runUnderlying38 : ∀ (w : Go.World), Go.Sem.run (cutP Go.Proofs.Try.prog) (Go.underlying 38) w = Go.Result.ok (Go.TypeDesc.func #[23, 23] #[4] Bool.false) w := by intros; kernel_rfl
@[simp] theorem Tryp.runUnderlying39 : ∀ (w : Go.World), Go.Sem.run (cutP Go.Proofs.Try.prog) (Go.underlying 39) w = Go.Result.ok (Go.TypeDesc.func #[25, 23] #[4] Bool.false) w := by intros; kernel_rfl
@[simp] theorem Tryp.runUnderlying4 : ∀ (w : Go.World), Go.Sem.run (cutP Go.Proofs.Try.prog) (Go.underlying 4) w = Go.Result.ok Go.TypeDesc.bool w := by intros; kernel_rfl
@[simp] theorem Tryp.runUnderlying40 : ∀ (w : Go.World), Go.Sem.run (cutP Go.Proofs.Try.prog) (Go.underlying 40) w = Go.Result.ok (Go.TypeDesc.func #[25, 3] #[3] Bool.false) w := by intros; kernel_rfl
@[simp] theorem Tryp.runUnderlying41 : ∀ (w : Go.World), Go.Sem.run (cutP Go.Proofs.Try.prog) (Go.underlying 41) w = Go.Result.ok (Go.TypeDesc.func #[23] #[4] Bool.false) w := by intros; kernel_rfl
@[simp] theorem Tryp.runUnderlying42 : ∀ (w : Go.World), Go.Sem.run (cutP Go.Proofs.Try.prog) (Go.underlying 42) w = Go.Result.ok (Go.TypeDesc.tuple #[23, 4]) w := by intros; kernel_rfl
@[simp] theorem Tryp.runUnderlying43 : ∀ (w : Go.World), Go.Sem.run (cutP Go.Proofs.Try.prog) (Go.underlying 43) w = Go.Result.ok (Go.TypeDesc.func #[3] #[23, 4] Bool.false) w := by intros; kernel_rfl
@[simp] theorem Tryp.runUnderlying44 : ∀ (w : Go.World), Go.Sem.run (cutP Go.Proofs.Try.prog) (Go.underlying 44) w = Go.Result.ok (Go.TypeDesc.func #[23, 23] #[25] Bool.false) w := by intros; kernel_rfl
@[simp] theorem Tryp.runUnderlying45 : ∀ (w : Go.World), Go.Sem.run (cutP Go.Proofs.Try.prog) (Go.underlying 45) w = Go.Result.ok (Go.TypeDesc.func #[25] #[3] Bool.false) w := by intros; kernel_rfl
@[simp] theorem Tryp.runUnderlying46 : ∀ (w : Go.World), Go.Sem.run (cutP Go.Proofs.Try.prog) (Go.underlying 46) w = Go.Result.ok (Go.TypeDesc.func #[25, 23] #[3] Bool.false) w := by intros; kernel_rfl
@[simp] theorem Tryp.runUnderlying47 : ∀ (w : Go.World), Go.Sem.run (cutP Go.Proofs.Try.prog) (Go.underlying 47) w = Go.Result.ok (Go.TypeDesc.pointer 71) w := by intros; kernel_rfl
@[simp] theorem Tryp.runUnderlying48 : ∀ (w : Go.World), Go.Sem.run (cutP Go.Proofs.Try.prog) (Go.underlying 48) w = Go.Result.ok (Go.TypeDesc.func #[22] #[47] Bool.false) w := by intros; kernel_rfl
@[simp] theorem Tryp.runUnderlying49 : ∀ (w : Go.World), Go.Sem.run (cutP Go.Proofs.Try.prog) (Go.underlying 49) w = Go.Result.ok (Go.TypeDesc.func #[47] #[23] Bool.false) w := by intros; kernel_rfl
@[simp] theorem Tryp.runUnderlying5 : ∀ (w : Go.World), Go.Sem.run (cutP Go.Proofs.Try.prog) (Go.underlying 5) w = Go.Result.ok (Go.TypeDesc.int Go.IntKind.u8) w := by intros; kernel_rfl
@[simp] theorem Tryp.runUnderlying50 : ∀ (w : Go.World), Go.Sem.run (cutP Go.Proofs.Try.prog) (Go.underlying 50) w = Go.Result.ok (Go.TypeDesc.func #[47, 3] #[25] Bool.false) w := by intros; kernel_rfl
@[simp] theorem Tryp.runUnderlying51 : ∀ (w : Go.World), Go.Sem.run (cutP Go.Proofs.Try.prog) (Go.underlying 51) w = Go.Result.ok (Go.TypeDesc.func #[3] #[3] Bool.false) w := by intros; kernel_rfl
@[simp] theorem Tryp.runUnderlying52 : ∀ (w : Go.World), Go.Sem.run (cutP Go.Proofs.Try.prog) (Go.underlying 52) w = Go.Result.ok (Go.TypeDesc.func #[25] #[4] Bool.false) w := by intros; kernel_rfl
@[simp] theorem Tryp.runUnderlying53 : ∀ (w : Go.World), Go.Sem.run (cutP Go.Proofs.Try.prog) (Go.underlying 53) w = Go.Result.ok (Go.TypeDesc.func #[25, 25] #[3] Bool.false) w := by intros; kernel_rfl
@[simp] theorem Tryp.runUnderlying54 : ∀ (w : Go.World), Go.Sem.run (cutP Go.Proofs.Try.prog) (Go.underlying 54) w = Go.Result.ok (Go.TypeDesc.slice 57) w := by intros; kernel_rfl
@[simp] theorem Tryp.runUnderlying55 : ∀ (w : Go.World), Go.Sem.run (cutP Go.Proofs.Try.prog) (Go.underlying 55) w = Go.Result.ok (Go.TypeDesc.func #[23, 3] #[54] Bool.false) w := by intros; kernel_rfl
@[simp] theorem Tryp.runUnderlying56 : ∀ (w : Go.World), Go.Sem.run (cutP Go.Proofs.Try.prog) (Go.underlying 56) w = Go.Result.ok (Go.TypeDesc.int Go.IntKind.u64) w := by intros; kernel_rfl
@[simp] theorem Tryp.runUnderlying57 : ∀ (w : Go.World), Go.Sem.run (cutP Go.Proofs.Try.prog) (Go.underlying 57) w = Go.Result.ok (Go.TypeDesc.int Go.IntKind.u64) w := by intros; kernel_rfl
@[simp] theorem Tryp.runUnderlying58 : ∀ (w : Go.World), Go.Sem.run (cutP Go.Proofs.Try.prog) (Go.underlying 58) w = Go.Result.ok (Go.TypeDesc.func #[25, 25] #[25, 4] Bool.false) w := by intros; kernel_rfl
@[simp] theorem Tryp.runUnderlying59 : ∀ (w : Go.World), Go.Sem.run (cutP Go.Proofs.Try.prog) (Go.underlying 59) w = Go.Result.ok (Go.TypeDesc.func #[3] #[4] Bool.false) w := by intros; kernel_rfl
@[simp] theorem Tryp.runUnderlying6 : ∀ (w : Go.World), Go.Sem.run (cutP Go.Proofs.Try.prog) (Go.underlying 6) w = Go.Result.ok (Go.TypeDesc.int Go.IntKind.u8) w := by intros; kernel_rfl
@[simp] theorem Tryp.runUnderlying60 : ∀ (w : Go.World), Go.Sem.run (cutP Go.Proofs.Try.prog) (Go.underlying 60) w = Go.Result.ok (Go.TypeDesc.func #[3, 3] #[3] Bool.false) w := by intros; kernel_rfl
@[simp] theorem Tryp.runUnderlying61 : ∀ (w : Go.World), Go.Sem.run (cutP Go.Proofs.Try.prog) (Go.underlying 61) w = Go.Result.ok (Go.TypeDesc.func #[74] #[] Bool.false) w := by intros; kernel_rfl
@[simp] theorem Tryp.runUnderlying62 : ∀ (w : Go.World), Go.Sem.run (cutP Go.Proofs.Try.prog) (Go.underlying 62) w = Go.Result.ok (Go.TypeDesc.func #[74] #[] Bool.false) w := by intros; kernel_rfl
@[simp] theorem Tryp.runUnderlying63 : ∀ (w : Go.World), Go.Sem.run (cutP Go.Proofs.Try.prog) (Go.underlying 63) w = Go.Result.ok (Go.TypeDesc.func #[3] #[62] Bool.false) w := by intros; kernel_rfl
@[simp] theorem Tryp.runUnderlying64 : ∀ (w : Go.World), Go.Sem.run (cutP Go.Proofs.Try.prog) (Go.underlying 64) w = Go.Result.ok (Go.TypeDesc.array 8 3) w := by intros; kernel_rfl
@[simp] theorem Tryp.runUnderlying65 : ∀ (w : Go.World), Go.Sem.run (cutP Go.Proofs.Try.prog) (Go.underlying 65) w = Go.Result.ok (Go.TypeDesc.array 8 3) w := by intros; kernel_rfl
@[simp] theorem Tryp.runUnderlying66 : ∀ (w : Go.World), Go.Sem.run (cutP Go.Proofs.Try.prog) (Go.underlying 66) w = Go.Result.ok (Go.TypeDesc.func #[] #[25] Bool.false) w := by intros; kernel_rfl
@[simp] theorem Tryp.runUnderlying67 : ∀ (w : Go.World), Go.Sem.run (cutP Go.Proofs.Try.prog) (Go.underlying 67) w = Go.Result.ok (Go.TypeDesc.func #[23, 3, 40] #[25] Bool.false) w := by intros; kernel_rfl
@[simp] theorem Tryp.runUnderlying68 : ∀ (w : Go.World), Go.Sem.run (cutP Go.Proofs.Try.prog) (Go.underlying 68) w = Go.Result.ok (Go.TypeDesc.func #[3, 3, 3] #[4] Bool.false) w := by intros; kernel_rfl
@[simp] theorem Tryp.runUnderlying69 : ∀ (w : Go.World), Go.Sem.run (cutP Go.Proofs.Try.prog) (Go.underlying 69) w = Go.Result.ok (Go.TypeDesc.func #[3, 3] #[25] Bool.false) w := by intros; kernel_rfl
@[simp] theorem Tryp.runUnderlying7 : ∀ (w : Go.World), Go.Sem.run (cutP Go.Proofs.Try.prog) (Go.underlying 7) w = Go.Result.ok (Go.TypeDesc.struct #[{ name := "x", type := 2, offset := 0, embedded := Bool.false, tag := "", pkgPath := "runtime", byteOffset := 0 }, { name := "y", type := 3, offset := 1, embedded := Bool.false, tag := "", pkgPath := "runtime", byteOffset := 8 }, { name := "signed", type := 4, offset := 2, embedded := Bool.false, tag := "", pkgPath := "runtime", byteOffset := 16 }, { name := "code", type := 6, offset := 3, embedded := Bool.false, tag := "", pkgPath := "runtime", byteOffset := 17 }]) w := by intros; kernel_rfl
@[simp] theorem Tryp.runUnderlying70 : ∀ (w : Go.World), Go.Sem.run (cutP Go.Proofs.Try.prog) (Go.underlying 70) w = Go.Result.ok (Go.TypeDesc.struct #[{ name := "b", type := 22, offset := 0, embedded := Bool.false, tag := "", pkgPath := "loop.example/setparts/spec", byteOffset := 0 }, { name := "p", type := 3, offset := 1, embedded := Bool.false, tag := "", pkgPath := "loop.example/setparts/spec", byteOffset := 24 }]) w := by intros; kernel_rfl
@[simp] theorem Tryp.runUnderlying71 : ∀ (w : Go.World), Go.Sem.run (cutP Go.Proofs.Try.prog) (Go.underlying 71) w = Go.Result.ok (Go.TypeDesc.struct #[{ name := "b", type := 22, offset := 0, embedded := Bool.false, tag := "", pkgPath := "loop.example/setparts/spec", byteOffset := 0 }, { name := "p", type := 3, offset := 1, embedded := Bool.false, tag := "", pkgPath := "loop.example/setparts/spec", byteOffset := 24 }]) w := by intros; kernel_rfl
@[simp] theorem Tryp.runUnderlying72 : ∀ (w : Go.World), Go.Sem.run (cutP Go.Proofs.Try.prog) (Go.underlying 72) w = Go.Result.ok (Go.TypeDesc.func #[25, 25, 3, 3] #[4] Bool.false) w := by intros; kernel_rfl
@[simp] theorem Tryp.runUnderlying73 : ∀ (w : Go.World), Go.Sem.run (cutP Go.Proofs.Try.prog) (Go.underlying 73) w = Go.Result.ok (Go.TypeDesc.func #[3] #[57] Bool.false) w := by intros; kernel_rfl
@[simp] theorem Tryp.runUnderlying74 : ∀ (w : Go.World), Go.Sem.run (cutP Go.Proofs.Try.prog) (Go.underlying 74) w = Go.Result.ok (Go.TypeDesc.func #[65] #[4] Bool.false) w := by intros; kernel_rfl
@[simp] theorem Tryp.runUnderlying75 : ∀ (w : Go.World), Go.Sem.run (cutP Go.Proofs.Try.prog) (Go.underlying 75) w = Go.Result.ok (Go.TypeDesc.func #[3] #[65] Bool.false) w := by intros; kernel_rfl
@[simp] theorem Tryp.runUnderlying76 : ∀ (w : Go.World), Go.Sem.run (cutP Go.Proofs.Try.prog) (Go.underlying 76) w = Go.Result.ok (Go.TypeDesc.tuple #[65, 4]) w := by intros; kernel_rfl
@[simp] theorem Tryp.runUnderlying77 : ∀ (w : Go.World), Go.Sem.run (cutP Go.Proofs.Try.prog) (Go.underlying 77) w = Go.Result.ok (Go.TypeDesc.func #[] #[65, 4] Bool.false) w := by intros; kernel_rfl
@[simp] theorem Tryp.runUnderlying78 : ∀ (w : Go.World), Go.Sem.run (cutP Go.Proofs.Try.prog) (Go.underlying 78) w = Go.Result.ok (Go.TypeDesc.func #[] #[3] Bool.false) w := by intros; kernel_rfl
@[simp] theorem Tryp.runUnderlying79 : ∀ (w : Go.World), Go.Sem.run (cutP Go.Proofs.Try.prog) (Go.underlying 79) w = Go.Result.ok (Go.TypeDesc.slice 90) w := by intros; kernel_rfl
@[simp] theorem Tryp.runUnderlying8 : ∀ (w : Go.World), Go.Sem.run (cutP Go.Proofs.Try.prog) (Go.underlying 8) w = Go.Result.ok (Go.TypeDesc.struct #[{ name := "x", type := 2, offset := 0, embedded := Bool.false, tag := "", pkgPath := "runtime", byteOffset := 0 }, { name := "y", type := 3, offset := 1, embedded := Bool.false, tag := "", pkgPath := "runtime", byteOffset := 8 }, { name := "signed", type := 4, offset := 2, embedded := Bool.false, tag := "", pkgPath := "runtime", byteOffset := 16 }, { name := "code", type := 6, offset := 3, embedded := Bool.false, tag := "", pkgPath := "runtime", byteOffset := 17 }]) w := by intros; kernel_rfl
@[simp] theorem Tryp.runUnderlying80 : ∀ (w : Go.World), Go.Sem.run (cutP Go.Proofs.Try.prog) (Go.underlying 80) w = Go.Result.ok (Go.TypeDesc.struct #[]) w := by intros; kernel_rfl
@[simp] theorem Tryp.runUnderlying81 : ∀ (w : Go.World), Go.Sem.run (cutP Go.Proofs.Try.prog) (Go.underlying 81) w = Go.Result.ok (Go.TypeDesc.struct #[]) w := by intros; kernel_rfl
@[simp] theorem Tryp.runUnderlying82 : ∀ (w : Go.World), Go.Sem.run (cutP Go.Proofs.Try.prog) (Go.underlying 82) w = Go.Result.ok (Go.TypeDesc.struct #[]) w := by intros; kernel_rfl
@[simp] theorem Tryp.runUnderlying83 : ∀ (w : Go.World), Go.Sem.run (cutP Go.Proofs.Try.prog) (Go.underlying 83) w = Go.Result.ok (Go.TypeDesc.struct #[]) w := by intros; kernel_rfl
@[simp] theorem Tryp.runUnderlying84 : ∀ (w : Go.World), Go.Sem.run (cutP Go.Proofs.Try.prog) (Go.underlying 84) w = Go.Result.ok (Go.TypeDesc.int Go.IntKind.u64) w := by intros; kernel_rfl
@[simp] theorem Tryp.runUnderlying85 : ∀ (w : Go.World), Go.Sem.run (cutP Go.Proofs.Try.prog) (Go.underlying 85) w = Go.Result.ok (Go.TypeDesc.struct #[{ name := "_", type := 82, offset := 0, embedded := Bool.false, tag := "", pkgPath := "sync/atomic", byteOffset := 0 }, { name := "_", type := 83, offset := 0, embedded := Bool.false, tag := "", pkgPath := "sync/atomic", byteOffset := 0 }, { name := "v", type := 84, offset := 0, embedded := Bool.false, tag := "", pkgPath := "sync/atomic", byteOffset := 0 }]) w := by intros; kernel_rfl
@[simp] theorem Tryp.runUnderlying86 : ∀ (w : Go.World), Go.Sem.run (cutP Go.Proofs.Try.prog) (Go.underlying 86) w = Go.Result.ok (Go.TypeDesc.struct #[{ name := "_", type := 82, offset := 0, embedded := Bool.false, tag := "", pkgPath := "sync/atomic", byteOffset := 0 }, { name := "_", type := 83, offset := 0, embedded := Bool.false, tag := "", pkgPath := "sync/atomic", byteOffset := 0 }, { name := "v", type := 84, offset := 0, embedded := Bool.false, tag := "", pkgPath := "sync/atomic", byteOffset := 0 }]) w := by intros; kernel_rfl
@[simp] theorem Tryp.runUnderlying87 : ∀ (w : Go.World), Go.Sem.run (cutP Go.Proofs.Try.prog) (Go.underlying 87) w = Go.Result.ok (Go.TypeDesc.int Go.IntKind.u32) w := by intros; kernel_rfl
@[simp] theorem Tryp.runUnderlying88 : ∀ (w : Go.World), Go.Sem.run (cutP Go.Proofs.Try.prog) (Go.underlying 88) w = Go.Result.ok (Go.TypeDesc.struct #[{ name := "noCopy", type := 81, offset := 0, embedded := Bool.false, tag := "", pkgPath := "sync", byteOffset := 0 }, { name := "state", type := 86, offset := 0, embedded := Bool.false, tag := "", pkgPath := "sync", byteOffset := 0 }, { name := "sema", type := 87, offset := 1, embedded := Bool.false, tag := "", pkgPath := "sync", byteOffset := 8 }]) w := by intros; kernel_rfl
@[simp] theorem Tryp.runUnderlying89 : ∀ (w : Go.World), Go.Sem.run (cutP Go.Proofs.Try.prog) (Go.underlying 89) w = Go.Result.ok (Go.TypeDesc.struct #[{ name := "noCopy", type := 81, offset := 0, embedded := Bool.false, tag := "", pkgPath := "sync", byteOffset := 0 }, { name := "state", type := 86, offset := 0, embedded := Bool.false, tag := "", pkgPath := "sync", byteOffset := 0 }, { name := "sema", type := 87, offset := 1, embedded := Bool.false, tag := "", pkgPath := "sync", byteOffset := 8 }]) w := by intros; kernel_rfl
@[simp] theorem Tryp.runUnderlying9 : ∀ (w : Go.World), Go.Sem.run (cutP Go.Proofs.Try.prog) (Go.underlying 9) w = Go.Result.ok Go.TypeDesc.string w := by intros; kernel_rfl
@[simp] theorem Tryp.runUnderlying90 : ∀ (w : Go.World), Go.Sem.run (cutP Go.Proofs.Try.prog) (Go.underlying 90) w = Go.Result.ok (Go.TypeDesc.chan Go.ChanDir.both 3) w := by intros; kernel_rfl
@[simp] theorem Tryp.runUnderlying91 : ∀ (w : Go.World), Go.Sem.run (cutP Go.Proofs.Try.prog) (Go.underlying 91) w = Go.Result.ok (Go.TypeDesc.func #[3] #[] Bool.false) w := by intros; kernel_rfl
@[simp] theorem Tryp.runUnderlying92 : ∀ (w : Go.World), Go.Sem.run (cutP Go.Proofs.Try.prog) (Go.underlying 92) w = Go.Result.ok (Go.TypeDesc.func #[25] #[65] Bool.false) w := by intros; kernel_rfl
@[simp] theorem Tryp.runUnderlying93 : ∀ (w : Go.World), Go.Sem.run (cutP Go.Proofs.Try.prog) (Go.underlying 93) w = Go.Result.ok (Go.TypeDesc.pointer 89) w := by intros; kernel_rfl
@[simp] theorem Tryp.runUnderlying94 : ∀ (w : Go.World), Go.Sem.run (cutP Go.Proofs.Try.prog) (Go.underlying 94) w = Go.Result.ok (Go.TypeDesc.func #[95] #[] Bool.false) w := by intros; kernel_rfl
@[simp] theorem Tryp.runUnderlying95 : ∀ (w : Go.World), Go.Sem.run (cutP Go.Proofs.Try.prog) (Go.underlying 95) w = Go.Result.ok Go.TypeDesc.unsafePointer w := by intros; kernel_rfl
@[simp] theorem Tryp.runUnderlying96 : ∀ (w : Go.World), Go.Sem.run (cutP Go.Proofs.Try.prog) (Go.underlying 96) w = Go.Result.ok (Go.TypeDesc.func #[] #[4] Bool.false) w := by intros; kernel_rfl
@[simp] theorem Tryp.runUnderlying97 : ∀ (w : Go.World), Go.Sem.run (cutP Go.Proofs.Try.prog) (Go.underlying 97) w = Go.Result.ok (Go.TypeDesc.int Go.IntKind.i64) w := by intros; kernel_rfl
@[simp] theorem Tryp.runUnderlying98 : ∀ (w : Go.World), Go.Sem.run (cutP Go.Proofs.Try.prog) (Go.underlying 98) w = Go.Result.ok (Go.TypeDesc.func #[93] #[97] Bool.false) w := by intros; kernel_rfl
@[simp] theorem Tryp.runUnderlying99 : ∀ (w : Go.World), Go.Sem.run (cutP Go.Proofs.Try.prog) (Go.underlying 99) w = Go.Result.ok (Go.TypeDesc.func #[9] #[] Bool.false) w := by intros; kernel_rfl
@[simp] theorem Tryp.sizeOf0 : ∀ (w : Go.World), Go.Sem.run (cutP Go.Proofs.Try.prog) (Go.sizeOf 0) w = Go.Result.ok 1 w := by intros; kernel_rfl
@[simp] theorem Tryp.sizeOf1 : ∀ (w : Go.World), Go.Sem.run (cutP Go.Proofs.Try.prog) (Go.sizeOf 1) w = Go.Result.ok 1 w := by intros; kernel_rfl
@[simp] theorem Tryp.sizeOf10 : ∀ (w : Go.World), Go.Sem.run (cutP Go.Proofs.Try.prog) (Go.sizeOf 10) w = Go.Result.ok 1 w := by intros; kernel_rfl
@[simp] theorem Tryp.sizeOf100 : ∀ (w : Go.World), Go.Sem.run (cutP Go.Proofs.Try.prog) (Go.sizeOf 100) w = Go.Result.ok 1 w := by intros; kernel_rfl
@[simp] theorem Tryp.sizeOf101 : ∀ (w : Go.World), Go.Sem.run (cutP Go.Proofs.Try.prog) (Go.sizeOf 101) w = Go.Result.ok 1 w := by intros; kernel_rfl
@[simp] theorem Tryp.sizeOf102 : ∀ (w : Go.World), Go.Sem.run (cutP Go.Proofs.Try.prog) (Go.sizeOf 102) w = Go.Result.ok 1 w := by intros; kernel_rfl
@[simp] theorem Tryp.sizeOf103 : ∀ (w : Go.World), Go.Sem.run (cutP Go.Proofs.Try.prog) (Go.sizeOf 103) w = Go.Result.ok 1 w := by intros; kernel_rfl
@[simp] theorem Tryp.sizeOf104 : ∀ (w : Go.World), Go.Sem.run (cutP Go.Proofs.Try.prog) (Go.sizeOf 104) w = Go.Result.ok 1 w := by intros; kernel_rfl
@[simp] theorem Tryp.sizeOf105 : ∀ (w : Go.World), Go.Sem.run (cutP Go.Proofs.Try.prog) (Go.sizeOf 105) w = Go.Result.ok 1 w := by intros; kernel_rfl
@[simp] theorem Tryp.sizeOf106 : ∀ (w : Go.World), Go.Sem.run (cutP Go.Proofs.Try.prog) (Go.sizeOf 106) w = Go.Result.ok 1 w := by intros; kernel_rfl
@[simp] theorem Tryp.sizeOf107 : ∀ (w : Go.World), Go.Sem.run (cutP Go.Proofs.Try.prog) (Go.sizeOf 107) w = Go.Result.ok 1 w := by intros; kernel_rfl
@[simp] theorem Tryp.sizeOf108 : ∀ (w : Go.World), Go.Sem.run (cutP Go.Proofs.Try.prog) (Go.sizeOf 108) w = Go.Result.ok 1 w := by intros; kernel_rfl
@[simp] theorem Tryp.sizeOf109 : ∀ (w : Go.World), Go.Sem.run (cutP Go.Proofs.Try.prog) (Go.sizeOf 109) w = Go.Result.ok 1 w := by intros; kernel_rfl
@[simp] theorem Tryp.sizeOf11 : ∀ (w : Go.World), Go.Sem.run (cutP Go.Proofs.Try.prog) (Go.sizeOf 11) w = Go.Result.ok 1 w := by intros; kernel_rfl
@[simp] theorem Tryp.sizeOf110 : ∀ (w : Go.World), Go.Sem.run (cutP Go.Proofs.Try.prog) (Go.sizeOf 110) w = Go.Result.ok 1 w := by intros; kernel_rfl
@[simp] theorem Tryp.sizeOf111 : ∀ (w : Go.World), Go.Sem.run (cutP Go.Proofs.Try.prog) (Go.sizeOf 111) w = Go.Result.ok 1 w := by intros; kernel_rfl
@[simp] theorem Tryp.sizeOf112 : ∀ (w : Go.World), Go.Sem.run (cutP Go.Proofs.Try.prog) (Go.sizeOf 112) w = Go.Result.ok 1 w := by intros; kernel_rfl
@[simp] theorem Tryp.sizeOf113 : ∀ (w : Go.World), Go.Sem.run (cutP Go.Proofs.Try.prog) (Go.sizeOf 113) w = Go.Result.ok 1 w := by intros; kernel_rfl
@[simp] theorem Tryp.sizeOf114 : ∀ (w : Go.World), Go.Sem.run (cutP Go.Proofs.Try.prog) (Go.sizeOf 114) w = Go.Result.ok 1 w := by intros; kernel_rfl
@[simp] theorem Tryp.sizeOf115 : ∀ (w : Go.World), Go.Sem.run (cutP Go.Proofs.Try.prog) (Go.sizeOf 115) w = Go.Result.ok 1 w := by intros; kernel_rfl
@[simp] theorem Tryp.sizeOf116 : ∀ (w : Go.World), Go.Sem.run (cutP Go.Proofs.Try.prog) (Go.sizeOf 116) w = Go.Result.ok 4 w := by intros; kernel_rfl
@[simp] theorem Tryp.sizeOf117 : ∀ (w : Go.World), Go.Sem.run (cutP Go.Proofs.Try.prog) (Go.sizeOf 117) w = Go.Result.ok 4 w := by intros; kernel_rfl
@[simp] theorem Tryp.sizeOf118 : ∀ (w : Go.World), Go.Sem.run (cutP Go.Proofs.Try.prog) (Go.sizeOf 118) w = Go.Result.ok 0 w := by intros; kernel_rfl
@[simp] theorem Tryp.sizeOf119 : ∀ (w : Go.World), Go.Sem.run (cutP Go.Proofs.Try.prog) (Go.sizeOf 119) w = Go.Result.ok 0 w := by intros; kernel_rfl
@[simp] theorem Tryp.sizeOf12 : ∀ (w : Go.World), Go.Sem.run (cutP Go.Proofs.Try.prog) (Go.sizeOf 12) w = Go.Result.ok 1 w := by intros; kernel_rfl
@[simp] theorem Tryp.sizeOf120 : ∀ (w : Go.World), Go.Sem.run (cutP Go.Proofs.Try.prog) (Go.sizeOf 120) w = Go.Result.ok 0 w := by intros; kernel_rfl
@[simp] theorem Tryp.sizeOf121 : ∀ (w : Go.World), Go.Sem.run (cutP Go.Proofs.Try.prog) (Go.sizeOf 121) w = Go.Result.ok 1 w := by intros; kernel_rfl
@[simp] theorem Tryp.sizeOf122 : ∀ (w : Go.World), Go.Sem.run (cutP Go.Proofs.Try.prog) (Go.sizeOf 122) w = Go.Result.ok 1 w := by intros; kernel_rfl
@[simp] theorem Tryp.sizeOf123 : ∀ (w : Go.World), Go.Sem.run (cutP Go.Proofs.Try.prog) (Go.sizeOf 123) w = Go.Result.ok 1 w := by intros; kernel_rfl
@[simp] theorem Tryp.sizeOf124 : ∀ (w : Go.World), Go.Sem.run (cutP Go.Proofs.Try.prog) (Go.sizeOf 124) w = Go.Result.ok 1 w := by intros; kernel_rfl
@[simp] theorem Tryp.sizeOf125 : ∀ (w : Go.World), Go.Sem.run (cutP Go.Proofs.Try.prog) (Go.sizeOf 125) w = Go.Result.ok 1 w := by intros; kernel_rfl
@[simp] theorem Tryp.sizeOf126 : ∀ (w : Go.World), Go.Sem.run (cutP Go.Proofs.Try.prog) (Go.sizeOf 126) w = Go.Result.ok 1 w := by intros; kernel_rfl
@[simp] theorem Tryp.sizeOf127 : ∀ (w : Go.World), Go.Sem.run (cutP Go.Proofs.Try.prog) (Go.sizeOf 127) w = Go.Result.ok 11 w := by intros; kernel_rfl
@[simp] theorem Tryp.sizeOf128 : ∀ (w : Go.World), Go.Sem.run (cutP Go.Proofs.Try.prog) (Go.sizeOf 128) w = Go.Result.ok 11 w := by intros; kernel_rfl
@[simp] theorem Tryp.sizeOf13 : ∀ (w : Go.World), Go.Sem.run (cutP Go.Proofs.Try.prog) (Go.sizeOf 13) w = Go.Result.ok 2 w := by intros; kernel_rfl
@[simp] theorem Tryp.sizeOf14 : ∀ (w : Go.World), Go.Sem.run (cutP Go.Proofs.Try.prog) (Go.sizeOf 14) w = Go.Result.ok 2 w := by intros; kernel_rfl
@[simp] theorem Tryp.sizeOf15 : ∀ (w : Go.World), Go.Sem.run (cutP Go.Proofs.Try.prog) (Go.sizeOf 15) w = Go.Result.ok 1 w := by intros; kernel_rfl
@[simp] theorem Tryp.sizeOf16 : ∀ (w : Go.World), Go.Sem.run (cutP Go.Proofs.Try.prog) (Go.sizeOf 16) w = Go.Result.ok 1 w := by intros; kernel_rfl
@[simp] theorem Tryp.sizeOf17 : ∀ (w : Go.World), Go.Sem.run (cutP Go.Proofs.Try.prog) (Go.sizeOf 17) w = Go.Result.ok 1 w := by intros; kernel_rfl
@[simp] theorem Tryp.sizeOf18 : ∀ (w : Go.World), Go.Sem.run (cutP Go.Proofs.Try.prog) (Go.sizeOf 18) w = Go.Result.ok 1 w := by intros; kernel_rfl
@[simp] theorem Tryp.sizeOf19 : ∀ (w : Go.World), Go.Sem.run (cutP Go.Proofs.Try.prog) (Go.sizeOf 19) w = Go.Result.ok 1 w := by intros; kernel_rfl
@[simp] theorem Tryp.sizeOf2 : ∀ (w : Go.World), Go.Sem.run (cutP Go.Proofs.Try.prog) (Go.sizeOf 2) w = Go.Result.ok 1 w := by intros; kernel_rfl
@[simp] theorem Tryp.sizeOf20 : ∀ (w : Go.World), Go.Sem.run (cutP Go.Proofs.Try.prog) (Go.sizeOf 20) w = Go.Result.ok 1 w := by intros; kernel_rfl
@[simp] theorem Tryp.sizeOf21 : ∀ (w : Go.World), Go.Sem.run (cutP Go.Proofs.Try.prog) (Go.sizeOf 21) w = Go.Result.ok 1 w := by intros; kernel_rfl
@[simp] theorem Tryp.sizeOf22 : ∀ (w : Go.World), Go.Sem.run (cutP Go.Proofs.Try.prog) (Go.sizeOf 22) w = Go.Result.ok 1 w := by intros; kernel_rfl
@[simp] theorem Tryp.sizeOf23 : ∀ (w : Go.World), Go.Sem.run (cutP Go.Proofs.Try.prog) (Go.sizeOf 23) w = Go.Result.ok 1 w := by intros; kernel_rfl
@[simp] theorem Tryp.sizeOf24 : ∀ (w : Go.World), Go.Sem.run (cutP Go.Proofs.Try.prog) (Go.sizeOf 24) w = Go.Result.ok 1 w := by intros; kernel_rfl
@[simp] theorem Tryp.sizeOf25 : ∀ (w : Go.World), Go.Sem.run (cutP Go.Proofs.Try.prog) (Go.sizeOf 25) w = Go.Result.ok 1 w := by intros; kernel_rfl
@[simp] theorem Tryp.sizeOf26 : ∀ (w : Go.World), Go.Sem.run (cutP Go.Proofs.Try.prog) (Go.sizeOf 26) w = Go.Result.ok 1 w := by intros; kernel_rfl
@[simp] theorem Tryp.sizeOf27 : ∀ (w : Go.World), Go.Sem.run (cutP Go.Proofs.Try.prog) (Go.sizeOf 27) w = Go.Result.ok 1 w := by intros; kernel_rfl
@[simp] theorem Tryp.sizeOf28 : ∀ (w : Go.World), Go.Sem.run (cutP Go.Proofs.Try.prog) (Go.sizeOf 28) w = Go.Result.ok 1 w := by intros; kernel_rfl
@[simp] theorem Tryp.sizeOf29 : ∀ (w : Go.World), Go.Sem.run (cutP Go.Proofs.Try.prog) (Go.sizeOf 29) w = Go.Result.ok 1 w := by intros; kernel_rfl
@[simp] theorem Tryp.sizeOf3 : ∀ (w : Go.World), Go.Sem.run (cutP Go.Proofs.Try.prog) (Go.sizeOf 3) w = Go.Result.ok 1 w := by intros; kernel_rfl
@[simp] theorem Tryp.sizeOf30 : ∀ (w : Go.World), Go.Sem.run (cutP Go.Proofs.Try.prog) (Go.sizeOf 30) w = Go.Result.ok 1 w := by intros; kernel_rfl
@[simp] theorem Tryp.sizeOf31 : ∀ (w : Go.World), Go.Sem.run (cutP Go.Proofs.Try.prog) (Go.sizeOf 31) w = Go.Result.ok 1 w := by intros; kernel_rfl
@[simp] theorem Tryp.sizeOf32 : ∀ (w : Go.World), Go.Sem.run (cutP Go.Proofs.Try.prog) (Go.sizeOf 32) w = Go.Result.ok 1 w := by intros; kernel_rfl
@[simp] theorem Tryp.sizeOf33 : ∀ (w : Go.World), Go.Sem.run (cutP Go.Proofs.Try.prog) (Go.sizeOf 33) w = Go.Result.ok 1 w := by intros; kernel_rfl
@[simp] theorem Tryp.sizeOf34 : ∀ (w : Go.World), Go.Sem.run (cutP Go.Proofs.Try.prog) (Go.sizeOf 34) w = Go.Result.ok 1 w := by intros; kernel_rfl
@[simp] theorem Tryp.sizeOf35 : ∀ (w : Go.World), Go.Sem.run (cutP Go.Proofs.Try.prog) (Go.sizeOf 35) w = Go.Result.ok 1 w := by intros; kernel_rfl
@[simp] theorem Tryp.sizeOf36 : ∀ (w : Go.World), Go.Sem.run (cutP Go.Proofs.Try.prog) (Go.sizeOf 36) w = Go.Result.ok 1 w := by intros; kernel_rfl
@[simp] theorem Tryp.sizeOf37 : ∀ (w : Go.World), Go.Sem.run (cutP Go.Proofs.Try.prog) (Go.sizeOf 37) w = Go.Result.ok 1 w := by intros; kernel_rfl
@[simp] theorem Tryp.sizeOf38 : ∀ (w : Go.World), Go.Sem.run (cutP Go.Proofs.Try.prog) (Go.sizeOf 38) w = Go.Result.ok 1 w := by intros; kernel_rfl
@[simp] theorem Tryp.sizeOf39 : ∀ (w : Go.World), Go.Sem.run (cutP Go.Proofs.Try.prog) (Go.sizeOf 39) w = Go.Result.ok 1 w := by intros; kernel_rfl
@[simp] theorem Tryp.sizeOf4 : ∀ (w : Go.World), Go.Sem.run (cutP Go.Proofs.Try.prog) (Go.sizeOf 4) w = Go.Result.ok 1 w := by intros; kernel_rfl
@[simp] theorem Tryp.sizeOf40 : ∀ (w : Go.World), Go.Sem.run (cutP Go.Proofs.Try.prog) (Go.sizeOf 40) w = Go.Result.ok 1 w := by intros; kernel_rfl
@[simp] theorem Tryp.sizeOf41 : ∀ (w : Go.World), Go.Sem.run (cutP Go.Proofs.Try.prog) (Go.sizeOf 41) w = Go.Result.ok 1 w := by intros; kernel_rfl
@[simp] theorem Tryp.sizeOf42 : ∀ (w : Go.World), Go.Sem.run (cutP Go.Proofs.Try.prog) (Go.sizeOf 42) w = Go.Result.ok 1 w := by intros; kernel_rfl
@[simp] theorem Tryp.sizeOf43 : ∀ (w : Go.World), Go.Sem.run (cutP Go.Proofs.Try.prog) (Go.sizeOf 43) w = Go.Result.ok 1 w := by intros; kernel_rfl
@[simp] theorem Tryp.sizeOf44 : ∀ (w : Go.World), Go.Sem.run (cutP Go.Proofs.Try.prog) (Go.sizeOf 44) w = Go.Result.ok 1 w := by intros; kernel_rfl
@[simp] theorem Tryp.sizeOf45 : ∀ (w : Go.World), Go.Sem.run (cutP Go.Proofs.Try.prog) (Go.sizeOf 45) w = Go.Result.ok 1 w := by intros; kernel_rfl
@[simp] theorem Tryp.sizeOf46 : ∀ (w : Go.World), Go.Sem.run (cutP Go.Proofs.Try.prog) (Go.sizeOf 46) w = Go.Result.ok 1 w := by intros; kernel_rfl
@[simp] theorem Tryp.sizeOf47 : ∀ (w : Go.World), Go.Sem.run (cutP Go.Proofs.Try.prog) (Go.sizeOf 47) w = Go.Result.ok 1 w := by intros; kernel_rfl
@[simp] theorem Tryp.sizeOf48 : ∀ (w : Go.World), Go.Sem.run (cutP Go.Proofs.Try.prog) (Go.sizeOf 48) w = Go.Result.ok 1 w := by intros; kernel_rfl
@[simp] theorem Tryp.sizeOf49 : ∀ (w : Go.World), Go.Sem.run (cutP Go.Proofs.Try.prog) (Go.sizeOf 49) w = Go.Result.ok 1 w := by intros; kernel_rfl
@[simp] theorem Tryp.sizeOf5 : ∀ (w : Go.World), Go.Sem.run (cutP Go.Proofs.Try.prog) (Go.sizeOf 5) w = Go.Result.ok 1 w := by intros; kernel_rfl
@[simp] theorem Tryp.sizeOf50 : ∀ (w : Go.World), Go.Sem.run (cutP Go.Proofs.Try.prog) (Go.sizeOf 50) w = Go.Result.ok 1 w := by intros; kernel_rfl
@[simp] theorem Tryp.sizeOf51 : ∀ (w : Go.World), Go.Sem.run (cutP Go.Proofs.Try.prog) (Go.sizeOf 51) w = Go.Result.ok 1 w := by intros; kernel_rfl
@[simp] theorem Tryp.sizeOf52 : ∀ (w : Go.World), Go.Sem.run (cutP Go.Proofs.Try.prog) (Go.sizeOf 52) w = Go.Result.ok 1 w := by intros; kernel_rfl
@[simp] theorem Tryp.sizeOf53 : ∀ (w : Go.World), Go.Sem.run (cutP Go.Proofs.Try.prog) (Go.sizeOf 53) w = Go.Result.ok 1 w := by intros; kernel_rfl
@[simp] theorem Tryp.sizeOf54 : ∀ (w : Go.World), Go.Sem.run (cutP Go.Proofs.Try.prog) (Go.sizeOf 54) w = Go.Result.ok 1 w := by intros; kernel_rfl
@[simp] theorem Tryp.sizeOf55 : ∀ (w : Go.World), Go.Sem.run (cutP Go.Proofs.Try.prog) (Go.sizeOf 55) w = Go.Result.ok 1 w := by intros; kernel_rfl
@[simp] theorem Tryp.sizeOf56 : ∀ (w : Go.World), Go.Sem.run (cutP Go.Proofs.Try.prog) (Go.sizeOf 56) w = Go.Result.ok 1 w := by intros; kernel_rfl
@[simp] theorem Tryp.sizeOf57 : ∀ (w : Go.World), Go.Sem.run (cutP Go.Proofs.Try.prog) (Go.sizeOf 57) w = Go.Result.ok 1 w := by intros; kernel_rfl
@[simp] theorem Tryp.sizeOf58 : ∀ (w : Go.World), Go.Sem.run (cutP Go.Proofs.Try.prog) (Go.sizeOf 58) w = Go.Result.ok 1 w := by intros; kernel_rfl
@[simp] theorem Tryp.sizeOf59 : ∀ (w : Go.World), Go.Sem.run (cutP Go.Proofs.Try.prog) (Go.sizeOf 59) w = Go.Result.ok 1 w := by intros; kernel_rfl
@[simp] theorem Tryp.sizeOf6 : ∀ (w : Go.World), Go.Sem.run (cutP Go.Proofs.Try.prog) (Go.sizeOf 6) w = Go.Result.ok 1 w := by intros; kernel_rfl
@[simp] theorem Tryp.sizeOf60 : ∀ (w : Go.World), Go.Sem.run (cutP Go.Proofs.Try.prog) (Go.sizeOf 60) w = Go.Result.ok 1 w := by intros; kernel_rfl
@[simp] theorem Tryp.sizeOf61 : ∀ (w : Go.World), Go.Sem.run (cutP Go.Proofs.Try.prog) (Go.sizeOf 61) w = Go.Result.ok 1 w := by intros; kernel_rfl
@[simp] theorem Tryp.sizeOf62 : ∀ (w : Go.World), Go.Sem.run (cutP Go.Proofs.Try.prog) (Go.sizeOf 62) w = Go.Result.ok 1 w := by intros; kernel_rfl
@[simp] theorem Tryp.sizeOf63 : ∀ (w : Go.World), Go.Sem.run (cutP Go.Proofs.Try.prog) (Go.sizeOf 63) w = Go.Result.ok 1 w := by intros; kernel_rfl
@[simp] theorem Tryp.sizeOf64 : ∀ (w : Go.World), Go.Sem.run (cutP Go.Proofs.Try.prog) (Go.sizeOf 64) w = Go.Result.ok 8 w := by intros; kernel_rfl
@[simp] theorem Tryp.sizeOf65 : ∀ (w : Go.World), Go.Sem.run (cutP Go.Proofs.Try.prog) (Go.sizeOf 65) w = Go.Result.ok 8 w := by intros; kernel_rfl
@[simp] theorem Tryp.sizeOf66 : ∀ (w : Go.World), Go.Sem.run (cutP Go.Proofs.Try.prog) (Go.sizeOf 66) w = Go.Result.ok 1 w := by intros; kernel_rfl
@[simp] theorem Tryp.sizeOf67 : ∀ (w : Go.World), Go.Sem.run (cutP Go.Proofs.Try.prog) (Go.sizeOf 67) w = Go.Result.ok 1 w := by intros; kernel_rfl
@[simp] theorem Tryp.sizeOf68 : ∀ (w : Go.World), Go.Sem.run (cutP Go.Proofs.Try.prog) (Go.sizeOf 68) w = Go.Result.ok 1 w := by intros; kernel_rfl
@[simp] theorem Tryp.sizeOf69 : ∀ (w : Go.World), Go.Sem.run (cutP Go.Proofs.Try.prog) (Go.sizeOf 69) w = Go.Result.ok 1 w := by intros; kernel_rfl
@[simp] theorem Tryp.sizeOf7 : ∀ (w : Go.World), Go.Sem.run (cutP Go.Proofs.Try.prog) (Go.sizeOf 7) w = Go.Result.ok 4 w := by intros; kernel_rfl
@[simp] theorem Tryp.sizeOf70 : ∀ (w : Go.World), Go.Sem.run (cutP Go.Proofs.Try.prog) (Go.sizeOf 70) w = Go.Result.ok 2 w := by intros; kernel_rfl
@[simp] theorem Tryp.sizeOf71 : ∀ (w : Go.World), Go.Sem.run (cutP Go.Proofs.Try.prog) (Go.sizeOf 71) w = Go.Result.ok 2 w := by intros; kernel_rfl
@[simp] theorem Tryp.sizeOf72 : ∀ (w : Go.World), Go.Sem.run (cutP Go.Proofs.Try.prog) (Go.sizeOf 72) w = Go.Result.ok 1 w := by intros; kernel_rfl
@[simp] theorem Tryp.sizeOf73 : ∀ (w : Go.World), Go.Sem.run (cutP Go.Proofs.Try.prog) (Go.sizeOf 73) w = Go.Result.ok 1 w := by intros; kernel_rfl
@[simp] theorem Tryp.sizeOf74 : ∀ (w : Go.World), Go.Sem.run (cutP Go.Proofs.Try.prog) (Go.sizeOf 74) w = Go.Result.ok 1 w := by intros; kernel_rfl
@[simp] theorem Tryp.sizeOf75 : ∀ (w : Go.World), Go.Sem.run (cutP Go.Proofs.Try.prog) (Go.sizeOf 75) w = Go.Result.ok 1 w := by intros; kernel_rfl
@[simp] theorem Tryp.sizeOf76 : ∀ (w : Go.World), Go.Sem.run (cutP Go.Proofs.Try.prog) (Go.sizeOf 76) w = Go.Result.ok 1 w := by intros; kernel_rfl
@[simp] theorem Tryp.sizeOf77 : ∀ (w : Go.World), Go.Sem.run (cutP Go.Proofs.Try.prog) (Go.sizeOf 77) w = Go.Result.ok 1 w := by intros; kernel_rfl
@[simp] theorem Tryp.sizeOf78 : ∀ (w : Go.World), Go.Sem.run (cutP Go.Proofs.Try.prog) (Go.sizeOf 78) w = Go.Result.ok 1 w := by intros; kernel_rfl
@[simp] theorem Tryp.sizeOf79 : ∀ (w : Go.World), Go.Sem.run (cutP Go.Proofs.Try.prog) (Go.sizeOf 79) w = Go.Result.ok 1 w := by intros; kernel_rfl
@[simp] theorem Tryp.sizeOf8 : ∀ (w : Go.World), Go.Sem.run (cutP Go.Proofs.Try.prog) (Go.sizeOf 8) w = Go.Result.ok 4 w := by intros; kernel_rfl
@[simp] theorem Tryp.sizeOf80 : ∀ (w : Go.World), Go.Sem.run (cutP Go.Proofs.Try.prog) (Go.sizeOf 80) w = Go.Result.ok 0 w := by intros; kernel_rfl
@[simp] theorem Tryp.sizeOf81 : ∀ (w : Go.World), Go.Sem.run (cutP Go.Proofs.Try.prog) (Go.sizeOf 81) w = Go.Result.ok 0 w := by intros; kernel_rfl
@[simp] theorem Tryp.sizeOf82 : ∀ (w : Go.World), Go.Sem.run (cutP Go.Proofs.Try.prog) (Go.sizeOf 82) w = Go.Result.ok 0 w := by intros; kernel_rfl
@[simp] theorem Tryp.sizeOf83 : ∀ (w : Go.World), Go.Sem.run (cutP Go.Proofs.Try.prog) (Go.sizeOf 83) w = Go.Result.ok 0 w := by intros; kernel_rfl
@[simp] theorem Tryp.sizeOf84 : ∀ (w : Go.World), Go.Sem.run (cutP Go.Proofs.Try.prog) (Go.sizeOf 84) w = Go.Result.ok 1 w := by intros; kernel_rfl
@[simp] theorem Tryp.sizeOf85 : ∀ (w : Go.World), Go.Sem.run (cutP Go.Proofs.Try.prog) (Go.sizeOf 85) w = Go.Result.ok 1 w := by intros; kernel_rfl
@[simp] theorem Tryp.sizeOf86 : ∀ (w : Go.World), Go.Sem.run (cutP Go.Proofs.Try.prog) (Go.sizeOf 86) w = Go.Result.ok 1 w := by intros; kernel_rfl
@[simp] theorem Tryp.sizeOf87 : ∀ (w : Go.World), Go.Sem.run (cutP Go.Proofs.Try.prog) (Go.sizeOf 87) w = Go.Result.ok 1 w := by intros; kernel_rfl
@[simp] theorem Tryp.sizeOf88 : ∀ (w : Go.World), Go.Sem.run (cutP Go.Proofs.Try.prog) (Go.sizeOf 88) w = Go.Result.ok 2 w := by intros; kernel_rfl
@[simp] theorem Tryp.sizeOf89 : ∀ (w : Go.World), Go.Sem.run (cutP Go.Proofs.Try.prog) (Go.sizeOf 89) w = Go.Result.ok 2 w := by intros; kernel_rfl
@[simp] theorem Tryp.sizeOf9 : ∀ (w : Go.World), Go.Sem.run (cutP Go.Proofs.Try.prog) (Go.sizeOf 9) w = Go.Result.ok 1 w := by intros; kernel_rfl
@[simp] theorem Tryp.sizeOf90 : ∀ (w : Go.World), Go.Sem.run (cutP Go.Proofs.Try.prog) (Go.sizeOf 90) w = Go.Result.ok 1 w := by intros; kernel_rfl
@[simp] theorem Tryp.sizeOf91 : ∀ (w : Go.World), Go.Sem.run (cutP Go.Proofs.Try.prog) (Go.sizeOf 91) w = Go.Result.ok 1 w := by intros; kernel_rfl
@[simp] theorem Tryp.sizeOf92 : ∀ (w : Go.World), Go.Sem.run (cutP Go.Proofs.Try.prog) (Go.sizeOf 92) w = Go.Result.ok 1 w := by intros; kernel_rfl
@[simp] theorem Tryp.sizeOf93 : ∀ (w : Go.World), Go.Sem.run (cutP Go.Proofs.Try.prog) (Go.sizeOf 93) w = Go.Result.ok 1 w := by intros; kernel_rfl
@[simp] theorem Tryp.sizeOf94 : ∀ (w : Go.World), Go.Sem.run (cutP Go.Proofs.Try.prog) (Go.sizeOf 94) w = Go.Result.ok 1 w := by intros; kernel_rfl
@[simp] theorem Tryp.sizeOf95 : ∀ (w : Go.World), Go.Sem.run (cutP Go.Proofs.Try.prog) (Go.sizeOf 95) w = Go.Result.ok 1 w := by intros; kernel_rfl
@[simp] theorem Tryp.sizeOf96 : ∀ (w : Go.World), Go.Sem.run (cutP Go.Proofs.Try.prog) (Go.sizeOf 96) w = Go.Result.ok 1 w := by intros; kernel_rfl
@[simp] theorem Tryp.sizeOf97 : ∀ (w : Go.World), Go.Sem.run (cutP Go.Proofs.Try.prog) (Go.sizeOf 97) w = Go.Result.ok 1 w := by intros; kernel_rfl
@[simp] theorem Tryp.sizeOf98 : ∀ (w : Go.World), Go.Sem.run (cutP Go.Proofs.Try.prog) (Go.sizeOf 98) w = Go.Result.ok 1 w := by intros; kernel_rfl
@[simp] theorem Tryp.sizeOf99 : ∀ (w : Go.World), Go.Sem.run (cutP Go.Proofs.Try.prog) (Go.sizeOf 99) w = Go.Result.ok 1 w := by intros; kernel_rfl
theorem Tryp.stoodInHeld116 : (cutP Go.Proofs.Try.prog).stoodInHeld 116 = Bool.true := by kernel_rfl
theorem Tryp.stoodInHeld117 : (cutP Go.Proofs.Try.prog).stoodInHeld 117 = Bool.true := by kernel_rfl
theorem Tryp.stoodInHeld119 : (cutP Go.Proofs.Try.prog).stoodInHeld 119 = Bool.true := by kernel_rfl
theorem Tryp.stoodInHeld120 : (cutP Go.Proofs.Try.prog).stoodInHeld 120 = Bool.true := by kernel_rfl
theorem Tryp.stoodInHeld127 : (cutP Go.Proofs.Try.prog).stoodInHeld 127 = Bool.true := by kernel_rfl
theorem Tryp.stoodInHeld128 : (cutP Go.Proofs.Try.prog).stoodInHeld 128 = Bool.true := by kernel_rfl
theorem Tryp.stoodInHeld13 : (cutP Go.Proofs.Try.prog).stoodInHeld 13 = Bool.true := by kernel_rfl
theorem Tryp.stoodInHeld14 : (cutP Go.Proofs.Try.prog).stoodInHeld 14 = Bool.true := by kernel_rfl
theorem Tryp.stoodInHeld18 : (cutP Go.Proofs.Try.prog).stoodInHeld 18 = Bool.true := by kernel_rfl
theorem Tryp.stoodInHeld19 : (cutP Go.Proofs.Try.prog).stoodInHeld 19 = Bool.true := by kernel_rfl
theorem Tryp.stoodInHeld7 : (cutP Go.Proofs.Try.prog).stoodInHeld 7 = Bool.false := by kernel_rfl
theorem Tryp.stoodInHeld70 : (cutP Go.Proofs.Try.prog).stoodInHeld 70 = Bool.false := by kernel_rfl
theorem Tryp.stoodInHeld71 : (cutP Go.Proofs.Try.prog).stoodInHeld 71 = Bool.false := by kernel_rfl
theorem Tryp.stoodInHeld8 : (cutP Go.Proofs.Try.prog).stoodInHeld 8 = Bool.false := by kernel_rfl
theorem Tryp.stoodInHeld80 : (cutP Go.Proofs.Try.prog).stoodInHeld 80 = Bool.false := by kernel_rfl
theorem Tryp.stoodInHeld81 : (cutP Go.Proofs.Try.prog).stoodInHeld 81 = Bool.false := by kernel_rfl
theorem Tryp.stoodInHeld82 : (cutP Go.Proofs.Try.prog).stoodInHeld 82 = Bool.false := by kernel_rfl
theorem Tryp.stoodInHeld83 : (cutP Go.Proofs.Try.prog).stoodInHeld 83 = Bool.false := by kernel_rfl
theorem Tryp.stoodInHeld85 : (cutP Go.Proofs.Try.prog).stoodInHeld 85 = Bool.false := by kernel_rfl
theorem Tryp.stoodInHeld86 : (cutP Go.Proofs.Try.prog).stoodInHeld 86 = Bool.false := by kernel_rfl
theorem Tryp.stoodInHeld88 : (cutP Go.Proofs.Try.prog).stoodInHeld 88 = Bool.false := by kernel_rfl
theorem Tryp.stoodInHeld89 : (cutP Go.Proofs.Try.prog).stoodInHeld 89 = Bool.false := by kernel_rfl
@[simp] theorem Tryp.type0 : (cutP Go.Proofs.Try.prog).types[0]? = Option.some Go.Proofs.Try.t0 := by kernel_rfl
@[simp] theorem Tryp.type1 : (cutP Go.Proofs.Try.prog).types[1]? = Option.some Go.Proofs.Try.t1 := by kernel_rfl
@[simp] theorem Tryp.type10 : (cutP Go.Proofs.Try.prog).types[10]? = Option.some Go.Proofs.Try.t10 := by kernel_rfl
@[simp] theorem Tryp.type100 : (cutP Go.Proofs.Try.prog).types[100]? = Option.some Go.Proofs.Try.t100 := by kernel_rfl
@[simp] theorem Tryp.type101 : (cutP Go.Proofs.Try.prog).types[101]? = Option.some Go.Proofs.Try.t101 := by kernel_rfl
@[simp] theorem Tryp.type102 : (cutP Go.Proofs.Try.prog).types[102]? = Option.some Go.Proofs.Try.t102 := by kernel_rfl
@[simp] theorem Tryp.type103 : (cutP Go.Proofs.Try.prog).types[103]? = Option.some Go.Proofs.Try.t103 := by kernel_rfl
@[simp] theorem Tryp.type104 : (cutP Go.Proofs.Try.prog).types[104]? = Option.some Go.Proofs.Try.t104 := by kernel_rfl
@[simp] theorem Tryp.type105 : (cutP Go.Proofs.Try.prog).types[105]? = Option.some Go.Proofs.Try.t105 := by kernel_rfl
@[simp] theorem Tryp.type106 : (cutP Go.Proofs.Try.prog).types[106]? = Option.some Go.Proofs.Try.t106 := by kernel_rfl
@[simp] theorem Tryp.type107 : (cutP Go.Proofs.Try.prog).types[107]? = Option.some Go.Proofs.Try.t107 := by kernel_rfl
@[simp] theorem Tryp.type108 : (cutP Go.Proofs.Try.prog).types[108]? = Option.some Go.Proofs.Try.t108 := by kernel_rfl
@[simp] theorem Tryp.type109 : (cutP Go.Proofs.Try.prog).types[109]? = Option.some Go.Proofs.Try.t109 := by kernel_rfl
@[simp] theorem Tryp.type11 : (cutP Go.Proofs.Try.prog).types[11]? = Option.some Go.Proofs.Try.t11 := by kernel_rfl
@[simp] theorem Tryp.type110 : (cutP Go.Proofs.Try.prog).types[110]? = Option.some Go.Proofs.Try.t110 := by kernel_rfl
@[simp] theorem Tryp.type111 : (cutP Go.Proofs.Try.prog).types[111]? = Option.some Go.Proofs.Try.t111 := by kernel_rfl
@[simp] theorem Tryp.type112 : (cutP Go.Proofs.Try.prog).types[112]? = Option.some Go.Proofs.Try.t112 := by kernel_rfl
@[simp] theorem Tryp.type113 : (cutP Go.Proofs.Try.prog).types[113]? = Option.some Go.Proofs.Try.t113 := by kernel_rfl
@[simp] theorem Tryp.type114 : (cutP Go.Proofs.Try.prog).types[114]? = Option.some Go.Proofs.Try.t114 := by kernel_rfl
@[simp] theorem Tryp.type115 : (cutP Go.Proofs.Try.prog).types[115]? = Option.some Go.Proofs.Try.t115 := by kernel_rfl
@[simp] theorem Tryp.type116 : (cutP Go.Proofs.Try.prog).types[116]? = Option.some Go.Proofs.Try.t116 := by kernel_rfl
@[simp] theorem Tryp.type117 : (cutP Go.Proofs.Try.prog).types[117]? = Option.some Go.Proofs.Try.t117 := by kernel_rfl
@[simp] theorem Tryp.type118 : (cutP Go.Proofs.Try.prog).types[118]? = Option.some Go.Proofs.Try.t118 := by kernel_rfl
@[simp] theorem Tryp.type119 : (cutP Go.Proofs.Try.prog).types[119]? = Option.some Go.Proofs.Try.t119 := by kernel_rfl
@[simp] theorem Tryp.type12 : (cutP Go.Proofs.Try.prog).types[12]? = Option.some Go.Proofs.Try.t12 := by kernel_rfl
@[simp] theorem Tryp.type120 : (cutP Go.Proofs.Try.prog).types[120]? = Option.some Go.Proofs.Try.t120 := by kernel_rfl
@[simp] theorem Tryp.type121 : (cutP Go.Proofs.Try.prog).types[121]? = Option.some Go.Proofs.Try.t121 := by kernel_rfl
@[simp] theorem Tryp.type122 : (cutP Go.Proofs.Try.prog).types[122]? = Option.some Go.Proofs.Try.t122 := by kernel_rfl
@[simp] theorem Tryp.type123 : (cutP Go.Proofs.Try.prog).types[123]? = Option.some Go.Proofs.Try.t123 := by kernel_rfl
@[simp] theorem Tryp.type124 : (cutP Go.Proofs.Try.prog).types[124]? = Option.some Go.Proofs.Try.t124 := by kernel_rfl
@[simp] theorem Tryp.type125 : (cutP Go.Proofs.Try.prog).types[125]? = Option.some Go.Proofs.Try.t125 := by kernel_rfl
@[simp] theorem Tryp.type126 : (cutP Go.Proofs.Try.prog).types[126]? = Option.some Go.Proofs.Try.t126 := by kernel_rfl
@[simp] theorem Tryp.type127 : (cutP Go.Proofs.Try.prog).types[127]? = Option.some Go.Proofs.Try.t127 := by kernel_rfl
@[simp] theorem Tryp.type128 : (cutP Go.Proofs.Try.prog).types[128]? = Option.some Go.Proofs.Try.t128 := by kernel_rfl
@[simp] theorem Tryp.type13 : (cutP Go.Proofs.Try.prog).types[13]? = Option.some Go.Proofs.Try.t13 := by kernel_rfl
@[simp] theorem Tryp.type14 : (cutP Go.Proofs.Try.prog).types[14]? = Option.some Go.Proofs.Try.t14 := by kernel_rfl
@[simp] theorem Tryp.type15 : (cutP Go.Proofs.Try.prog).types[15]? = Option.some Go.Proofs.Try.t15 := by kernel_rfl
@[simp] theorem Tryp.type16 : (cutP Go.Proofs.Try.prog).types[16]? = Option.some Go.Proofs.Try.t16 := by kernel_rfl
@[simp] theorem Tryp.type17 : (cutP Go.Proofs.Try.prog).types[17]? = Option.some Go.Proofs.Try.t17 := by kernel_rfl
@[simp] theorem Tryp.type18 : (cutP Go.Proofs.Try.prog).types[18]? = Option.some Go.Proofs.Try.t18 := by kernel_rfl
@[simp] theorem Tryp.type19 : (cutP Go.Proofs.Try.prog).types[19]? = Option.some Go.Proofs.Try.t19 := by kernel_rfl
@[simp] theorem Tryp.type2 : (cutP Go.Proofs.Try.prog).types[2]? = Option.some Go.Proofs.Try.t2 := by kernel_rfl
@[simp] theorem Tryp.type20 : (cutP Go.Proofs.Try.prog).types[20]? = Option.some Go.Proofs.Try.t20 := by kernel_rfl
@[simp] theorem Tryp.type21 : (cutP Go.Proofs.Try.prog).types[21]? = Option.some Go.Proofs.Try.t21 := by kernel_rfl
@[simp] theorem Tryp.type22 : (cutP Go.Proofs.Try.prog).types[22]? = Option.some Go.Proofs.Try.t22 := by kernel_rfl
@[simp] theorem Tryp.type23 : (cutP Go.Proofs.Try.prog).types[23]? = Option.some Go.Proofs.Try.t23 := by kernel_rfl
@[simp] theorem Tryp.type24 : (cutP Go.Proofs.Try.prog).types[24]? = Option.some Go.Proofs.Try.t24 := by kernel_rfl
@[simp] theorem Tryp.type25 : (cutP Go.Proofs.Try.prog).types[25]? = Option.some Go.Proofs.Try.t25 := by kernel_rfl
@[simp] theorem Tryp.type26 : (cutP Go.Proofs.Try.prog).types[26]? = Option.some Go.Proofs.Try.t26 := by kernel_rfl
@[simp] theorem Tryp.type27 : (cutP Go.Proofs.Try.prog).types[27]? = Option.some Go.Proofs.Try.t27 := by kernel_rfl
@[simp] theorem Tryp.type28 : (cutP Go.Proofs.Try.prog).types[28]? = Option.some Go.Proofs.Try.t28 := by kernel_rfl
@[simp] theorem Tryp.type29 : (cutP Go.Proofs.Try.prog).types[29]? = Option.some Go.Proofs.Try.t29 := by kernel_rfl
@[simp] theorem Tryp.type3 : (cutP Go.Proofs.Try.prog).types[3]? = Option.some Go.Proofs.Try.t3 := by kernel_rfl
@[simp] theorem Tryp.type30 : (cutP Go.Proofs.Try.prog).types[30]? = Option.some Go.Proofs.Try.t30 := by kernel_rfl
@[simp] theorem Tryp.type31 : (cutP Go.Proofs.Try.prog).types[31]? = Option.some Go.Proofs.Try.t31 := by kernel_rfl
@[simp] theorem Tryp.type32 : (cutP Go.Proofs.Try.prog).types[32]? = Option.some Go.Proofs.Try.t32 := by kernel_rfl
@[simp] theorem Tryp.type33 : (cutP Go.Proofs.Try.prog).types[33]? = Option.some Go.Proofs.Try.t33 := by kernel_rfl
@[simp] theorem Tryp.type34 : (cutP Go.Proofs.Try.prog).types[34]? = Option.some Go.Proofs.Try.t34 := by kernel_rfl
@[simp] theorem Tryp.type35 : (cutP Go.Proofs.Try.prog).types[35]? = Option.some Go.Proofs.Try.t35 := by kernel_rfl
@[simp] theorem Tryp.type36 : (cutP Go.Proofs.Try.prog).types[36]? = Option.some Go.Proofs.Try.t36 := by kernel_rfl
@[simp] theorem Tryp.type37 : (cutP Go.Proofs.Try.prog).types[37]? = Option.some Go.Proofs.Try.t37 := by kernel_rfl
@[simp] theorem Tryp.type38 : (cutP Go.Proofs.Try.prog).types[38]? = Option.some Go.Proofs.Try.t38 := by kernel_rfl
@[simp] theorem Tryp.type39 : (cutP Go.Proofs.Try.prog).types[39]? = Option.some Go.Proofs.Try.t39 := by kernel_rfl
@[simp] theorem Tryp.type4 : (cutP Go.Proofs.Try.prog).types[4]? = Option.some Go.Proofs.Try.t4 := by kernel_rfl
@[simp] theorem Tryp.type40 : (cutP Go.Proofs.Try.prog).types[40]? = Option.some Go.Proofs.Try.t40 := by kernel_rfl
@[simp] theorem Tryp.type41 : (cutP Go.Proofs.Try.prog).types[41]? = Option.some Go.Proofs.Try.t41 := by kernel_rfl
@[simp] theorem Tryp.type42 : (cutP Go.Proofs.Try.prog).types[42]? = Option.some Go.Proofs.Try.t42 := by kernel_rfl
@[simp] theorem Tryp.type43 : (cutP Go.Proofs.Try.prog).types[43]? = Option.some Go.Proofs.Try.t43 := by kernel_rfl
@[simp] theorem Tryp.type44 : (cutP Go.Proofs.Try.prog).types[44]? = Option.some Go.Proofs.Try.t44 := by kernel_rfl
@[simp] theorem Tryp.type45 : (cutP Go.Proofs.Try.prog).types[45]? = Option.some Go.Proofs.Try.t45 := by kernel_rfl
@[simp] theorem Tryp.type46 : (cutP Go.Proofs.Try.prog).types[46]? = Option.some Go.Proofs.Try.t46 := by kernel_rfl
@[simp] theorem Tryp.type47 : (cutP Go.Proofs.Try.prog).types[47]? = Option.some Go.Proofs.Try.t47 := by kernel_rfl
@[simp] theorem Tryp.type48 : (cutP Go.Proofs.Try.prog).types[48]? = Option.some Go.Proofs.Try.t48 := by kernel_rfl
@[simp] theorem Tryp.type49 : (cutP Go.Proofs.Try.prog).types[49]? = Option.some Go.Proofs.Try.t49 := by kernel_rfl
@[simp] theorem Tryp.type5 : (cutP Go.Proofs.Try.prog).types[5]? = Option.some Go.Proofs.Try.t5 := by kernel_rfl
@[simp] theorem Tryp.type50 : (cutP Go.Proofs.Try.prog).types[50]? = Option.some Go.Proofs.Try.t50 := by kernel_rfl
@[simp] theorem Tryp.type51 : (cutP Go.Proofs.Try.prog).types[51]? = Option.some Go.Proofs.Try.t51 := by kernel_rfl
@[simp] theorem Tryp.type52 : (cutP Go.Proofs.Try.prog).types[52]? = Option.some Go.Proofs.Try.t52 := by kernel_rfl
@[simp] theorem Tryp.type53 : (cutP Go.Proofs.Try.prog).types[53]? = Option.some Go.Proofs.Try.t53 := by kernel_rfl
@[simp] theorem Tryp.type54 : (cutP Go.Proofs.Try.prog).types[54]? = Option.some Go.Proofs.Try.t54 := by kernel_rfl
@[simp] theorem Tryp.type55 : (cutP Go.Proofs.Try.prog).types[55]? = Option.some Go.Proofs.Try.t55 := by kernel_rfl
@[simp] theorem Tryp.type56 : (cutP Go.Proofs.Try.prog).types[56]? = Option.some Go.Proofs.Try.t56 := by kernel_rfl
@[simp] theorem Tryp.type57 : (cutP Go.Proofs.Try.prog).types[57]? = Option.some Go.Proofs.Try.t57 := by kernel_rfl
@[simp] theorem Tryp.type58 : (cutP Go.Proofs.Try.prog).types[58]? = Option.some Go.Proofs.Try.t58 := by kernel_rfl
@[simp] theorem Tryp.type59 : (cutP Go.Proofs.Try.prog).types[59]? = Option.some Go.Proofs.Try.t59 := by kernel_rfl
@[simp] theorem Tryp.type6 : (cutP Go.Proofs.Try.prog).types[6]? = Option.some Go.Proofs.Try.t6 := by kernel_rfl
@[simp] theorem Tryp.type60 : (cutP Go.Proofs.Try.prog).types[60]? = Option.some Go.Proofs.Try.t60 := by kernel_rfl
@[simp] theorem Tryp.type61 : (cutP Go.Proofs.Try.prog).types[61]? = Option.some Go.Proofs.Try.t61 := by kernel_rfl
@[simp] theorem Tryp.type62 : (cutP Go.Proofs.Try.prog).types[62]? = Option.some Go.Proofs.Try.t62 := by kernel_rfl
@[simp] theorem Tryp.type63 : (cutP Go.Proofs.Try.prog).types[63]? = Option.some Go.Proofs.Try.t63 := by kernel_rfl
@[simp] theorem Tryp.type64 : (cutP Go.Proofs.Try.prog).types[64]? = Option.some Go.Proofs.Try.t64 := by kernel_rfl
@[simp] theorem Tryp.type65 : (cutP Go.Proofs.Try.prog).types[65]? = Option.some Go.Proofs.Try.t65 := by kernel_rfl
@[simp] theorem Tryp.type66 : (cutP Go.Proofs.Try.prog).types[66]? = Option.some Go.Proofs.Try.t66 := by kernel_rfl
@[simp] theorem Tryp.type67 : (cutP Go.Proofs.Try.prog).types[67]? = Option.some Go.Proofs.Try.t67 := by kernel_rfl
@[simp] theorem Tryp.type68 : (cutP Go.Proofs.Try.prog).types[68]? = Option.some Go.Proofs.Try.t68 := by kernel_rfl
@[simp] theorem Tryp.type69 : (cutP Go.Proofs.Try.prog).types[69]? = Option.some Go.Proofs.Try.t69 := by kernel_rfl
@[simp] theorem Tryp.type7 : (cutP Go.Proofs.Try.prog).types[7]? = Option.some Go.Proofs.Try.t7 := by kernel_rfl
@[simp] theorem Tryp.type70 : (cutP Go.Proofs.Try.prog).types[70]? = Option.some Go.Proofs.Try.t70 := by kernel_rfl
@[simp] theorem Tryp.type71 : (cutP Go.Proofs.Try.prog).types[71]? = Option.some Go.Proofs.Try.t71 := by kernel_rfl
@[simp] theorem Tryp.type72 : (cutP Go.Proofs.Try.prog).types[72]? = Option.some Go.Proofs.Try.t72 := by kernel_rfl
@[simp] theorem Tryp.type73 : (cutP Go.Proofs.Try.prog).types[73]? = Option.some Go.Proofs.Try.t73 := by kernel_rfl
@[simp] theorem Tryp.type74 : (cutP Go.Proofs.Try.prog).types[74]? = Option.some Go.Proofs.Try.t74 := by kernel_rfl
@[simp] theorem Tryp.type75 : (cutP Go.Proofs.Try.prog).types[75]? = Option.some Go.Proofs.Try.t75 := by kernel_rfl
@[simp] theorem Tryp.type76 : (cutP Go.Proofs.Try.prog).types[76]? = Option.some Go.Proofs.Try.t76 := by kernel_rfl
@[simp] theorem Tryp.type77 : (cutP Go.Proofs.Try.prog).types[77]? = Option.some Go.Proofs.Try.t77 := by kernel_rfl
@[simp] theorem Tryp.type78 : (cutP Go.Proofs.Try.prog).types[78]? = Option.some Go.Proofs.Try.t78 := by kernel_rfl
@[simp] theorem Tryp.type79 : (cutP Go.Proofs.Try.prog).types[79]? = Option.some Go.Proofs.Try.t79 := by kernel_rfl
@[simp] theorem Tryp.type8 : (cutP Go.Proofs.Try.prog).types[8]? = Option.some Go.Proofs.Try.t8 := by kernel_rfl
@[simp] theorem Tryp.type80 : (cutP Go.Proofs.Try.prog).types[80]? = Option.some Go.Proofs.Try.t80 := by kernel_rfl
@[simp] theorem Tryp.type81 : (cutP Go.Proofs.Try.prog).types[81]? = Option.some Go.Proofs.Try.t81 := by kernel_rfl
@[simp] theorem Tryp.type82 : (cutP Go.Proofs.Try.prog).types[82]? = Option.some Go.Proofs.Try.t82 := by kernel_rfl
@[simp] theorem Tryp.type83 : (cutP Go.Proofs.Try.prog).types[83]? = Option.some Go.Proofs.Try.t83 := by kernel_rfl
@[simp] theorem Tryp.type84 : (cutP Go.Proofs.Try.prog).types[84]? = Option.some Go.Proofs.Try.t84 := by kernel_rfl
@[simp] theorem Tryp.type85 : (cutP Go.Proofs.Try.prog).types[85]? = Option.some Go.Proofs.Try.t85 := by kernel_rfl
@[simp] theorem Tryp.type86 : (cutP Go.Proofs.Try.prog).types[86]? = Option.some Go.Proofs.Try.t86 := by kernel_rfl
@[simp] theorem Tryp.type87 : (cutP Go.Proofs.Try.prog).types[87]? = Option.some Go.Proofs.Try.t87 := by kernel_rfl
@[simp] theorem Tryp.type88 : (cutP Go.Proofs.Try.prog).types[88]? = Option.some Go.Proofs.Try.t88 := by kernel_rfl
@[simp] theorem Tryp.type89 : (cutP Go.Proofs.Try.prog).types[89]? = Option.some Go.Proofs.Try.t89 := by kernel_rfl
@[simp] theorem Tryp.type9 : (cutP Go.Proofs.Try.prog).types[9]? = Option.some Go.Proofs.Try.t9 := by kernel_rfl
@[simp] theorem Tryp.type90 : (cutP Go.Proofs.Try.prog).types[90]? = Option.some Go.Proofs.Try.t90 := by kernel_rfl
@[simp] theorem Tryp.type91 : (cutP Go.Proofs.Try.prog).types[91]? = Option.some Go.Proofs.Try.t91 := by kernel_rfl
@[simp] theorem Tryp.type92 : (cutP Go.Proofs.Try.prog).types[92]? = Option.some Go.Proofs.Try.t92 := by kernel_rfl
@[simp] theorem Tryp.type93 : (cutP Go.Proofs.Try.prog).types[93]? = Option.some Go.Proofs.Try.t93 := by kernel_rfl
@[simp] theorem Tryp.type94 : (cutP Go.Proofs.Try.prog).types[94]? = Option.some Go.Proofs.Try.t94 := by kernel_rfl
@[simp] theorem Tryp.type95 : (cutP Go.Proofs.Try.prog).types[95]? = Option.some Go.Proofs.Try.t95 := by kernel_rfl
@[simp] theorem Tryp.type96 : (cutP Go.Proofs.Try.prog).types[96]? = Option.some Go.Proofs.Try.t96 := by kernel_rfl
@[simp] theorem Tryp.type97 : (cutP Go.Proofs.Try.prog).types[97]? = Option.some Go.Proofs.Try.t97 := by kernel_rfl
@[simp] theorem Tryp.type98 : (cutP Go.Proofs.Try.prog).types[98]? = Option.some Go.Proofs.Try.t98 := by kernel_rfl
@[simp] theorem Tryp.type99 : (cutP Go.Proofs.Try.prog).types[99]? = Option.some Go.Proofs.Try.t99 := by kernel_rfl
@[simp] theorem Tryp.typeInfo0 : ∀ (w : Go.World), Go.Sem.run (cutP Go.Proofs.Try.prog) (Go.typeInfo 0) w = Go.Result.ok Go.Proofs.Try.t0 w := by intros; kernel_rfl
@[simp] theorem Tryp.typeInfo1 : ∀ (w : Go.World), Go.Sem.run (cutP Go.Proofs.Try.prog) (Go.typeInfo 1) w = Go.Result.ok Go.Proofs.Try.t1 w := by intros; kernel_rfl
@[simp] theorem Tryp.typeInfo10 : ∀ (w : Go.World), Go.Sem.run (cutP Go.Proofs.Try.prog) (Go.typeInfo 10) w = Go.Result.ok Go.Proofs.Try.t10 w := by intros; kernel_rfl
@[simp] theorem Tryp.typeInfo100 : ∀ (w : Go.World), Go.Sem.run (cutP Go.Proofs.Try.prog) (Go.typeInfo 100) w = Go.Result.ok Go.Proofs.Try.t100 w := by intros; kernel_rfl
@[simp] theorem Tryp.typeInfo101 : ∀ (w : Go.World), Go.Sem.run (cutP Go.Proofs.Try.prog) (Go.typeInfo 101) w = Go.Result.ok Go.Proofs.Try.t101 w := by intros; kernel_rfl
@[simp] theorem Tryp.typeInfo102 : ∀ (w : Go.World), Go.Sem.run (cutP Go.Proofs.Try.prog) (Go.typeInfo 102) w = Go.Result.ok Go.Proofs.Try.t102 w := by intros; kernel_rfl
@[simp] theorem Tryp.typeInfo103 : ∀ (w : Go.World), Go.Sem.run (cutP Go.Proofs.Try.prog) (Go.typeInfo 103) w = Go.Result.ok Go.Proofs.Try.t103 w := by intros; kernel_rfl
@[simp] theorem Tryp.typeInfo104 : ∀ (w : Go.World), Go.Sem.run (cutP Go.Proofs.Try.prog) (Go.typeInfo 104) w = Go.Result.ok Go.Proofs.Try.t104 w := by intros; kernel_rfl
@[simp] theorem Tryp.typeInfo105 : ∀ (w : Go.World), Go.Sem.run (cutP Go.Proofs.Try.prog) (Go.typeInfo 105) w = Go.Result.ok Go.Proofs.Try.t105 w := by intros; kernel_rfl
@[simp] theorem Tryp.typeInfo106 : ∀ (w : Go.World), Go.Sem.run (cutP Go.Proofs.Try.prog) (Go.typeInfo 106) w = Go.Result.ok Go.Proofs.Try.t106 w := by intros; kernel_rfl
@[simp] theorem Tryp.typeInfo107 : ∀ (w : Go.World), Go.Sem.run (cutP Go.Proofs.Try.prog) (Go.typeInfo 107) w = Go.Result.ok Go.Proofs.Try.t107 w := by intros; kernel_rfl
@[simp] theorem Tryp.typeInfo108 : ∀ (w : Go.World), Go.Sem.run (cutP Go.Proofs.Try.prog) (Go.typeInfo 108) w = Go.Result.ok Go.Proofs.Try.t108 w := by intros; kernel_rfl
@[simp] theorem Tryp.typeInfo109 : ∀ (w : Go.World), Go.Sem.run (cutP Go.Proofs.Try.prog) (Go.typeInfo 109) w = Go.Result.ok Go.Proofs.Try.t109 w := by intros; kernel_rfl
@[simp] theorem Tryp.typeInfo11 : ∀ (w : Go.World), Go.Sem.run (cutP Go.Proofs.Try.prog) (Go.typeInfo 11) w = Go.Result.ok Go.Proofs.Try.t11 w := by intros; kernel_rfl
@[simp] theorem Tryp.typeInfo110 : ∀ (w : Go.World), Go.Sem.run (cutP Go.Proofs.Try.prog) (Go.typeInfo 110) w = Go.Result.ok Go.Proofs.Try.t110 w := by intros; kernel_rfl
@[simp] theorem Tryp.typeInfo111 : ∀ (w : Go.World), Go.Sem.run (cutP Go.Proofs.Try.prog) (Go.typeInfo 111) w = Go.Result.ok Go.Proofs.Try.t111 w := by intros; kernel_rfl
@[simp] theorem Tryp.typeInfo112 : ∀ (w : Go.World), Go.Sem.run (cutP Go.Proofs.Try.prog) (Go.typeInfo 112) w = Go.Result.ok Go.Proofs.Try.t112 w := by intros; kernel_rfl
@[simp] theorem Tryp.typeInfo113 : ∀ (w : Go.World), Go.Sem.run (cutP Go.Proofs.Try.prog) (Go.typeInfo 113) w = Go.Result.ok Go.Proofs.Try.t113 w := by intros; kernel_rfl
@[simp] theorem Tryp.typeInfo114 : ∀ (w : Go.World), Go.Sem.run (cutP Go.Proofs.Try.prog) (Go.typeInfo 114) w = Go.Result.ok Go.Proofs.Try.t114 w := by intros; kernel_rfl
@[simp] theorem Tryp.typeInfo115 : ∀ (w : Go.World), Go.Sem.run (cutP Go.Proofs.Try.prog) (Go.typeInfo 115) w = Go.Result.ok Go.Proofs.Try.t115 w := by intros; kernel_rfl
@[simp] theorem Tryp.typeInfo116 : ∀ (w : Go.World), Go.Sem.run (cutP Go.Proofs.Try.prog) (Go.typeInfo 116) w = Go.Result.ok Go.Proofs.Try.t116 w := by intros; kernel_rfl
@[simp] theorem Tryp.typeInfo117 : ∀ (w : Go.World), Go.Sem.run (cutP Go.Proofs.Try.prog) (Go.typeInfo 117) w = Go.Result.ok Go.Proofs.Try.t117 w := by intros; kernel_rfl
@[simp] theorem Tryp.typeInfo118 : ∀ (w : Go.World), Go.Sem.run (cutP Go.Proofs.Try.prog) (Go.typeInfo 118) w = Go.Result.ok Go.Proofs.Try.t118 w := by intros; kernel_rfl
@[simp] theorem Tryp.typeInfo119 : ∀ (w : Go.World), Go.Sem.run (cutP Go.Proofs.Try.prog) (Go.typeInfo 119) w = Go.Result.ok Go.Proofs.Try.t119 w := by intros; kernel_rfl
@[simp] theorem Tryp.typeInfo12 : ∀ (w : Go.World), Go.Sem.run (cutP Go.Proofs.Try.prog) (Go.typeInfo 12) w = Go.Result.ok Go.Proofs.Try.t12 w := by intros; kernel_rfl
@[simp] theorem Tryp.typeInfo120 : ∀ (w : Go.World), Go.Sem.run (cutP Go.Proofs.Try.prog) (Go.typeInfo 120) w = Go.Result.ok Go.Proofs.Try.t120 w := by intros; kernel_rfl
@[simp] theorem Tryp.typeInfo121 : ∀ (w : Go.World), Go.Sem.run (cutP Go.Proofs.Try.prog) (Go.typeInfo 121) w = Go.Result.ok Go.Proofs.Try.t121 w := by intros; kernel_rfl
@[simp] theorem Tryp.typeInfo122 : ∀ (w : Go.World), Go.Sem.run (cutP Go.Proofs.Try.prog) (Go.typeInfo 122) w = Go.Result.ok Go.Proofs.Try.t122 w := by intros; kernel_rfl
@[simp] theorem Tryp.typeInfo123 : ∀ (w : Go.World), Go.Sem.run (cutP Go.Proofs.Try.prog) (Go.typeInfo 123) w = Go.Result.ok Go.Proofs.Try.t123 w := by intros; kernel_rfl
@[simp] theorem Tryp.typeInfo124 : ∀ (w : Go.World), Go.Sem.run (cutP Go.Proofs.Try.prog) (Go.typeInfo 124) w = Go.Result.ok Go.Proofs.Try.t124 w := by intros; kernel_rfl
@[simp] theorem Tryp.typeInfo125 : ∀ (w : Go.World), Go.Sem.run (cutP Go.Proofs.Try.prog) (Go.typeInfo 125) w = Go.Result.ok Go.Proofs.Try.t125 w := by intros; kernel_rfl
@[simp] theorem Tryp.typeInfo126 : ∀ (w : Go.World), Go.Sem.run (cutP Go.Proofs.Try.prog) (Go.typeInfo 126) w = Go.Result.ok Go.Proofs.Try.t126 w := by intros; kernel_rfl
@[simp] theorem Tryp.typeInfo127 : ∀ (w : Go.World), Go.Sem.run (cutP Go.Proofs.Try.prog) (Go.typeInfo 127) w = Go.Result.ok Go.Proofs.Try.t127 w := by intros; kernel_rfl
@[simp] theorem Tryp.typeInfo128 : ∀ (w : Go.World), Go.Sem.run (cutP Go.Proofs.Try.prog) (Go.typeInfo 128) w = Go.Result.ok Go.Proofs.Try.t128 w := by intros; kernel_rfl
@[simp] theorem Tryp.typeInfo13 : ∀ (w : Go.World), Go.Sem.run (cutP Go.Proofs.Try.prog) (Go.typeInfo 13) w = Go.Result.ok Go.Proofs.Try.t13 w := by intros; kernel_rfl
@[simp] theorem Tryp.typeInfo14 : ∀ (w : Go.World), Go.Sem.run (cutP Go.Proofs.Try.prog) (Go.typeInfo 14) w = Go.Result.ok Go.Proofs.Try.t14 w := by intros; kernel_rfl
@[simp] theorem Tryp.typeInfo15 : ∀ (w : Go.World), Go.Sem.run (cutP Go.Proofs.Try.prog) (Go.typeInfo 15) w = Go.Result.ok Go.Proofs.Try.t15 w := by intros; kernel_rfl
@[simp] theorem Tryp.typeInfo16 : ∀ (w : Go.World), Go.Sem.run (cutP Go.Proofs.Try.prog) (Go.typeInfo 16) w = Go.Result.ok Go.Proofs.Try.t16 w := by intros; kernel_rfl
@[simp] theorem Tryp.typeInfo17 : ∀ (w : Go.World), Go.Sem.run (cutP Go.Proofs.Try.prog) (Go.typeInfo 17) w = Go.Result.ok Go.Proofs.Try.t17 w := by intros; kernel_rfl
@[simp] theorem Tryp.typeInfo18 : ∀ (w : Go.World), Go.Sem.run (cutP Go.Proofs.Try.prog) (Go.typeInfo 18) w = Go.Result.ok Go.Proofs.Try.t18 w := by intros; kernel_rfl
@[simp] theorem Tryp.typeInfo19 : ∀ (w : Go.World), Go.Sem.run (cutP Go.Proofs.Try.prog) (Go.typeInfo 19) w = Go.Result.ok Go.Proofs.Try.t19 w := by intros; kernel_rfl
@[simp] theorem Tryp.typeInfo2 : ∀ (w : Go.World), Go.Sem.run (cutP Go.Proofs.Try.prog) (Go.typeInfo 2) w = Go.Result.ok Go.Proofs.Try.t2 w := by intros; kernel_rfl
@[simp] theorem Tryp.typeInfo20 : ∀ (w : Go.World), Go.Sem.run (cutP Go.Proofs.Try.prog) (Go.typeInfo 20) w = Go.Result.ok Go.Proofs.Try.t20 w := by intros; kernel_rfl
@[simp] theorem Tryp.typeInfo21 : ∀ (w : Go.World), Go.Sem.run (cutP Go.Proofs.Try.prog) (Go.typeInfo 21) w = Go.Result.ok Go.Proofs.Try.t21 w := by intros; kernel_rfl
@[simp] theorem Tryp.typeInfo22 : ∀ (w : Go.World), Go.Sem.run (cutP Go.Proofs.Try.prog) (Go.typeInfo 22) w = Go.Result.ok Go.Proofs.Try.t22 w := by intros; kernel_rfl
@[simp] theorem Tryp.typeInfo23 : ∀ (w : Go.World), Go.Sem.run (cutP Go.Proofs.Try.prog) (Go.typeInfo 23) w = Go.Result.ok Go.Proofs.Try.t23 w := by intros; kernel_rfl
@[simp] theorem Tryp.typeInfo24 : ∀ (w : Go.World), Go.Sem.run (cutP Go.Proofs.Try.prog) (Go.typeInfo 24) w = Go.Result.ok Go.Proofs.Try.t24 w := by intros; kernel_rfl
@[simp] theorem Tryp.typeInfo25 : ∀ (w : Go.World), Go.Sem.run (cutP Go.Proofs.Try.prog) (Go.typeInfo 25) w = Go.Result.ok Go.Proofs.Try.t25 w := by intros; kernel_rfl
@[simp] theorem Tryp.typeInfo26 : ∀ (w : Go.World), Go.Sem.run (cutP Go.Proofs.Try.prog) (Go.typeInfo 26) w = Go.Result.ok Go.Proofs.Try.t26 w := by intros; kernel_rfl
@[simp] theorem Tryp.typeInfo27 : ∀ (w : Go.World), Go.Sem.run (cutP Go.Proofs.Try.prog) (Go.typeInfo 27) w = Go.Result.ok Go.Proofs.Try.t27 w := by intros; kernel_rfl
@[simp] theorem Tryp.typeInfo28 : ∀ (w : Go.World), Go.Sem.run (cutP Go.Proofs.Try.prog) (Go.typeInfo 28) w = Go.Result.ok Go.Proofs.Try.t28 w := by intros; kernel_rfl
@[simp] theorem Tryp.typeInfo29 : ∀ (w : Go.World), Go.Sem.run (cutP Go.Proofs.Try.prog) (Go.typeInfo 29) w = Go.Result.ok Go.Proofs.Try.t29 w := by intros; kernel_rfl
@[simp] theorem Tryp.typeInfo3 : ∀ (w : Go.World), Go.Sem.run (cutP Go.Proofs.Try.prog) (Go.typeInfo 3) w = Go.Result.ok Go.Proofs.Try.t3 w := by intros; kernel_rfl
@[simp] theorem Tryp.typeInfo30 : ∀ (w : Go.World), Go.Sem.run (cutP Go.Proofs.Try.prog) (Go.typeInfo 30) w = Go.Result.ok Go.Proofs.Try.t30 w := by intros; kernel_rfl
@[simp] theorem Tryp.typeInfo31 : ∀ (w : Go.World), Go.Sem.run (cutP Go.Proofs.Try.prog) (Go.typeInfo 31) w = Go.Result.ok Go.Proofs.Try.t31 w := by intros; kernel_rfl
@[simp] theorem Tryp.typeInfo32 : ∀ (w : Go.World), Go.Sem.run (cutP Go.Proofs.Try.prog) (Go.typeInfo 32) w = Go.Result.ok Go.Proofs.Try.t32 w := by intros; kernel_rfl
@[simp] theorem Tryp.typeInfo33 : ∀ (w : Go.World), Go.Sem.run (cutP Go.Proofs.Try.prog) (Go.typeInfo 33) w = Go.Result.ok Go.Proofs.Try.t33 w := by intros; kernel_rfl
@[simp] theorem Tryp.typeInfo34 : ∀ (w : Go.World), Go.Sem.run (cutP Go.Proofs.Try.prog) (Go.typeInfo 34) w = Go.Result.ok Go.Proofs.Try.t34 w := by intros; kernel_rfl
@[simp] theorem Tryp.typeInfo35 : ∀ (w : Go.World), Go.Sem.run (cutP Go.Proofs.Try.prog) (Go.typeInfo 35) w = Go.Result.ok Go.Proofs.Try.t35 w := by intros; kernel_rfl
@[simp] theorem Tryp.typeInfo36 : ∀ (w : Go.World), Go.Sem.run (cutP Go.Proofs.Try.prog) (Go.typeInfo 36) w = Go.Result.ok Go.Proofs.Try.t36 w := by intros; kernel_rfl
@[simp] theorem Tryp.typeInfo37 : ∀ (w : Go.World), Go.Sem.run (cutP Go.Proofs.Try.prog) (Go.typeInfo 37) w = Go.Result.ok Go.Proofs.Try.t37 w := by intros; kernel_rfl
@[simp] theorem Tryp.typeInfo38 : ∀ (w : Go.World), Go.Sem.run (cutP Go.Proofs.Try.prog) (Go.typeInfo 38) w = Go.Result.ok Go.Proofs.Try.t38 w := by intros; kernel_rfl
@[simp] theorem Tryp.typeInfo39 : ∀ (w : Go.World), Go.Sem.run (cutP Go.Proofs.Try.prog) (Go.typeInfo 39) w = Go.Result.ok Go.Proofs.Try.t39 w := by intros; kernel_rfl
@[simp] theorem Tryp.typeInfo4 : ∀ (w : Go.World), Go.Sem.run (cutP Go.Proofs.Try.prog) (Go.typeInfo 4) w = Go.Result.ok Go.Proofs.Try.t4 w := by intros; kernel_rfl
@[simp] theorem Tryp.typeInfo40 : ∀ (w : Go.World), Go.Sem.run (cutP Go.Proofs.Try.prog) (Go.typeInfo 40) w = Go.Result.ok Go.Proofs.Try.t40 w := by intros; kernel_rfl
@[simp] theorem Tryp.typeInfo41 : ∀ (w : Go.World), Go.Sem.run (cutP Go.Proofs.Try.prog) (Go.typeInfo 41) w = Go.Result.ok Go.Proofs.Try.t41 w := by intros; kernel_rfl
@[simp] theorem Tryp.typeInfo42 : ∀ (w : Go.World), Go.Sem.run (cutP Go.Proofs.Try.prog) (Go.typeInfo 42) w = Go.Result.ok Go.Proofs.Try.t42 w := by intros; kernel_rfl
@[simp] theorem Tryp.typeInfo43 : ∀ (w : Go.World), Go.Sem.run (cutP Go.Proofs.Try.prog) (Go.typeInfo 43) w = Go.Result.ok Go.Proofs.Try.t43 w := by intros; kernel_rfl
@[simp] theorem Tryp.typeInfo44 : ∀ (w : Go.World), Go.Sem.run (cutP Go.Proofs.Try.prog) (Go.typeInfo 44) w = Go.Result.ok Go.Proofs.Try.t44 w := by intros; kernel_rfl
@[simp] theorem Tryp.typeInfo45 : ∀ (w : Go.World), Go.Sem.run (cutP Go.Proofs.Try.prog) (Go.typeInfo 45) w = Go.Result.ok Go.Proofs.Try.t45 w := by intros; kernel_rfl
@[simp] theorem Tryp.typeInfo46 : ∀ (w : Go.World), Go.Sem.run (cutP Go.Proofs.Try.prog) (Go.typeInfo 46) w = Go.Result.ok Go.Proofs.Try.t46 w := by intros; kernel_rfl
@[simp] theorem Tryp.typeInfo47 : ∀ (w : Go.World), Go.Sem.run (cutP Go.Proofs.Try.prog) (Go.typeInfo 47) w = Go.Result.ok Go.Proofs.Try.t47 w := by intros; kernel_rfl
@[simp] theorem Tryp.typeInfo48 : ∀ (w : Go.World), Go.Sem.run (cutP Go.Proofs.Try.prog) (Go.typeInfo 48) w = Go.Result.ok Go.Proofs.Try.t48 w := by intros; kernel_rfl
@[simp] theorem Tryp.typeInfo49 : ∀ (w : Go.World), Go.Sem.run (cutP Go.Proofs.Try.prog) (Go.typeInfo 49) w = Go.Result.ok Go.Proofs.Try.t49 w := by intros; kernel_rfl
@[simp] theorem Tryp.typeInfo5 : ∀ (w : Go.World), Go.Sem.run (cutP Go.Proofs.Try.prog) (Go.typeInfo 5) w = Go.Result.ok Go.Proofs.Try.t5 w := by intros; kernel_rfl
@[simp] theorem Tryp.typeInfo50 : ∀ (w : Go.World), Go.Sem.run (cutP Go.Proofs.Try.prog) (Go.typeInfo 50) w = Go.Result.ok Go.Proofs.Try.t50 w := by intros; kernel_rfl
@[simp] theorem Tryp.typeInfo51 : ∀ (w : Go.World), Go.Sem.run (cutP Go.Proofs.Try.prog) (Go.typeInfo 51) w = Go.Result.ok Go.Proofs.Try.t51 w := by intros; kernel_rfl
@[simp] theorem Tryp.typeInfo52 : ∀ (w : Go.World), Go.Sem.run (cutP Go.Proofs.Try.prog) (Go.typeInfo 52) w = Go.Result.ok Go.Proofs.Try.t52 w := by intros; kernel_rfl
@[simp] theorem Tryp.typeInfo53 : ∀ (w : Go.World), Go.Sem.run (cutP Go.Proofs.Try.prog) (Go.typeInfo 53) w = Go.Result.ok Go.Proofs.Try.t53 w := by intros; kernel_rfl
@[simp] theorem Tryp.typeInfo54 : ∀ (w : Go.World), Go.Sem.run (cutP Go.Proofs.Try.prog) (Go.typeInfo 54) w = Go.Result.ok Go.Proofs.Try.t54 w := by intros; kernel_rfl
@[simp] theorem Tryp.typeInfo55 : ∀ (w : Go.World), Go.Sem.run (cutP Go.Proofs.Try.prog) (Go.typeInfo 55) w = Go.Result.ok Go.Proofs.Try.t55 w := by intros; kernel_rfl
@[simp] theorem Tryp.typeInfo56 : ∀ (w : Go.World), Go.Sem.run (cutP Go.Proofs.Try.prog) (Go.typeInfo 56) w = Go.Result.ok Go.Proofs.Try.t56 w := by intros; kernel_rfl
@[simp] theorem Tryp.typeInfo57 : ∀ (w : Go.World), Go.Sem.run (cutP Go.Proofs.Try.prog) (Go.typeInfo 57) w = Go.Result.ok Go.Proofs.Try.t57 w := by intros; kernel_rfl
@[simp] theorem Tryp.typeInfo58 : ∀ (w : Go.World), Go.Sem.run (cutP Go.Proofs.Try.prog) (Go.typeInfo 58) w = Go.Result.ok Go.Proofs.Try.t58 w := by intros; kernel_rfl
@[simp] theorem Tryp.typeInfo59 : ∀ (w : Go.World), Go.Sem.run (cutP Go.Proofs.Try.prog) (Go.typeInfo 59) w = Go.Result.ok Go.Proofs.Try.t59 w := by intros; kernel_rfl
@[simp] theorem Tryp.typeInfo6 : ∀ (w : Go.World), Go.Sem.run (cutP Go.Proofs.Try.prog) (Go.typeInfo 6) w = Go.Result.ok Go.Proofs.Try.t6 w := by intros; kernel_rfl
@[simp] theorem Tryp.typeInfo60 : ∀ (w : Go.World), Go.Sem.run (cutP Go.Proofs.Try.prog) (Go.typeInfo 60) w = Go.Result.ok Go.Proofs.Try.t60 w := by intros; kernel_rfl
@[simp] theorem Tryp.typeInfo61 : ∀ (w : Go.World), Go.Sem.run (cutP Go.Proofs.Try.prog) (Go.typeInfo 61) w = Go.Result.ok Go.Proofs.Try.t61 w := by intros; kernel_rfl
@[simp] theorem Tryp.typeInfo62 : ∀ (w : Go.World), Go.Sem.run (cutP Go.Proofs.Try.prog) (Go.typeInfo 62) w = Go.Result.ok Go.Proofs.Try.t62 w := by intros; kernel_rfl
@[simp] theorem Tryp.typeInfo63 : ∀ (w : Go.World), Go.Sem.run (cutP Go.Proofs.Try.prog) (Go.typeInfo 63) w = Go.Result.ok Go.Proofs.Try.t63 w := by intros; kernel_rfl
@[simp] theorem Tryp.typeInfo64 : ∀ (w : Go.World), Go.Sem.run (cutP Go.Proofs.Try.prog) (Go.typeInfo 64) w = Go.Result.ok Go.Proofs.Try.t64 w := by intros; kernel_rfl
@[simp] theorem Tryp.typeInfo65 : ∀ (w : Go.World), Go.Sem.run (cutP Go.Proofs.Try.prog) (Go.typeInfo 65) w = Go.Result.ok Go.Proofs.Try.t65 w := by intros; kernel_rfl
@[simp] theorem Tryp.typeInfo66 : ∀ (w : Go.World), Go.Sem.run (cutP Go.Proofs.Try.prog) (Go.typeInfo 66) w = Go.Result.ok Go.Proofs.Try.t66 w := by intros; kernel_rfl
@[simp] theorem Tryp.typeInfo67 : ∀ (w : Go.World), Go.Sem.run (cutP Go.Proofs.Try.prog) (Go.typeInfo 67) w = Go.Result.ok Go.Proofs.Try.t67 w := by intros; kernel_rfl
@[simp] theorem Tryp.typeInfo68 : ∀ (w : Go.World), Go.Sem.run (cutP Go.Proofs.Try.prog) (Go.typeInfo 68) w = Go.Result.ok Go.Proofs.Try.t68 w := by intros; kernel_rfl
@[simp] theorem Tryp.typeInfo69 : ∀ (w : Go.World), Go.Sem.run (cutP Go.Proofs.Try.prog) (Go.typeInfo 69) w = Go.Result.ok Go.Proofs.Try.t69 w := by intros; kernel_rfl
@[simp] theorem Tryp.typeInfo7 : ∀ (w : Go.World), Go.Sem.run (cutP Go.Proofs.Try.prog) (Go.typeInfo 7) w = Go.Result.ok Go.Proofs.Try.t7 w := by intros; kernel_rfl
@[simp] theorem Tryp.typeInfo70 : ∀ (w : Go.World), Go.Sem.run (cutP Go.Proofs.Try.prog) (Go.typeInfo 70) w = Go.Result.ok Go.Proofs.Try.t70 w := by intros; kernel_rfl
@[simp] theorem Tryp.typeInfo71 : ∀ (w : Go.World), Go.Sem.run (cutP Go.Proofs.Try.prog) (Go.typeInfo 71) w = Go.Result.ok Go.Proofs.Try.t71 w := by intros; kernel_rfl
@[simp] theorem Tryp.typeInfo72 : ∀ (w : Go.World), Go.Sem.run (cutP Go.Proofs.Try.prog) (Go.typeInfo 72) w = Go.Result.ok Go.Proofs.Try.t72 w := by intros; kernel_rfl
@[simp] theorem Tryp.typeInfo73 : ∀ (w : Go.World), Go.Sem.run (cutP Go.Proofs.Try.prog) (Go.typeInfo 73) w = Go.Result.ok Go.Proofs.Try.t73 w := by intros; kernel_rfl
@[simp] theorem Tryp.typeInfo74 : ∀ (w : Go.World), Go.Sem.run (cutP Go.Proofs.Try.prog) (Go.typeInfo 74) w = Go.Result.ok Go.Proofs.Try.t74 w := by intros; kernel_rfl
@[simp] theorem Tryp.typeInfo75 : ∀ (w : Go.World), Go.Sem.run (cutP Go.Proofs.Try.prog) (Go.typeInfo 75) w = Go.Result.ok Go.Proofs.Try.t75 w := by intros; kernel_rfl
@[simp] theorem Tryp.typeInfo76 : ∀ (w : Go.World), Go.Sem.run (cutP Go.Proofs.Try.prog) (Go.typeInfo 76) w = Go.Result.ok Go.Proofs.Try.t76 w := by intros; kernel_rfl
@[simp] theorem Tryp.typeInfo77 : ∀ (w : Go.World), Go.Sem.run (cutP Go.Proofs.Try.prog) (Go.typeInfo 77) w = Go.Result.ok Go.Proofs.Try.t77 w := by intros; kernel_rfl
@[simp] theorem Tryp.typeInfo78 : ∀ (w : Go.World), Go.Sem.run (cutP Go.Proofs.Try.prog) (Go.typeInfo 78) w = Go.Result.ok Go.Proofs.Try.t78 w := by intros; kernel_rfl
@[simp] theorem Tryp.typeInfo79 : ∀ (w : Go.World), Go.Sem.run (cutP Go.Proofs.Try.prog) (Go.typeInfo 79) w = Go.Result.ok Go.Proofs.Try.t79 w := by intros; kernel_rfl
@[simp] theorem Tryp.typeInfo8 : ∀ (w : Go.World), Go.Sem.run (cutP Go.Proofs.Try.prog) (Go.typeInfo 8) w = Go.Result.ok Go.Proofs.Try.t8 w := by intros; kernel_rfl
@[simp] theorem Tryp.typeInfo80 : ∀ (w : Go.World), Go.Sem.run (cutP Go.Proofs.Try.prog) (Go.typeInfo 80) w = Go.Result.ok Go.Proofs.Try.t80 w := by intros; kernel_rfl
@[simp] theorem Tryp.typeInfo81 : ∀ (w : Go.World), Go.Sem.run (cutP Go.Proofs.Try.prog) (Go.typeInfo 81) w = Go.Result.ok Go.Proofs.Try.t81 w := by intros; kernel_rfl
@[simp] theorem Tryp.typeInfo82 : ∀ (w : Go.World), Go.Sem.run (cutP Go.Proofs.Try.prog) (Go.typeInfo 82) w = Go.Result.ok Go.Proofs.Try.t82 w := by intros; kernel_rfl
@[simp] theorem Tryp.typeInfo83 : ∀ (w : Go.World), Go.Sem.run (cutP Go.Proofs.Try.prog) (Go.typeInfo 83) w = Go.Result.ok Go.Proofs.Try.t83 w := by intros; kernel_rfl
@[simp] theorem Tryp.typeInfo84 : ∀ (w : Go.World), Go.Sem.run (cutP Go.Proofs.Try.prog) (Go.typeInfo 84) w = Go.Result.ok Go.Proofs.Try.t84 w := by intros; kernel_rfl
@[simp] theorem Tryp.typeInfo85 : ∀ (w : Go.World), Go.Sem.run (cutP Go.Proofs.Try.prog) (Go.typeInfo 85) w = Go.Result.ok Go.Proofs.Try.t85 w := by intros; kernel_rfl
@[simp] theorem Tryp.typeInfo86 : ∀ (w : Go.World), Go.Sem.run (cutP Go.Proofs.Try.prog) (Go.typeInfo 86) w = Go.Result.ok Go.Proofs.Try.t86 w := by intros; kernel_rfl
@[simp] theorem Tryp.typeInfo87 : ∀ (w : Go.World), Go.Sem.run (cutP Go.Proofs.Try.prog) (Go.typeInfo 87) w = Go.Result.ok Go.Proofs.Try.t87 w := by intros; kernel_rfl
@[simp] theorem Tryp.typeInfo88 : ∀ (w : Go.World), Go.Sem.run (cutP Go.Proofs.Try.prog) (Go.typeInfo 88) w = Go.Result.ok Go.Proofs.Try.t88 w := by intros; kernel_rfl
@[simp] theorem Tryp.typeInfo89 : ∀ (w : Go.World), Go.Sem.run (cutP Go.Proofs.Try.prog) (Go.typeInfo 89) w = Go.Result.ok Go.Proofs.Try.t89 w := by intros; kernel_rfl
@[simp] theorem Tryp.typeInfo9 : ∀ (w : Go.World), Go.Sem.run (cutP Go.Proofs.Try.prog) (Go.typeInfo 9) w = Go.Result.ok Go.Proofs.Try.t9 w := by intros; kernel_rfl
@[simp] theorem Tryp.typeInfo90 : ∀ (w : Go.World), Go.Sem.run (cutP Go.Proofs.Try.prog) (Go.typeInfo 90) w = Go.Result.ok Go.Proofs.Try.t90 w := by intros; kernel_rfl
@[simp] theorem Tryp.typeInfo91 : ∀ (w : Go.World), Go.Sem.run (cutP Go.Proofs.Try.prog) (Go.typeInfo 91) w = Go.Result.ok Go.Proofs.Try.t91 w := by intros; kernel_rfl
@[simp] theorem Tryp.typeInfo92 : ∀ (w : Go.World), Go.Sem.run (cutP Go.Proofs.Try.prog) (Go.typeInfo 92) w = Go.Result.ok Go.Proofs.Try.t92 w := by intros; kernel_rfl
@[simp] theorem Tryp.typeInfo93 : ∀ (w : Go.World), Go.Sem.run (cutP Go.Proofs.Try.prog) (Go.typeInfo 93) w = Go.Result.ok Go.Proofs.Try.t93 w := by intros; kernel_rfl
@[simp] theorem Tryp.typeInfo94 : ∀ (w : Go.World), Go.Sem.run (cutP Go.Proofs.Try.prog) (Go.typeInfo 94) w = Go.Result.ok Go.Proofs.Try.t94 w := by intros; kernel_rfl
@[simp] theorem Tryp.typeInfo95 : ∀ (w : Go.World), Go.Sem.run (cutP Go.Proofs.Try.prog) (Go.typeInfo 95) w = Go.Result.ok Go.Proofs.Try.t95 w := by intros; kernel_rfl
@[simp] theorem Tryp.typeInfo96 : ∀ (w : Go.World), Go.Sem.run (cutP Go.Proofs.Try.prog) (Go.typeInfo 96) w = Go.Result.ok Go.Proofs.Try.t96 w := by intros; kernel_rfl
@[simp] theorem Tryp.typeInfo97 : ∀ (w : Go.World), Go.Sem.run (cutP Go.Proofs.Try.prog) (Go.typeInfo 97) w = Go.Result.ok Go.Proofs.Try.t97 w := by intros; kernel_rfl
@[simp] theorem Tryp.typeInfo98 : ∀ (w : Go.World), Go.Sem.run (cutP Go.Proofs.Try.prog) (Go.typeInfo 98) w = Go.Result.ok Go.Proofs.Try.t98 w := by intros; kernel_rfl
@[simp] theorem Tryp.typeInfo99 : ∀ (w : Go.World), Go.Sem.run (cutP Go.Proofs.Try.prog) (Go.typeInfo 99) w = Go.Result.ok Go.Proofs.Try.t99 w := by intros; kernel_rfl
@[simp] theorem Tryp.types_size : (cutP Go.Proofs.Try.prog).types.size = 129 := by kernel_rfl
@[simp] theorem Tryp.underlying0 : (cutP Go.Proofs.Try.prog).underlying 0 = Option.some (Go.TypeDesc.tuple #[]) := by kernel_rfl
@[simp] theorem Tryp.underlying1 : (cutP Go.Proofs.Try.prog).underlying 1 = Option.some (Go.TypeDesc.func #[] #[] Bool.false) := by kernel_rfl
@[simp] theorem Tryp.underlying10 : (cutP Go.Proofs.Try.prog).underlying 10 = Option.some Go.TypeDesc.string := by kernel_rfl
@[simp] theorem Tryp.underlying100 : (cutP Go.Proofs.Try.prog).underlying 100 = Option.some (Go.TypeDesc.func #[84] #[84] Bool.false) := by kernel_rfl
@[simp] theorem Tryp.underlying101 : (cutP Go.Proofs.Try.prog).underlying 101 = Option.some (Go.TypeDesc.pointer 87) := by kernel_rfl
@[simp] theorem Tryp.underlying102 : (cutP Go.Proofs.Try.prog).underlying 102 = Option.some (Go.TypeDesc.func #[] #[84] Bool.false) := by kernel_rfl
@[simp] theorem Tryp.underlying103 : (cutP Go.Proofs.Try.prog).underlying 103 = Option.some (Go.TypeDesc.func #[84] #[] Bool.false) := by kernel_rfl
@[simp] theorem Tryp.underlying104 : (cutP Go.Proofs.Try.prog).underlying 104 = Option.some (Go.TypeDesc.func #[93] #[] Bool.false) := by kernel_rfl
@[simp] theorem Tryp.underlying105 : (cutP Go.Proofs.Try.prog).underlying 105 = Option.some (Go.TypeDesc.func #[101, 4, 3] #[] Bool.false) := by kernel_rfl
@[simp] theorem Tryp.underlying106 : (cutP Go.Proofs.Try.prog).underlying 106 = Option.some (Go.TypeDesc.func #[93] #[4] Bool.false) := by kernel_rfl
@[simp] theorem Tryp.underlying107 : (cutP Go.Proofs.Try.prog).underlying 107 = Option.some (Go.TypeDesc.func #[84, 84] #[4] Bool.false) := by kernel_rfl
@[simp] theorem Tryp.underlying108 : (cutP Go.Proofs.Try.prog).underlying 108 = Option.some (Go.TypeDesc.func #[101, 4] #[] Bool.false) := by kernel_rfl
@[simp] theorem Tryp.underlying109 : (cutP Go.Proofs.Try.prog).underlying 109 = Option.some (Go.TypeDesc.pointer 86) := by kernel_rfl
@[simp] theorem Tryp.underlying11 : (cutP Go.Proofs.Try.prog).underlying 11 = Option.some Go.TypeDesc.string := by kernel_rfl
@[simp] theorem Tryp.underlying110 : (cutP Go.Proofs.Try.prog).underlying 110 = Option.some (Go.TypeDesc.func #[111, 84] #[84] Bool.false) := by kernel_rfl
@[simp] theorem Tryp.underlying111 : (cutP Go.Proofs.Try.prog).underlying 111 = Option.some (Go.TypeDesc.pointer 84) := by kernel_rfl
@[simp] theorem Tryp.underlying112 : (cutP Go.Proofs.Try.prog).underlying 112 = Option.some (Go.TypeDesc.func #[111] #[84] Bool.false) := by kernel_rfl
@[simp] theorem Tryp.underlying113 : (cutP Go.Proofs.Try.prog).underlying 113 = Option.some (Go.TypeDesc.func #[111, 84] #[] Bool.false) := by kernel_rfl
@[simp] theorem Tryp.underlying114 : (cutP Go.Proofs.Try.prog).underlying 114 = Option.some (Go.TypeDesc.func #[111, 84, 84] #[4] Bool.false) := by kernel_rfl
@[simp] theorem Tryp.underlying115 : (cutP Go.Proofs.Try.prog).underlying 115 = Option.some (Go.TypeDesc.func #[] #[9] Bool.false) := by kernel_rfl
@[simp] theorem Tryp.underlying116 : (cutP Go.Proofs.Try.prog).underlying 116 = Option.some (Go.TypeDesc.struct #[{ name := "_interface", type := 17, offset := 0, embedded := Bool.false, tag := "", pkgPath := "runtime", byteOffset := 0 }, { name := "concrete", type := 17, offset := 1, embedded := Bool.false, tag := "", pkgPath := "runtime", byteOffset := 8 }, { name := "asserted", type := 17, offset := 2, embedded := Bool.false, tag := "", pkgPath := "runtime", byteOffset := 16 }, { name := "missingMethod", type := 9, offset := 3, embedded := Bool.false, tag := "", pkgPath := "runtime", byteOffset := 24 }]) := by kernel_rfl
@[simp] theorem Tryp.underlying117 : (cutP Go.Proofs.Try.prog).underlying 117 = Option.some (Go.TypeDesc.struct #[{ name := "_interface", type := 17, offset := 0, embedded := Bool.false, tag := "", pkgPath := "runtime", byteOffset := 0 }, { name := "concrete", type := 17, offset := 1, embedded := Bool.false, tag := "", pkgPath := "runtime", byteOffset := 8 }, { name := "asserted", type := 17, offset := 2, embedded := Bool.false, tag := "", pkgPath := "runtime", byteOffset := 16 }, { name := "missingMethod", type := 9, offset := 3, embedded := Bool.false, tag := "", pkgPath := "runtime", byteOffset := 24 }]) := by kernel_rfl
@[simp] theorem Tryp.underlying118 : (cutP Go.Proofs.Try.prog).underlying 118 = Option.some (Go.TypeDesc.array 0 16) := by kernel_rfl
@[simp] theorem Tryp.underlying119 : (cutP Go.Proofs.Try.prog).underlying 119 = Option.some (Go.TypeDesc.struct #[{ name := "_", type := 118, offset := 0, embedded := Bool.false, tag := "", pkgPath := "runtime", byteOffset := 0 }]) := by kernel_rfl
@[simp] theorem Tryp.underlying12 : (cutP Go.Proofs.Try.prog).underlying 12 = Option.some (Go.TypeDesc.int Go.IntKind.u64) := by kernel_rfl
@[simp] theorem Tryp.underlying120 : (cutP Go.Proofs.Try.prog).underlying 120 = Option.some (Go.TypeDesc.struct #[{ name := "_", type := 118, offset := 0, embedded := Bool.false, tag := "", pkgPath := "runtime", byteOffset := 0 }]) := by kernel_rfl
@[simp] theorem Tryp.underlying121 : (cutP Go.Proofs.Try.prog).underlying 121 = Option.some (Go.TypeDesc.int Go.IntKind.u8) := by kernel_rfl
@[simp] theorem Tryp.underlying122 : (cutP Go.Proofs.Try.prog).underlying 122 = Option.some (Go.TypeDesc.int Go.IntKind.u8) := by kernel_rfl
@[simp] theorem Tryp.underlying123 : (cutP Go.Proofs.Try.prog).underlying 123 = Option.some (Go.TypeDesc.func #[95, 95] #[4] Bool.false) := by kernel_rfl
@[simp] theorem Tryp.underlying124 : (cutP Go.Proofs.Try.prog).underlying 124 = Option.some (Go.TypeDesc.pointer 5) := by kernel_rfl
@[simp] theorem Tryp.underlying125 : (cutP Go.Proofs.Try.prog).underlying 125 = Option.some (Go.TypeDesc.int Go.IntKind.i32) := by kernel_rfl
@[simp] theorem Tryp.underlying126 : (cutP Go.Proofs.Try.prog).underlying 126 = Option.some (Go.TypeDesc.int Go.IntKind.i32) := by kernel_rfl
@[simp] theorem Tryp.underlying127 : (cutP Go.Proofs.Try.prog).underlying 127 = Option.some (Go.TypeDesc.struct #[{ name := "Size_", type := 12, offset := 0, embedded := Bool.false, tag := "", pkgPath := "", byteOffset := 0 }, { name := "PtrBytes", type := 12, offset := 1, embedded := Bool.false, tag := "", pkgPath := "", byteOffset := 8 }, { name := "Hash", type := 87, offset := 2, embedded := Bool.false, tag := "", pkgPath := "", byteOffset := 16 }, { name := "TFlag", type := 121, offset := 3, embedded := Bool.false, tag := "", pkgPath := "", byteOffset := 20 }, { name := "Align_", type := 5, offset := 4, embedded := Bool.false, tag := "", pkgPath := "", byteOffset := 21 }, { name := "FieldAlign_", type := 5, offset := 5, embedded := Bool.false, tag := "", pkgPath := "", byteOffset := 22 }, { name := "Kind_", type := 122, offset := 6, embedded := Bool.false, tag := "", pkgPath := "", byteOffset := 23 }, { name := "Equal", type := 123, offset := 7, embedded := Bool.false, tag := "", pkgPath := "", byteOffset := 24 }, { name := "GCData", type := 124, offset := 8, embedded := Bool.false, tag := "", pkgPath := "", byteOffset := 32 }, { name := "Str", type := 125, offset := 9, embedded := Bool.false, tag := "", pkgPath := "", byteOffset := 40 }, { name := "PtrToThis", type := 126, offset := 10, embedded := Bool.false, tag := "", pkgPath := "", byteOffset := 44 }]) := by kernel_rfl
@[simp] theorem Tryp.underlying128 : (cutP Go.Proofs.Try.prog).underlying 128 = Option.some (Go.TypeDesc.struct #[{ name := "Size_", type := 12, offset := 0, embedded := Bool.false, tag := "", pkgPath := "", byteOffset := 0 }, { name := "PtrBytes", type := 12, offset := 1, embedded := Bool.false, tag := "", pkgPath := "", byteOffset := 8 }, { name := "Hash", type := 87, offset := 2, embedded := Bool.false, tag := "", pkgPath := "", byteOffset := 16 }, { name := "TFlag", type := 121, offset := 3, embedded := Bool.false, tag := "", pkgPath := "", byteOffset := 20 }, { name := "Align_", type := 5, offset := 4, embedded := Bool.false, tag := "", pkgPath := "", byteOffset := 21 }, { name := "FieldAlign_", type := 5, offset := 5, embedded := Bool.false, tag := "", pkgPath := "", byteOffset := 22 }, { name := "Kind_", type := 122, offset := 6, embedded := Bool.false, tag := "", pkgPath := "", byteOffset := 23 }, { name := "Equal", type := 123, offset := 7, embedded := Bool.false, tag := "", pkgPath := "", byteOffset := 24 }, { name := "GCData", type := 124, offset := 8, embedded := Bool.false, tag := "", pkgPath := "", byteOffset := 32 }, { name := "Str", type := 125, offset := 9, embedded := Bool.false, tag := "", pkgPath := "", byteOffset := 40 }, { name := "PtrToThis", type := 126, offset := 10, embedded := Bool.false, tag := "", pkgPath := "", byteOffset := 44 }]) := by kernel_rfl
@[simp] theorem Tryp.underlying13 : (cutP Go.Proofs.Try.prog).underlying 13 = Option.some (Go.TypeDesc.struct #[{ name := "msg", type := 9, offset := 0, embedded := Bool.false, tag := "", pkgPath := "runtime", byteOffset := 0 }, { name := "addr", type := 12, offset := 1, embedded := Bool.false, tag := "", pkgPath := "runtime", byteOffset := 16 }]) := by kernel_rfl
@[simp] theorem Tryp.underlying14 : (cutP Go.Proofs.Try.prog).underlying 14 = Option.some (Go.TypeDesc.struct #[{ name := "msg", type := 9, offset := 0, embedded := Bool.false, tag := "", pkgPath := "runtime", byteOffset := 0 }, { name := "addr", type := 12, offset := 1, embedded := Bool.false, tag := "", pkgPath := "runtime", byteOffset := 16 }]) := by kernel_rfl
@[simp] theorem Tryp.underlying15 : (cutP Go.Proofs.Try.prog).underlying 15 = Option.some (Go.TypeDesc.pointer 117) := by kernel_rfl
@[simp] theorem Tryp.underlying16 : (cutP Go.Proofs.Try.prog).underlying 16 = Option.some (Go.TypeDesc.pointer 120) := by kernel_rfl
@[simp] theorem Tryp.underlying17 : (cutP Go.Proofs.Try.prog).underlying 17 = Option.some (Go.TypeDesc.pointer 128) := by kernel_rfl
@[simp] theorem Tryp.underlying18 : (cutP Go.Proofs.Try.prog).underlying 18 = Option.some (Go.TypeDesc.struct #[{ name := "typ", type := 17, offset := 0, embedded := Bool.false, tag := "", pkgPath := "internal/runtime/maps", byteOffset := 0 }]) := by kernel_rfl
@[simp] theorem Tryp.underlying19 : (cutP Go.Proofs.Try.prog).underlying 19 = Option.some (Go.TypeDesc.struct #[{ name := "typ", type := 17, offset := 0, embedded := Bool.false, tag := "", pkgPath := "internal/runtime/maps", byteOffset := 0 }]) := by kernel_rfl
@[simp] theorem Tryp.underlying2 : (cutP Go.Proofs.Try.prog).underlying 2 = Option.some (Go.TypeDesc.int Go.IntKind.i64) := by kernel_rfl
@[simp] theorem Tryp.underlying20 : (cutP Go.Proofs.Try.prog).underlying 20 = Option.some (Go.TypeDesc.interface #[]) := by kernel_rfl
@[simp] theorem Tryp.underlying21 : (cutP Go.Proofs.Try.prog).underlying 21 = Option.some (Go.TypeDesc.int Go.IntKind.i32) := by kernel_rfl
@[simp] theorem Tryp.underlying22 : (cutP Go.Proofs.Try.prog).underlying 22 = Option.some (Go.TypeDesc.slice 5) := by kernel_rfl
@[simp] theorem Tryp.underlying23 : (cutP Go.Proofs.Try.prog).underlying 23 = Option.some (Go.TypeDesc.slice 25) := by kernel_rfl
@[simp] theorem Tryp.underlying24 : (cutP Go.Proofs.Try.prog).underlying 24 = Option.some (Go.TypeDesc.func #[22] #[23] Bool.false) := by kernel_rfl
@[simp] theorem Tryp.underlying25 : (cutP Go.Proofs.Try.prog).underlying 25 = Option.some (Go.TypeDesc.slice 3) := by kernel_rfl
@[simp] theorem Tryp.underlying26 : (cutP Go.Proofs.Try.prog).underlying 26 = Option.some (Go.TypeDesc.tuple #[25, 4]) := by kernel_rfl
@[simp] theorem Tryp.underlying27 : (cutP Go.Proofs.Try.prog).underlying 27 = Option.some (Go.TypeDesc.func #[23] #[25, 4] Bool.false) := by kernel_rfl
@[simp] theorem Tryp.underlying28 : (cutP Go.Proofs.Try.prog).underlying 28 = Option.some (Go.TypeDesc.func #[25, 25] #[4] Bool.false) := by kernel_rfl
@[simp] theorem Tryp.underlying29 : (cutP Go.Proofs.Try.prog).underlying 29 = Option.some (Go.TypeDesc.tuple #[3, 4]) := by kernel_rfl
@[simp] theorem Tryp.underlying3 : (cutP Go.Proofs.Try.prog).underlying 3 = Option.some (Go.TypeDesc.int Go.IntKind.i64) := by kernel_rfl
@[simp] theorem Tryp.underlying30 : (cutP Go.Proofs.Try.prog).underlying 30 = Option.some (Go.TypeDesc.func #[25, 23] #[3, 4] Bool.false) := by kernel_rfl
@[simp] theorem Tryp.underlying31 : (cutP Go.Proofs.Try.prog).underlying 31 = Option.some (Go.TypeDesc.func #[22] #[4] Bool.false) := by kernel_rfl
@[simp] theorem Tryp.underlying32 : (cutP Go.Proofs.Try.prog).underlying 32 = Option.some (Go.TypeDesc.tuple #[25, 23]) := by kernel_rfl
@[simp] theorem Tryp.underlying33 : (cutP Go.Proofs.Try.prog).underlying 33 = Option.some (Go.TypeDesc.func #[22] #[25, 23] Bool.false) := by kernel_rfl
@[simp] theorem Tryp.underlying34 : (cutP Go.Proofs.Try.prog).underlying 34 = Option.some (Go.TypeDesc.func #[25, 25] #[3, 4] Bool.false) := by kernel_rfl
@[simp] theorem Tryp.underlying35 : (cutP Go.Proofs.Try.prog).underlying 35 = Option.some (Go.TypeDesc.func #[23, 3] #[3] Bool.false) := by kernel_rfl
@[simp] theorem Tryp.underlying36 : (cutP Go.Proofs.Try.prog).underlying 36 = Option.some (Go.TypeDesc.func #[25] #[25] Bool.false) := by kernel_rfl
@[simp] theorem Tryp.underlying37 : (cutP Go.Proofs.Try.prog).underlying 37 = Option.some (Go.TypeDesc.func #[23] #[23] Bool.false) := by kernel_rfl
@[simp] theorem Tryp.underlying38 : (cutP Go.Proofs.Try.prog).underlying 38 = Option.some (Go.TypeDesc.func #[23, 23] #[4] Bool.false) := by kernel_rfl
@[simp] theorem Tryp.underlying39 : (cutP Go.Proofs.Try.prog).underlying 39 = Option.some (Go.TypeDesc.func #[25, 23] #[4] Bool.false) := by kernel_rfl
@[simp] theorem Tryp.underlying4 : (cutP Go.Proofs.Try.prog).underlying 4 = Option.some Go.TypeDesc.bool := by kernel_rfl
@[simp] theorem Tryp.underlying40 : (cutP Go.Proofs.Try.prog).underlying 40 = Option.some (Go.TypeDesc.func #[25, 3] #[3] Bool.false) := by kernel_rfl
@[simp] theorem Tryp.underlying41 : (cutP Go.Proofs.Try.prog).underlying 41 = Option.some (Go.TypeDesc.func #[23] #[4] Bool.false) := by kernel_rfl
@[simp] theorem Tryp.underlying42 : (cutP Go.Proofs.Try.prog).underlying 42 = Option.some (Go.TypeDesc.tuple #[23, 4]) := by kernel_rfl
@[simp] theorem Tryp.underlying43 : (cutP Go.Proofs.Try.prog).underlying 43 = Option.some (Go.TypeDesc.func #[3] #[23, 4] Bool.false) := by kernel_rfl
@[simp] theorem Tryp.underlying44 : (cutP Go.Proofs.Try.prog).underlying 44 = Option.some (Go.TypeDesc.func #[23, 23] #[25] Bool.false) := by kernel_rfl
@[simp] theorem Tryp.underlying45 : (cutP Go.Proofs.Try.prog).underlying 45 = Option.some (Go.TypeDesc.func #[25] #[3] Bool.false) := by kernel_rfl
@[simp] theorem Tryp.underlying46 : (cutP Go.Proofs.Try.prog).underlying 46 = Option.some (Go.TypeDesc.func #[25, 23] #[3] Bool.false) := by kernel_rfl
@[simp] theorem Tryp.underlying47 : (cutP Go.Proofs.Try.prog).underlying 47 = Option.some (Go.TypeDesc.pointer 71) := by kernel_rfl
@[simp] theorem Tryp.underlying48 : (cutP Go.Proofs.Try.prog).underlying 48 = Option.some (Go.TypeDesc.func #[22] #[47] Bool.false) := by kernel_rfl
@[simp] theorem Tryp.underlying49 : (cutP Go.Proofs.Try.prog).underlying 49 = Option.some (Go.TypeDesc.func #[47] #[23] Bool.false) := by kernel_rfl
@[simp] theorem Tryp.underlying5 : (cutP Go.Proofs.Try.prog).underlying 5 = Option.some (Go.TypeDesc.int Go.IntKind.u8) := by kernel_rfl
@[simp] theorem Tryp.underlying50 : (cutP Go.Proofs.Try.prog).underlying 50 = Option.some (Go.TypeDesc.func #[47, 3] #[25] Bool.false) := by kernel_rfl
@[simp] theorem Tryp.underlying51 : (cutP Go.Proofs.Try.prog).underlying 51 = Option.some (Go.TypeDesc.func #[3] #[3] Bool.false) := by kernel_rfl
@[simp] theorem Tryp.underlying52 : (cutP Go.Proofs.Try.prog).underlying 52 = Option.some (Go.TypeDesc.func #[25] #[4] Bool.false) := by kernel_rfl
@[simp] theorem Tryp.underlying53 : (cutP Go.Proofs.Try.prog).underlying 53 = Option.some (Go.TypeDesc.func #[25, 25] #[3] Bool.false) := by kernel_rfl
@[simp] theorem Tryp.underlying54 : (cutP Go.Proofs.Try.prog).underlying 54 = Option.some (Go.TypeDesc.slice 57) := by kernel_rfl
@[simp] theorem Tryp.underlying55 : (cutP Go.Proofs.Try.prog).underlying 55 = Option.some (Go.TypeDesc.func #[23, 3] #[54] Bool.false) := by kernel_rfl
@[simp] theorem Tryp.underlying56 : (cutP Go.Proofs.Try.prog).underlying 56 = Option.some (Go.TypeDesc.int Go.IntKind.u64) := by kernel_rfl
@[simp] theorem Tryp.underlying57 : (cutP Go.Proofs.Try.prog).underlying 57 = Option.some (Go.TypeDesc.int Go.IntKind.u64) := by kernel_rfl
@[simp] theorem Tryp.underlying58 : (cutP Go.Proofs.Try.prog).underlying 58 = Option.some (Go.TypeDesc.func #[25, 25] #[25, 4] Bool.false) := by kernel_rfl
@[simp] theorem Tryp.underlying59 : (cutP Go.Proofs.Try.prog).underlying 59 = Option.some (Go.TypeDesc.func #[3] #[4] Bool.false) := by kernel_rfl
@[simp] theorem Tryp.underlying6 : (cutP Go.Proofs.Try.prog).underlying 6 = Option.some (Go.TypeDesc.int Go.IntKind.u8) := by kernel_rfl
@[simp] theorem Tryp.underlying60 : (cutP Go.Proofs.Try.prog).underlying 60 = Option.some (Go.TypeDesc.func #[3, 3] #[3] Bool.false) := by kernel_rfl
@[simp] theorem Tryp.underlying61 : (cutP Go.Proofs.Try.prog).underlying 61 = Option.some (Go.TypeDesc.func #[74] #[] Bool.false) := by kernel_rfl
@[simp] theorem Tryp.underlying62 : (cutP Go.Proofs.Try.prog).underlying 62 = Option.some (Go.TypeDesc.func #[74] #[] Bool.false) := by kernel_rfl
@[simp] theorem Tryp.underlying63 : (cutP Go.Proofs.Try.prog).underlying 63 = Option.some (Go.TypeDesc.func #[3] #[62] Bool.false) := by kernel_rfl
@[simp] theorem Tryp.underlying64 : (cutP Go.Proofs.Try.prog).underlying 64 = Option.some (Go.TypeDesc.array 8 3) := by kernel_rfl
@[simp] theorem Tryp.underlying65 : (cutP Go.Proofs.Try.prog).underlying 65 = Option.some (Go.TypeDesc.array 8 3) := by kernel_rfl
@[simp] theorem Tryp.underlying66 : (cutP Go.Proofs.Try.prog).underlying 66 = Option.some (Go.TypeDesc.func #[] #[25] Bool.false) := by kernel_rfl
@[simp] theorem Tryp.underlying67 : (cutP Go.Proofs.Try.prog).underlying 67 = Option.some (Go.TypeDesc.func #[23, 3, 40] #[25] Bool.false) := by kernel_rfl
@[simp] theorem Tryp.underlying68 : (cutP Go.Proofs.Try.prog).underlying 68 = Option.some (Go.TypeDesc.func #[3, 3, 3] #[4] Bool.false) := by kernel_rfl
@[simp] theorem Tryp.underlying69 : (cutP Go.Proofs.Try.prog).underlying 69 = Option.some (Go.TypeDesc.func #[3, 3] #[25] Bool.false) := by kernel_rfl
@[simp] theorem Tryp.underlying7 : (cutP Go.Proofs.Try.prog).underlying 7 = Option.some (Go.TypeDesc.struct #[{ name := "x", type := 2, offset := 0, embedded := Bool.false, tag := "", pkgPath := "runtime", byteOffset := 0 }, { name := "y", type := 3, offset := 1, embedded := Bool.false, tag := "", pkgPath := "runtime", byteOffset := 8 }, { name := "signed", type := 4, offset := 2, embedded := Bool.false, tag := "", pkgPath := "runtime", byteOffset := 16 }, { name := "code", type := 6, offset := 3, embedded := Bool.false, tag := "", pkgPath := "runtime", byteOffset := 17 }]) := by kernel_rfl
@[simp] theorem Tryp.underlying70 : (cutP Go.Proofs.Try.prog).underlying 70 = Option.some (Go.TypeDesc.struct #[{ name := "b", type := 22, offset := 0, embedded := Bool.false, tag := "", pkgPath := "loop.example/setparts/spec", byteOffset := 0 }, { name := "p", type := 3, offset := 1, embedded := Bool.false, tag := "", pkgPath := "loop.example/setparts/spec", byteOffset := 24 }]) := by kernel_rfl
@[simp] theorem Tryp.underlying71 : (cutP Go.Proofs.Try.prog).underlying 71 = Option.some (Go.TypeDesc.struct #[{ name := "b", type := 22, offset := 0, embedded := Bool.false, tag := "", pkgPath := "loop.example/setparts/spec", byteOffset := 0 }, { name := "p", type := 3, offset := 1, embedded := Bool.false, tag := "", pkgPath := "loop.example/setparts/spec", byteOffset := 24 }]) := by kernel_rfl
@[simp] theorem Tryp.underlying72 : (cutP Go.Proofs.Try.prog).underlying 72 = Option.some (Go.TypeDesc.func #[25, 25, 3, 3] #[4] Bool.false) := by kernel_rfl
@[simp] theorem Tryp.underlying73 : (cutP Go.Proofs.Try.prog).underlying 73 = Option.some (Go.TypeDesc.func #[3] #[57] Bool.false) := by kernel_rfl
@[simp] theorem Tryp.underlying74 : (cutP Go.Proofs.Try.prog).underlying 74 = Option.some (Go.TypeDesc.func #[65] #[4] Bool.false) := by kernel_rfl
@[simp] theorem Tryp.underlying75 : (cutP Go.Proofs.Try.prog).underlying 75 = Option.some (Go.TypeDesc.func #[3] #[65] Bool.false) := by kernel_rfl
@[simp] theorem Tryp.underlying76 : (cutP Go.Proofs.Try.prog).underlying 76 = Option.some (Go.TypeDesc.tuple #[65, 4]) := by kernel_rfl
@[simp] theorem Tryp.underlying77 : (cutP Go.Proofs.Try.prog).underlying 77 = Option.some (Go.TypeDesc.func #[] #[65, 4] Bool.false) := by kernel_rfl
@[simp] theorem Tryp.underlying78 : (cutP Go.Proofs.Try.prog).underlying 78 = Option.some (Go.TypeDesc.func #[] #[3] Bool.false) := by kernel_rfl
@[simp] theorem Tryp.underlying79 : (cutP Go.Proofs.Try.prog).underlying 79 = Option.some (Go.TypeDesc.slice 90) := by kernel_rfl
@[simp] theorem Tryp.underlying8 : (cutP Go.Proofs.Try.prog).underlying 8 = Option.some (Go.TypeDesc.struct #[{ name := "x", type := 2, offset := 0, embedded := Bool.false, tag := "", pkgPath := "runtime", byteOffset := 0 }, { name := "y", type := 3, offset := 1, embedded := Bool.false, tag := "", pkgPath := "runtime", byteOffset := 8 }, { name := "signed", type := 4, offset := 2, embedded := Bool.false, tag := "", pkgPath := "runtime", byteOffset := 16 }, { name := "code", type := 6, offset := 3, embedded := Bool.false, tag := "", pkgPath := "runtime", byteOffset := 17 }]) := by kernel_rfl
@[simp] theorem Tryp.underlying80 : (cutP Go.Proofs.Try.prog).underlying 80 = Option.some (Go.TypeDesc.struct #[]) := by kernel_rfl
@[simp] theorem Tryp.underlying81 : (cutP Go.Proofs.Try.prog).underlying 81 = Option.some (Go.TypeDesc.struct #[]) := by kernel_rfl
@[simp] theorem Tryp.underlying82 : (cutP Go.Proofs.Try.prog).underlying 82 = Option.some (Go.TypeDesc.struct #[]) := by kernel_rfl
@[simp] theorem Tryp.underlying83 : (cutP Go.Proofs.Try.prog).underlying 83 = Option.some (Go.TypeDesc.struct #[]) := by kernel_rfl
@[simp] theorem Tryp.underlying84 : (cutP Go.Proofs.Try.prog).underlying 84 = Option.some (Go.TypeDesc.int Go.IntKind.u64) := by kernel_rfl
@[simp] theorem Tryp.underlying85 : (cutP Go.Proofs.Try.prog).underlying 85 = Option.some (Go.TypeDesc.struct #[{ name := "_", type := 82, offset := 0, embedded := Bool.false, tag := "", pkgPath := "sync/atomic", byteOffset := 0 }, { name := "_", type := 83, offset := 0, embedded := Bool.false, tag := "", pkgPath := "sync/atomic", byteOffset := 0 }, { name := "v", type := 84, offset := 0, embedded := Bool.false, tag := "", pkgPath := "sync/atomic", byteOffset := 0 }]) := by kernel_rfl
@[simp] theorem Tryp.underlying86 : (cutP Go.Proofs.Try.prog).underlying 86 = Option.some (Go.TypeDesc.struct #[{ name := "_", type := 82, offset := 0, embedded := Bool.false, tag := "", pkgPath := "sync/atomic", byteOffset := 0 }, { name := "_", type := 83, offset := 0, embedded := Bool.false, tag := "", pkgPath := "sync/atomic", byteOffset := 0 }, { name := "v", type := 84, offset := 0, embedded := Bool.false, tag := "", pkgPath := "sync/atomic", byteOffset := 0 }]) := by kernel_rfl
@[simp] theorem Tryp.underlying87 : (cutP Go.Proofs.Try.prog).underlying 87 = Option.some (Go.TypeDesc.int Go.IntKind.u32) := by kernel_rfl
@[simp] theorem Tryp.underlying88 : (cutP Go.Proofs.Try.prog).underlying 88 = Option.some (Go.TypeDesc.struct #[{ name := "noCopy", type := 81, offset := 0, embedded := Bool.false, tag := "", pkgPath := "sync", byteOffset := 0 }, { name := "state", type := 86, offset := 0, embedded := Bool.false, tag := "", pkgPath := "sync", byteOffset := 0 }, { name := "sema", type := 87, offset := 1, embedded := Bool.false, tag := "", pkgPath := "sync", byteOffset := 8 }]) := by kernel_rfl
@[simp] theorem Tryp.underlying89 : (cutP Go.Proofs.Try.prog).underlying 89 = Option.some (Go.TypeDesc.struct #[{ name := "noCopy", type := 81, offset := 0, embedded := Bool.false, tag := "", pkgPath := "sync", byteOffset := 0 }, { name := "state", type := 86, offset := 0, embedded := Bool.false, tag := "", pkgPath := "sync", byteOffset := 0 }, { name := "sema", type := 87, offset := 1, embedded := Bool.false, tag := "", pkgPath := "sync", byteOffset := 8 }]) := by kernel_rfl
@[simp] theorem Tryp.underlying9 : (cutP Go.Proofs.Try.prog).underlying 9 = Option.some Go.TypeDesc.string := by kernel_rfl
@[simp] theorem Tryp.underlying90 : (cutP Go.Proofs.Try.prog).underlying 90 = Option.some (Go.TypeDesc.chan Go.ChanDir.both 3) := by kernel_rfl
@[simp] theorem Tryp.underlying91 : (cutP Go.Proofs.Try.prog).underlying 91 = Option.some (Go.TypeDesc.func #[3] #[] Bool.false) := by kernel_rfl
@[simp] theorem Tryp.underlying92 : (cutP Go.Proofs.Try.prog).underlying 92 = Option.some (Go.TypeDesc.func #[25] #[65] Bool.false) := by kernel_rfl
@[simp] theorem Tryp.underlying93 : (cutP Go.Proofs.Try.prog).underlying 93 = Option.some (Go.TypeDesc.pointer 89) := by kernel_rfl
@[simp] theorem Tryp.underlying94 : (cutP Go.Proofs.Try.prog).underlying 94 = Option.some (Go.TypeDesc.func #[95] #[] Bool.false) := by kernel_rfl
@[simp] theorem Tryp.underlying95 : (cutP Go.Proofs.Try.prog).underlying 95 = Option.some Go.TypeDesc.unsafePointer := by kernel_rfl
@[simp] theorem Tryp.underlying96 : (cutP Go.Proofs.Try.prog).underlying 96 = Option.some (Go.TypeDesc.func #[] #[4] Bool.false) := by kernel_rfl
@[simp] theorem Tryp.underlying97 : (cutP Go.Proofs.Try.prog).underlying 97 = Option.some (Go.TypeDesc.int Go.IntKind.i64) := by kernel_rfl
@[simp] theorem Tryp.underlying98 : (cutP Go.Proofs.Try.prog).underlying 98 = Option.some (Go.TypeDesc.func #[93] #[97] Bool.false) := by kernel_rfl
@[simp] theorem Tryp.underlying99 : (cutP Go.Proofs.Try.prog).underlying 99 = Option.some (Go.TypeDesc.func #[9] #[] Bool.false) := by kernel_rfl
@[simp] theorem Tryp.zeroValue0 : ∀ (w : Go.World), Go.Sem.run (cutP Go.Proofs.Try.prog) (Go.zeroValue 0) w = Go.Result.ok (Go.Value.tuple #[]) w := by intros; kernel_rfl
@[simp] theorem Tryp.zeroValue1 : ∀ (w : Go.World), Go.Sem.run (cutP Go.Proofs.Try.prog) (Go.zeroValue 1) w = Go.Result.ok Go.Value.nilFunc w := by intros; kernel_rfl
@[simp] theorem Tryp.zeroValue10 : ∀ (w : Go.World), Go.Sem.run (cutP Go.Proofs.Try.prog) (Go.zeroValue 10) w = Go.Result.ok (Go.Value.string { data := #[] }) w := by intros; kernel_rfl
@[simp] theorem Tryp.zeroValue100 : ∀ (w : Go.World), Go.Sem.run (cutP Go.Proofs.Try.prog) (Go.zeroValue 100) w = Go.Result.ok Go.Value.nilFunc w := by intros; kernel_rfl
@[simp] theorem Tryp.zeroValue101 : ∀ (w : Go.World), Go.Sem.run (cutP Go.Proofs.Try.prog) (Go.zeroValue 101) w = Go.Result.ok (Go.Value.pointer Option.none) w := by intros; kernel_rfl
@[simp] theorem Tryp.zeroValue102 : ∀ (w : Go.World), Go.Sem.run (cutP Go.Proofs.Try.prog) (Go.zeroValue 102) w = Go.Result.ok Go.Value.nilFunc w := by intros; kernel_rfl
@[simp] theorem Tryp.zeroValue103 : ∀ (w : Go.World), Go.Sem.run (cutP Go.Proofs.Try.prog) (Go.zeroValue 103) w = Go.Result.ok Go.Value.nilFunc w := by intros; kernel_rfl
@[simp] theorem Tryp.zeroValue104 : ∀ (w : Go.World), Go.Sem.run (cutP Go.Proofs.Try.prog) (Go.zeroValue 104) w = Go.Result.ok Go.Value.nilFunc w := by intros; kernel_rfl
@[simp] theorem Tryp.zeroValue105 : ∀ (w : Go.World), Go.Sem.run (cutP Go.Proofs.Try.prog) (Go.zeroValue 105) w = Go.Result.ok Go.Value.nilFunc w := by intros; kernel_rfl
@[simp] theorem Tryp.zeroValue106 : ∀ (w : Go.World), Go.Sem.run (cutP Go.Proofs.Try.prog) (Go.zeroValue 106) w = Go.Result.ok Go.Value.nilFunc w := by intros; kernel_rfl
@[simp] theorem Tryp.zeroValue107 : ∀ (w : Go.World), Go.Sem.run (cutP Go.Proofs.Try.prog) (Go.zeroValue 107) w = Go.Result.ok Go.Value.nilFunc w := by intros; kernel_rfl
@[simp] theorem Tryp.zeroValue108 : ∀ (w : Go.World), Go.Sem.run (cutP Go.Proofs.Try.prog) (Go.zeroValue 108) w = Go.Result.ok Go.Value.nilFunc w := by intros; kernel_rfl
@[simp] theorem Tryp.zeroValue109 : ∀ (w : Go.World), Go.Sem.run (cutP Go.Proofs.Try.prog) (Go.zeroValue 109) w = Go.Result.ok (Go.Value.pointer Option.none) w := by intros; kernel_rfl
@[simp] theorem Tryp.zeroValue11 : ∀ (w : Go.World), Go.Sem.run (cutP Go.Proofs.Try.prog) (Go.zeroValue 11) w = Go.Result.ok (Go.Value.string { data := #[] }) w := by intros; kernel_rfl
@[simp] theorem Tryp.zeroValue110 : ∀ (w : Go.World), Go.Sem.run (cutP Go.Proofs.Try.prog) (Go.zeroValue 110) w = Go.Result.ok Go.Value.nilFunc w := by intros; kernel_rfl
@[simp] theorem Tryp.zeroValue111 : ∀ (w : Go.World), Go.Sem.run (cutP Go.Proofs.Try.prog) (Go.zeroValue 111) w = Go.Result.ok (Go.Value.pointer Option.none) w := by intros; kernel_rfl
@[simp] theorem Tryp.zeroValue112 : ∀ (w : Go.World), Go.Sem.run (cutP Go.Proofs.Try.prog) (Go.zeroValue 112) w = Go.Result.ok Go.Value.nilFunc w := by intros; kernel_rfl
@[simp] theorem Tryp.zeroValue113 : ∀ (w : Go.World), Go.Sem.run (cutP Go.Proofs.Try.prog) (Go.zeroValue 113) w = Go.Result.ok Go.Value.nilFunc w := by intros; kernel_rfl
@[simp] theorem Tryp.zeroValue114 : ∀ (w : Go.World), Go.Sem.run (cutP Go.Proofs.Try.prog) (Go.zeroValue 114) w = Go.Result.ok Go.Value.nilFunc w := by intros; kernel_rfl
@[simp] theorem Tryp.zeroValue115 : ∀ (w : Go.World), Go.Sem.run (cutP Go.Proofs.Try.prog) (Go.zeroValue 115) w = Go.Result.ok Go.Value.nilFunc w := by intros; kernel_rfl
@[simp] theorem Tryp.zeroValue116 : ∀ (w : Go.World), Go.Sem.run (cutP Go.Proofs.Try.prog) (Go.zeroValue 116) w = Go.Result.ok (Go.Value.agg #[Go.Value.pointer Option.none, Go.Value.pointer Option.none, Go.Value.pointer Option.none, Go.Value.string { data := #[] }]) w := by intros; kernel_rfl
@[simp] theorem Tryp.zeroValue117 : ∀ (w : Go.World), Go.Sem.run (cutP Go.Proofs.Try.prog) (Go.zeroValue 117) w = Go.Result.ok (Go.Value.agg #[Go.Value.pointer Option.none, Go.Value.pointer Option.none, Go.Value.pointer Option.none, Go.Value.string { data := #[] }]) w := by intros; kernel_rfl
@[simp] theorem Tryp.zeroValue118 : ∀ (w : Go.World), Go.Sem.run (cutP Go.Proofs.Try.prog) (Go.zeroValue 118) w = Go.Result.ok (Go.Value.agg #[]) w := by intros; kernel_rfl
@[simp] theorem Tryp.zeroValue119 : ∀ (w : Go.World), Go.Sem.run (cutP Go.Proofs.Try.prog) (Go.zeroValue 119) w = Go.Result.ok (Go.Value.agg #[]) w := by intros; kernel_rfl
@[simp] theorem Tryp.zeroValue12 : ∀ (w : Go.World), Go.Sem.run (cutP Go.Proofs.Try.prog) (Go.zeroValue 12) w = Go.Result.ok (Go.Value.int Go.IntKind.u64 0) w := by intros; kernel_rfl
@[simp] theorem Tryp.zeroValue120 : ∀ (w : Go.World), Go.Sem.run (cutP Go.Proofs.Try.prog) (Go.zeroValue 120) w = Go.Result.ok (Go.Value.agg #[]) w := by intros; kernel_rfl
@[simp] theorem Tryp.zeroValue121 : ∀ (w : Go.World), Go.Sem.run (cutP Go.Proofs.Try.prog) (Go.zeroValue 121) w = Go.Result.ok (Go.Value.int Go.IntKind.u8 0) w := by intros; kernel_rfl
@[simp] theorem Tryp.zeroValue122 : ∀ (w : Go.World), Go.Sem.run (cutP Go.Proofs.Try.prog) (Go.zeroValue 122) w = Go.Result.ok (Go.Value.int Go.IntKind.u8 0) w := by intros; kernel_rfl
@[simp] theorem Tryp.zeroValue123 : ∀ (w : Go.World), Go.Sem.run (cutP Go.Proofs.Try.prog) (Go.zeroValue 123) w = Go.Result.ok Go.Value.nilFunc w := by intros; kernel_rfl
@[simp] theorem Tryp.zeroValue124 : ∀ (w : Go.World), Go.Sem.run (cutP Go.Proofs.Try.prog) (Go.zeroValue 124) w = Go.Result.ok (Go.Value.pointer Option.none) w := by intros; kernel_rfl
@[simp] theorem Tryp.zeroValue125 : ∀ (w : Go.World), Go.Sem.run (cutP Go.Proofs.Try.prog) (Go.zeroValue 125) w = Go.Result.ok (Go.Value.int Go.IntKind.i32 0) w := by intros; kernel_rfl
@[simp] theorem Tryp.zeroValue126 : ∀ (w : Go.World), Go.Sem.run (cutP Go.Proofs.Try.prog) (Go.zeroValue 126) w = Go.Result.ok (Go.Value.int Go.IntKind.i32 0) w := by intros; kernel_rfl
@[simp] theorem Tryp.zeroValue127 : ∀ (w : Go.World), Go.Sem.run (cutP Go.Proofs.Try.prog) (Go.zeroValue 127) w = Go.Result.ok (Go.Value.agg #[Go.Value.int Go.IntKind.u64 0, Go.Value.int Go.IntKind.u64 0, Go.Value.int Go.IntKind.u32 0, Go.Value.int Go.IntKind.u8 0, Go.Value.int Go.IntKind.u8 0, Go.Value.int Go.IntKind.u8 0, Go.Value.int Go.IntKind.u8 0, Go.Value.nilFunc, Go.Value.pointer Option.none, Go.Value.int Go.IntKind.i32 0, Go.Value.int Go.IntKind.i32 0]) w := by intros; kernel_rfl
@[simp] theorem Tryp.zeroValue128 : ∀ (w : Go.World), Go.Sem.run (cutP Go.Proofs.Try.prog) (Go.zeroValue 128) w = Go.Result.ok (Go.Value.agg #[Go.Value.int Go.IntKind.u64 0, Go.Value.int Go.IntKind.u64 0, Go.Value.int Go.IntKind.u32 0, Go.Value.int Go.IntKind.u8 0, Go.Value.int Go.IntKind.u8 0, Go.Value.int Go.IntKind.u8 0, Go.Value.int Go.IntKind.u8 0, Go.Value.nilFunc, Go.Value.pointer Option.none, Go.Value.int Go.IntKind.i32 0, Go.Value.int Go.IntKind.i32 0]) w := by intros; kernel_rfl
@[simp] theorem Tryp.zeroValue13 : ∀ (w : Go.World), Go.Sem.run (cutP Go.Proofs.Try.prog) (Go.zeroValue 13) w = Go.Result.ok (Go.Value.agg #[Go.Value.string { data := #[] }, Go.Value.int Go.IntKind.u64 0]) w := by intros; kernel_rfl
@[simp] theorem Tryp.zeroValue14 : ∀ (w : Go.World), Go.Sem.run (cutP Go.Proofs.Try.prog) (Go.zeroValue 14) w = Go.Result.ok (Go.Value.agg #[Go.Value.string { data := #[] }, Go.Value.int Go.IntKind.u64 0]) w := by intros; kernel_rfl
@[simp] theorem Tryp.zeroValue15 : ∀ (w : Go.World), Go.Sem.run (cutP Go.Proofs.Try.prog) (Go.zeroValue 15) w = Go.Result.ok (Go.Value.pointer Option.none) w := by intros; kernel_rfl
@[simp] theorem Tryp.zeroValue16 : ∀ (w : Go.World), Go.Sem.run (cutP Go.Proofs.Try.prog) (Go.zeroValue 16) w = Go.Result.ok (Go.Value.pointer Option.none) w := by intros; kernel_rfl
@[simp] theorem Tryp.zeroValue17 : ∀ (w : Go.World), Go.Sem.run (cutP Go.Proofs.Try.prog) (Go.zeroValue 17) w = Go.Result.ok (Go.Value.pointer Option.none) w := by intros; kernel_rfl
@[simp] theorem Tryp.zeroValue18 : ∀ (w : Go.World), Go.Sem.run (cutP Go.Proofs.Try.prog) (Go.zeroValue 18) w = Go.Result.ok (Go.Value.agg #[Go.Value.pointer Option.none]) w := by intros; kernel_rfl
@[simp] theorem Tryp.zeroValue19 : ∀ (w : Go.World), Go.Sem.run (cutP Go.Proofs.Try.prog) (Go.zeroValue 19) w = Go.Result.ok (Go.Value.agg #[Go.Value.pointer Option.none]) w := by intros; kernel_rfl
@[simp] theorem Tryp.zeroValue2 : ∀ (w : Go.World), Go.Sem.run (cutP Go.Proofs.Try.prog) (Go.zeroValue 2) w = Go.Result.ok (Go.Value.int Go.IntKind.i64 0) w := by intros; kernel_rfl
@[simp] theorem Tryp.zeroValue20 : ∀ (w : Go.World), Go.Sem.run (cutP Go.Proofs.Try.prog) (Go.zeroValue 20) w = Go.Result.ok Go.Value.nilIface w := by intros; kernel_rfl
@[simp] theorem Tryp.zeroValue21 : ∀ (w : Go.World), Go.Sem.run (cutP Go.Proofs.Try.prog) (Go.zeroValue 21) w = Go.Result.ok (Go.Value.int Go.IntKind.i32 0) w := by intros; kernel_rfl
@[simp] theorem Tryp.zeroValue22 : ∀ (w : Go.World), Go.Sem.run (cutP Go.Proofs.Try.prog) (Go.zeroValue 22) w = Go.Result.ok (Go.Value.slice Option.none 0 0) w := by intros; kernel_rfl
@[simp] theorem Tryp.zeroValue23 : ∀ (w : Go.World), Go.Sem.run (cutP Go.Proofs.Try.prog) (Go.zeroValue 23) w = Go.Result.ok (Go.Value.slice Option.none 0 0) w := by intros; kernel_rfl
@[simp] theorem Tryp.zeroValue24 : ∀ (w : Go.World), Go.Sem.run (cutP Go.Proofs.Try.prog) (Go.zeroValue 24) w = Go.Result.ok Go.Value.nilFunc w := by intros; kernel_rfl
@[simp] theorem Tryp.zeroValue25 : ∀ (w : Go.World), Go.Sem.run (cutP Go.Proofs.Try.prog) (Go.zeroValue 25) w = Go.Result.ok (Go.Value.slice Option.none 0 0) w := by intros; kernel_rfl
@[simp] theorem Tryp.zeroValue26 : ∀ (w : Go.World), Go.Sem.run (cutP Go.Proofs.Try.prog) (Go.zeroValue 26) w = Go.Result.ok (Go.Value.tuple #[Go.Value.slice Option.none 0 0, Go.Value.bool Bool.false]) w := by intros; kernel_rfl
@[simp] theorem Tryp.zeroValue27 : ∀ (w : Go.World), Go.Sem.run (cutP Go.Proofs.Try.prog) (Go.zeroValue 27) w = Go.Result.ok Go.Value.nilFunc w := by intros; kernel_rfl
@[simp] theorem Tryp.zeroValue28 : ∀ (w : Go.World), Go.Sem.run (cutP Go.Proofs.Try.prog) (Go.zeroValue 28) w = Go.Result.ok Go.Value.nilFunc w := by intros; kernel_rfl
@[simp] theorem Tryp.zeroValue29 : ∀ (w : Go.World), Go.Sem.run (cutP Go.Proofs.Try.prog) (Go.zeroValue 29) w = Go.Result.ok (Go.Value.tuple #[Go.Value.int Go.IntKind.i64 0, Go.Value.bool Bool.false]) w := by intros; kernel_rfl
@[simp] theorem Tryp.zeroValue3 : ∀ (w : Go.World), Go.Sem.run (cutP Go.Proofs.Try.prog) (Go.zeroValue 3) w = Go.Result.ok (Go.Value.int Go.IntKind.i64 0) w := by intros; kernel_rfl
@[simp] theorem Tryp.zeroValue30 : ∀ (w : Go.World), Go.Sem.run (cutP Go.Proofs.Try.prog) (Go.zeroValue 30) w = Go.Result.ok Go.Value.nilFunc w := by intros; kernel_rfl
@[simp] theorem Tryp.zeroValue31 : ∀ (w : Go.World), Go.Sem.run (cutP Go.Proofs.Try.prog) (Go.zeroValue 31) w = Go.Result.ok Go.Value.nilFunc w := by intros; kernel_rfl
@[simp] theorem Tryp.zeroValue32 : ∀ (w : Go.World), Go.Sem.run (cutP Go.Proofs.Try.prog) (Go.zeroValue 32) w = Go.Result.ok (Go.Value.tuple #[Go.Value.slice Option.none 0 0, Go.Value.slice Option.none 0 0]) w := by intros; kernel_rfl
@[simp] theorem Tryp.zeroValue33 : ∀ (w : Go.World), Go.Sem.run (cutP Go.Proofs.Try.prog) (Go.zeroValue 33) w = Go.Result.ok Go.Value.nilFunc w := by intros; kernel_rfl
@[simp] theorem Tryp.zeroValue34 : ∀ (w : Go.World), Go.Sem.run (cutP Go.Proofs.Try.prog) (Go.zeroValue 34) w = Go.Result.ok Go.Value.nilFunc w := by intros; kernel_rfl
@[simp] theorem Tryp.zeroValue35 : ∀ (w : Go.World), Go.Sem.run (cutP Go.Proofs.Try.prog) (Go.zeroValue 35) w = Go.Result.ok Go.Value.nilFunc w := by intros; kernel_rfl
@[simp] theorem Tryp.zeroValue36 : ∀ (w : Go.World), Go.Sem.run (cutP Go.Proofs.Try.prog) (Go.zeroValue 36) w = Go.Result.ok Go.Value.nilFunc w := by intros; kernel_rfl
@[simp] theorem Tryp.zeroValue37 : ∀ (w : Go.World), Go.Sem.run (cutP Go.Proofs.Try.prog) (Go.zeroValue 37) w = Go.Result.ok Go.Value.nilFunc w := by intros; kernel_rfl
@[simp] theorem Tryp.zeroValue38 : ∀ (w : Go.World), Go.Sem.run (cutP Go.Proofs.Try.prog) (Go.zeroValue 38) w = Go.Result.ok Go.Value.nilFunc w := by intros; kernel_rfl
@[simp] theorem Tryp.zeroValue39 : ∀ (w : Go.World), Go.Sem.run (cutP Go.Proofs.Try.prog) (Go.zeroValue 39) w = Go.Result.ok Go.Value.nilFunc w := by intros; kernel_rfl
@[simp] theorem Tryp.zeroValue4 : ∀ (w : Go.World), Go.Sem.run (cutP Go.Proofs.Try.prog) (Go.zeroValue 4) w = Go.Result.ok (Go.Value.bool Bool.false) w := by intros; kernel_rfl
@[simp] theorem Tryp.zeroValue40 : ∀ (w : Go.World), Go.Sem.run (cutP Go.Proofs.Try.prog) (Go.zeroValue 40) w = Go.Result.ok Go.Value.nilFunc w := by intros; kernel_rfl
@[simp] theorem Tryp.zeroValue41 : ∀ (w : Go.World), Go.Sem.run (cutP Go.Proofs.Try.prog) (Go.zeroValue 41) w = Go.Result.ok Go.Value.nilFunc w := by intros; kernel_rfl
@[simp] theorem Tryp.zeroValue42 : ∀ (w : Go.World), Go.Sem.run (cutP Go.Proofs.Try.prog) (Go.zeroValue 42) w = Go.Result.ok (Go.Value.tuple #[Go.Value.slice Option.none 0 0, Go.Value.bool Bool.false]) w := by intros; kernel_rfl
@[simp] theorem Tryp.zeroValue43 : ∀ (w : Go.World), Go.Sem.run (cutP Go.Proofs.Try.prog) (Go.zeroValue 43) w = Go.Result.ok Go.Value.nilFunc w := by intros; kernel_rfl
@[simp] theorem Tryp.zeroValue44 : ∀ (w : Go.World), Go.Sem.run (cutP Go.Proofs.Try.prog) (Go.zeroValue 44) w = Go.Result.ok Go.Value.nilFunc w := by intros; kernel_rfl
@[simp] theorem Tryp.zeroValue45 : ∀ (w : Go.World), Go.Sem.run (cutP Go.Proofs.Try.prog) (Go.zeroValue 45) w = Go.Result.ok Go.Value.nilFunc w := by intros; kernel_rfl
@[simp] theorem Tryp.zeroValue46 : ∀ (w : Go.World), Go.Sem.run (cutP Go.Proofs.Try.prog) (Go.zeroValue 46) w = Go.Result.ok Go.Value.nilFunc w := by intros; kernel_rfl
@[simp] theorem Tryp.zeroValue47 : ∀ (w : Go.World), Go.Sem.run (cutP Go.Proofs.Try.prog) (Go.zeroValue 47) w = Go.Result.ok (Go.Value.pointer Option.none) w := by intros; kernel_rfl
@[simp] theorem Tryp.zeroValue48 : ∀ (w : Go.World), Go.Sem.run (cutP Go.Proofs.Try.prog) (Go.zeroValue 48) w = Go.Result.ok Go.Value.nilFunc w := by intros; kernel_rfl
@[simp] theorem Tryp.zeroValue49 : ∀ (w : Go.World), Go.Sem.run (cutP Go.Proofs.Try.prog) (Go.zeroValue 49) w = Go.Result.ok Go.Value.nilFunc w := by intros; kernel_rfl
@[simp] theorem Tryp.zeroValue5 : ∀ (w : Go.World), Go.Sem.run (cutP Go.Proofs.Try.prog) (Go.zeroValue 5) w = Go.Result.ok (Go.Value.int Go.IntKind.u8 0) w := by intros; kernel_rfl
@[simp] theorem Tryp.zeroValue50 : ∀ (w : Go.World), Go.Sem.run (cutP Go.Proofs.Try.prog) (Go.zeroValue 50) w = Go.Result.ok Go.Value.nilFunc w := by intros; kernel_rfl
@[simp] theorem Tryp.zeroValue51 : ∀ (w : Go.World), Go.Sem.run (cutP Go.Proofs.Try.prog) (Go.zeroValue 51) w = Go.Result.ok Go.Value.nilFunc w := by intros; kernel_rfl
@[simp] theorem Tryp.zeroValue52 : ∀ (w : Go.World), Go.Sem.run (cutP Go.Proofs.Try.prog) (Go.zeroValue 52) w = Go.Result.ok Go.Value.nilFunc w := by intros; kernel_rfl
@[simp] theorem Tryp.zeroValue53 : ∀ (w : Go.World), Go.Sem.run (cutP Go.Proofs.Try.prog) (Go.zeroValue 53) w = Go.Result.ok Go.Value.nilFunc w := by intros; kernel_rfl
@[simp] theorem Tryp.zeroValue54 : ∀ (w : Go.World), Go.Sem.run (cutP Go.Proofs.Try.prog) (Go.zeroValue 54) w = Go.Result.ok (Go.Value.slice Option.none 0 0) w := by intros; kernel_rfl
@[simp] theorem Tryp.zeroValue55 : ∀ (w : Go.World), Go.Sem.run (cutP Go.Proofs.Try.prog) (Go.zeroValue 55) w = Go.Result.ok Go.Value.nilFunc w := by intros; kernel_rfl
@[simp] theorem Tryp.zeroValue56 : ∀ (w : Go.World), Go.Sem.run (cutP Go.Proofs.Try.prog) (Go.zeroValue 56) w = Go.Result.ok (Go.Value.int Go.IntKind.u64 0) w := by intros; kernel_rfl
@[simp] theorem Tryp.zeroValue57 : ∀ (w : Go.World), Go.Sem.run (cutP Go.Proofs.Try.prog) (Go.zeroValue 57) w = Go.Result.ok (Go.Value.int Go.IntKind.u64 0) w := by intros; kernel_rfl
@[simp] theorem Tryp.zeroValue58 : ∀ (w : Go.World), Go.Sem.run (cutP Go.Proofs.Try.prog) (Go.zeroValue 58) w = Go.Result.ok Go.Value.nilFunc w := by intros; kernel_rfl
@[simp] theorem Tryp.zeroValue59 : ∀ (w : Go.World), Go.Sem.run (cutP Go.Proofs.Try.prog) (Go.zeroValue 59) w = Go.Result.ok Go.Value.nilFunc w := by intros; kernel_rfl
@[simp] theorem Tryp.zeroValue6 : ∀ (w : Go.World), Go.Sem.run (cutP Go.Proofs.Try.prog) (Go.zeroValue 6) w = Go.Result.ok (Go.Value.int Go.IntKind.u8 0) w := by intros; kernel_rfl
@[simp] theorem Tryp.zeroValue60 : ∀ (w : Go.World), Go.Sem.run (cutP Go.Proofs.Try.prog) (Go.zeroValue 60) w = Go.Result.ok Go.Value.nilFunc w := by intros; kernel_rfl
@[simp] theorem Tryp.zeroValue61 : ∀ (w : Go.World), Go.Sem.run (cutP Go.Proofs.Try.prog) (Go.zeroValue 61) w = Go.Result.ok Go.Value.nilFunc w := by intros; kernel_rfl
@[simp] theorem Tryp.zeroValue62 : ∀ (w : Go.World), Go.Sem.run (cutP Go.Proofs.Try.prog) (Go.zeroValue 62) w = Go.Result.ok Go.Value.nilFunc w := by intros; kernel_rfl
@[simp] theorem Tryp.zeroValue63 : ∀ (w : Go.World), Go.Sem.run (cutP Go.Proofs.Try.prog) (Go.zeroValue 63) w = Go.Result.ok Go.Value.nilFunc w := by intros; kernel_rfl
@[simp] theorem Tryp.zeroValue64 : ∀ (w : Go.World), Go.Sem.run (cutP Go.Proofs.Try.prog) (Go.zeroValue 64) w = Go.Result.ok (Go.Value.agg #[Go.Value.int Go.IntKind.i64 0, Go.Value.int Go.IntKind.i64 0, Go.Value.int Go.IntKind.i64 0, Go.Value.int Go.IntKind.i64 0, Go.Value.int Go.IntKind.i64 0, Go.Value.int Go.IntKind.i64 0, Go.Value.int Go.IntKind.i64 0, Go.Value.int Go.IntKind.i64 0]) w := by intros; kernel_rfl
@[simp] theorem Tryp.zeroValue65 : ∀ (w : Go.World), Go.Sem.run (cutP Go.Proofs.Try.prog) (Go.zeroValue 65) w = Go.Result.ok (Go.Value.agg #[Go.Value.int Go.IntKind.i64 0, Go.Value.int Go.IntKind.i64 0, Go.Value.int Go.IntKind.i64 0, Go.Value.int Go.IntKind.i64 0, Go.Value.int Go.IntKind.i64 0, Go.Value.int Go.IntKind.i64 0, Go.Value.int Go.IntKind.i64 0, Go.Value.int Go.IntKind.i64 0]) w := by intros; kernel_rfl
@[simp] theorem Tryp.zeroValue66 : ∀ (w : Go.World), Go.Sem.run (cutP Go.Proofs.Try.prog) (Go.zeroValue 66) w = Go.Result.ok Go.Value.nilFunc w := by intros; kernel_rfl
@[simp] theorem Tryp.zeroValue67 : ∀ (w : Go.World), Go.Sem.run (cutP Go.Proofs.Try.prog) (Go.zeroValue 67) w = Go.Result.ok Go.Value.nilFunc w := by intros; kernel_rfl
@[simp] theorem Tryp.zeroValue68 : ∀ (w : Go.World), Go.Sem.run (cutP Go.Proofs.Try.prog) (Go.zeroValue 68) w = Go.Result.ok Go.Value.nilFunc w := by intros; kernel_rfl
@[simp] theorem Tryp.zeroValue69 : ∀ (w : Go.World), Go.Sem.run (cutP Go.Proofs.Try.prog) (Go.zeroValue 69) w = Go.Result.ok Go.Value.nilFunc w := by intros; kernel_rfl
@[simp] theorem Tryp.zeroValue7 : ∀ (w : Go.World), Go.Sem.run (cutP Go.Proofs.Try.prog) (Go.zeroValue 7) w = Go.Result.ok (Go.Value.agg #[Go.Value.int Go.IntKind.i64 0, Go.Value.int Go.IntKind.i64 0, Go.Value.bool Bool.false, Go.Value.int Go.IntKind.u8 0]) w := by intros; kernel_rfl
@[simp] theorem Tryp.zeroValue70 : ∀ (w : Go.World), Go.Sem.run (cutP Go.Proofs.Try.prog) (Go.zeroValue 70) w = Go.Result.ok (Go.Value.agg #[Go.Value.slice Option.none 0 0, Go.Value.int Go.IntKind.i64 0]) w := by intros; kernel_rfl
@[simp] theorem Tryp.zeroValue71 : ∀ (w : Go.World), Go.Sem.run (cutP Go.Proofs.Try.prog) (Go.zeroValue 71) w = Go.Result.ok (Go.Value.agg #[Go.Value.slice Option.none 0 0, Go.Value.int Go.IntKind.i64 0]) w := by intros; kernel_rfl
@[simp] theorem Tryp.zeroValue72 : ∀ (w : Go.World), Go.Sem.run (cutP Go.Proofs.Try.prog) (Go.zeroValue 72) w = Go.Result.ok Go.Value.nilFunc w := by intros; kernel_rfl
@[simp] theorem Tryp.zeroValue73 : ∀ (w : Go.World), Go.Sem.run (cutP Go.Proofs.Try.prog) (Go.zeroValue 73) w = Go.Result.ok Go.Value.nilFunc w := by intros; kernel_rfl
@[simp] theorem Tryp.zeroValue74 : ∀ (w : Go.World), Go.Sem.run (cutP Go.Proofs.Try.prog) (Go.zeroValue 74) w = Go.Result.ok Go.Value.nilFunc w := by intros; kernel_rfl
@[simp] theorem Tryp.zeroValue75 : ∀ (w : Go.World), Go.Sem.run (cutP Go.Proofs.Try.prog) (Go.zeroValue 75) w = Go.Result.ok Go.Value.nilFunc w := by intros; kernel_rfl
@[simp] theorem Tryp.zeroValue76 : ∀ (w : Go.World), Go.Sem.run (cutP Go.Proofs.Try.prog) (Go.zeroValue 76) w = Go.Result.ok (Go.Value.tuple #[Go.Value.agg #[Go.Value.int Go.IntKind.i64 0, Go.Value.int Go.IntKind.i64 0, Go.Value.int Go.IntKind.i64 0, Go.Value.int Go.IntKind.i64 0, Go.Value.int Go.IntKind.i64 0, Go.Value.int Go.IntKind.i64 0, Go.Value.int Go.IntKind.i64 0, Go.Value.int Go.IntKind.i64 0], Go.Value.bool Bool.false]) w := by intros; kernel_rfl
@[simp] theorem Tryp.zeroValue77 : ∀ (w : Go.World), Go.Sem.run (cutP Go.Proofs.Try.prog) (Go.zeroValue 77) w = Go.Result.ok Go.Value.nilFunc w := by intros; kernel_rfl
@[simp] theorem Tryp.zeroValue78 : ∀ (w : Go.World), Go.Sem.run (cutP Go.Proofs.Try.prog) (Go.zeroValue 78) w = Go.Result.ok Go.Value.nilFunc w := by intros; kernel_rfl
@[simp] theorem Tryp.zeroValue79 : ∀ (w : Go.World), Go.Sem.run (cutP Go.Proofs.Try.prog) (Go.zeroValue 79) w = Go.Result.ok (Go.Value.slice Option.none 0 0) w := by intros; kernel_rfl
@[simp] theorem Tryp.zeroValue8 : ∀ (w : Go.World), Go.Sem.run (cutP Go.Proofs.Try.prog) (Go.zeroValue 8) w = Go.Result.ok (Go.Value.agg #[Go.Value.int Go.IntKind.i64 0, Go.Value.int Go.IntKind.i64 0, Go.Value.bool Bool.false, Go.Value.int Go.IntKind.u8 0]) w := by intros; kernel_rfl
@[simp] theorem Tryp.zeroValue80 : ∀ (w : Go.World), Go.Sem.run (cutP Go.Proofs.Try.prog) (Go.zeroValue 80) w = Go.Result.ok (Go.Value.agg #[]) w := by intros; kernel_rfl
@[simp] theorem Tryp.zeroValue81 : ∀ (w : Go.World), Go.Sem.run (cutP Go.Proofs.Try.prog) (Go.zeroValue 81) w = Go.Result.ok (Go.Value.agg #[]) w := by intros; kernel_rfl
@[simp] theorem Tryp.zeroValue82 : ∀ (w : Go.World), Go.Sem.run (cutP Go.Proofs.Try.prog) (Go.zeroValue 82) w = Go.Result.ok (Go.Value.agg #[]) w := by intros; kernel_rfl
@[simp] theorem Tryp.zeroValue83 : ∀ (w : Go.World), Go.Sem.run (cutP Go.Proofs.Try.prog) (Go.zeroValue 83) w = Go.Result.ok (Go.Value.agg #[]) w := by intros; kernel_rfl
@[simp] theorem Tryp.zeroValue84 : ∀ (w : Go.World), Go.Sem.run (cutP Go.Proofs.Try.prog) (Go.zeroValue 84) w = Go.Result.ok (Go.Value.int Go.IntKind.u64 0) w := by intros; kernel_rfl
@[simp] theorem Tryp.zeroValue85 : ∀ (w : Go.World), Go.Sem.run (cutP Go.Proofs.Try.prog) (Go.zeroValue 85) w = Go.Result.ok (Go.Value.agg #[Go.Value.int Go.IntKind.u64 0]) w := by intros; kernel_rfl
@[simp] theorem Tryp.zeroValue86 : ∀ (w : Go.World), Go.Sem.run (cutP Go.Proofs.Try.prog) (Go.zeroValue 86) w = Go.Result.ok (Go.Value.agg #[Go.Value.int Go.IntKind.u64 0]) w := by intros; kernel_rfl
@[simp] theorem Tryp.zeroValue87 : ∀ (w : Go.World), Go.Sem.run (cutP Go.Proofs.Try.prog) (Go.zeroValue 87) w = Go.Result.ok (Go.Value.int Go.IntKind.u32 0) w := by intros; kernel_rfl
@[simp] theorem Tryp.zeroValue88 : ∀ (w : Go.World), Go.Sem.run (cutP Go.Proofs.Try.prog) (Go.zeroValue 88) w = Go.Result.ok (Go.Value.agg #[Go.Value.int Go.IntKind.u64 0, Go.Value.int Go.IntKind.u32 0]) w := by intros; kernel_rfl
@[simp] theorem Tryp.zeroValue89 : ∀ (w : Go.World), Go.Sem.run (cutP Go.Proofs.Try.prog) (Go.zeroValue 89) w = Go.Result.ok (Go.Value.agg #[Go.Value.int Go.IntKind.u64 0, Go.Value.int Go.IntKind.u32 0]) w := by intros; kernel_rfl
@[simp] theorem Tryp.zeroValue9 : ∀ (w : Go.World), Go.Sem.run (cutP Go.Proofs.Try.prog) (Go.zeroValue 9) w = Go.Result.ok (Go.Value.string { data := #[] }) w := by intros; kernel_rfl
@[simp] theorem Tryp.zeroValue90 : ∀ (w : Go.World), Go.Sem.run (cutP Go.Proofs.Try.prog) (Go.zeroValue 90) w = Go.Result.ok (Go.Value.chan Option.none) w := by intros; kernel_rfl
@[simp] theorem Tryp.zeroValue91 : ∀ (w : Go.World), Go.Sem.run (cutP Go.Proofs.Try.prog) (Go.zeroValue 91) w = Go.Result.ok Go.Value.nilFunc w := by intros; kernel_rfl
@[simp] theorem Tryp.zeroValue92 : ∀ (w : Go.World), Go.Sem.run (cutP Go.Proofs.Try.prog) (Go.zeroValue 92) w = Go.Result.ok Go.Value.nilFunc w := by intros; kernel_rfl
@[simp] theorem Tryp.zeroValue93 : ∀ (w : Go.World), Go.Sem.run (cutP Go.Proofs.Try.prog) (Go.zeroValue 93) w = Go.Result.ok (Go.Value.pointer Option.none) w := by intros; kernel_rfl
@[simp] theorem Tryp.zeroValue94 : ∀ (w : Go.World), Go.Sem.run (cutP Go.Proofs.Try.prog) (Go.zeroValue 94) w = Go.Result.ok Go.Value.nilFunc w := by intros; kernel_rfl
@[simp] theorem Tryp.zeroValue95 : ∀ (w : Go.World), Go.Sem.run (cutP Go.Proofs.Try.prog) (Go.zeroValue 95) w = Go.Result.ok (Go.Value.pointer Option.none) w := by intros; kernel_rfl
@[simp] theorem Tryp.zeroValue96 : ∀ (w : Go.World), Go.Sem.run (cutP Go.Proofs.Try.prog) (Go.zeroValue 96) w = Go.Result.ok Go.Value.nilFunc w := by intros; kernel_rfl
@[simp] theorem Tryp.zeroValue97 : ∀ (w : Go.World), Go.Sem.run (cutP Go.Proofs.Try.prog) (Go.zeroValue 97) w = Go.Result.ok (Go.Value.int Go.IntKind.i64 0) w := by intros; kernel_rfl
@[simp] theorem Tryp.zeroValue98 : ∀ (w : Go.World), Go.Sem.run (cutP Go.Proofs.Try.prog) (Go.zeroValue 98) w = Go.Result.ok Go.Value.nilFunc w := by intros; kernel_rfl
@[simp] theorem Tryp.zeroValue99 : ∀ (w : Go.World), Go.Sem.run (cutP Go.Proofs.Try.prog) (Go.zeroValue 99) w = Go.Result.ok Go.Value.nilFunc w := by intros; kernel_rfl

end Go.Proofs.Ytfiaiephbemdoaa
