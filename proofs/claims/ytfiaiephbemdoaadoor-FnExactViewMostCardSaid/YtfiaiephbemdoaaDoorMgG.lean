/-
  What the laws of this claim lean on: what functions of the program and of the model answer, one after another, and plain mathematics. No condition.
-/
import Derived.Test.YtfiaiephbemdoaaDoorMgD
import Derived.Test.YtfiaiephbemdoaaDoorProg
import Derived.KernelRfl

set_option maxHeartbeats 800000
set_option linter.unusedVariables false
set_option linter.unusedSimpArgs false
set_option linter.unnecessarySimpa false
set_option maxRecDepth 100000

namespace Go.Proofs.YtfiaiephbemdoaaDoor

def Trydp.keep : List Nat := [3, 4, 5, 6, 7, 8, 9, 10, 11, 12, 13, 14, 15, 16, 17, 18, 19, 20, 21, 23, 24, 25, 26, 27, 28, 29, 30, 32, 33, 34, 35, 36, 37, 38, 39, 40, 41, 42, 43, 44, 45, 46, 51, 52, 53, 54, 55, 56, 57, 58, 59, 78, 79, 80, 81, 87]
def Trydp.noType : TypeId := 1000000000000
def cutP (P : Program) : Program := cutProg P Trydp.noType (P.funcs.mapIdx fun i f => if Trydp.keep.contains i then f else struckFn)

theorem Trydp.noInfo : Tryd.prog.info? Trydp.noType = none := by kernel_rfl

@[simp] theorem Trydp.call10 : ∀ (args : Array Go.Value) (w : Go.World), Go.Sem.run (cutP Go.Proofs.Tryd.prog) (Go.callFunc 10 args) w = Go.Result.ok (Go.Next.enter 10 args) w := by intros; kernel_rfl
@[simp] theorem Trydp.call11 : ∀ (args : Array Go.Value) (w : Go.World), Go.Sem.run (cutP Go.Proofs.Tryd.prog) (Go.callFunc 11 args) w = Go.Result.ok (Go.Next.enter 11 args) w := by intros; kernel_rfl
@[simp] theorem Trydp.call12 : ∀ (args : Array Go.Value) (w : Go.World), Go.Sem.run (cutP Go.Proofs.Tryd.prog) (Go.callFunc 12 args) w = Go.Result.ok (Go.Next.enter 12 args) w := by intros; kernel_rfl
@[simp] theorem Trydp.call13 : ∀ (args : Array Go.Value) (w : Go.World), Go.Sem.run (cutP Go.Proofs.Tryd.prog) (Go.callFunc 13 args) w = Go.Result.ok (Go.Next.enter 13 args) w := by intros; kernel_rfl
@[simp] theorem Trydp.call14 : ∀ (args : Array Go.Value) (w : Go.World), Go.Sem.run (cutP Go.Proofs.Tryd.prog) (Go.callFunc 14 args) w = Go.Result.ok (Go.Next.enter 14 args) w := by intros; kernel_rfl
@[simp] theorem Trydp.call15 : ∀ (args : Array Go.Value) (w : Go.World), Go.Sem.run (cutP Go.Proofs.Tryd.prog) (Go.callFunc 15 args) w = Go.Result.ok (Go.Next.enter 15 args) w := by intros; kernel_rfl
@[simp] theorem Trydp.call16 : ∀ (args : Array Go.Value) (w : Go.World), Go.Sem.run (cutP Go.Proofs.Tryd.prog) (Go.callFunc 16 args) w = Go.Result.ok (Go.Next.enter 16 args) w := by intros; kernel_rfl
@[simp] theorem Trydp.call17 : ∀ (args : Array Go.Value) (w : Go.World), Go.Sem.run (cutP Go.Proofs.Tryd.prog) (Go.callFunc 17 args) w = Go.Result.ok (Go.Next.enter 17 args) w := by intros; kernel_rfl
@[simp] theorem Trydp.call18 : ∀ (args : Array Go.Value) (w : Go.World), Go.Sem.run (cutP Go.Proofs.Tryd.prog) (Go.callFunc 18 args) w = Go.Result.ok (Go.Next.enter 18 args) w := by intros; kernel_rfl
@[simp] theorem Trydp.call19 : ∀ (args : Array Go.Value) (w : Go.World), Go.Sem.run (cutP Go.Proofs.Tryd.prog) (Go.callFunc 19 args) w = Go.Result.ok (Go.Next.enter 19 args) w := by intros; kernel_rfl
@[simp] theorem Trydp.call20 : ∀ (args : Array Go.Value) (w : Go.World), Go.Sem.run (cutP Go.Proofs.Tryd.prog) (Go.callFunc 20 args) w = Go.Result.ok (Go.Next.enter 20 args) w := by intros; kernel_rfl
@[simp] theorem Trydp.call21 : ∀ (args : Array Go.Value) (w : Go.World), Go.Sem.run (cutP Go.Proofs.Tryd.prog) (Go.callFunc 21 args) w = Go.Result.ok (Go.Next.enter 21 args) w := by intros; kernel_rfl
@[simp] theorem Trydp.call23 : ∀ (args : Array Go.Value) (w : Go.World), Go.Sem.run (cutP Go.Proofs.Tryd.prog) (Go.callFunc 23 args) w = Go.Result.ok (Go.Next.enter 23 args) w := by intros; kernel_rfl
@[simp] theorem Trydp.call24 : ∀ (args : Array Go.Value) (w : Go.World), Go.Sem.run (cutP Go.Proofs.Tryd.prog) (Go.callFunc 24 args) w = Go.Result.ok (Go.Next.enter 24 args) w := by intros; kernel_rfl
@[simp] theorem Trydp.call25 : ∀ (args : Array Go.Value) (w : Go.World), Go.Sem.run (cutP Go.Proofs.Tryd.prog) (Go.callFunc 25 args) w = Go.Result.ok (Go.Next.enter 25 args) w := by intros; kernel_rfl
@[simp] theorem Trydp.call26 : ∀ (args : Array Go.Value) (w : Go.World), Go.Sem.run (cutP Go.Proofs.Tryd.prog) (Go.callFunc 26 args) w = Go.Result.ok (Go.Next.enter 26 args) w := by intros; kernel_rfl
@[simp] theorem Trydp.call27 : ∀ (args : Array Go.Value) (w : Go.World), Go.Sem.run (cutP Go.Proofs.Tryd.prog) (Go.callFunc 27 args) w = Go.Result.ok (Go.Next.enter 27 args) w := by intros; kernel_rfl
@[simp] theorem Trydp.call28 : ∀ (args : Array Go.Value) (w : Go.World), Go.Sem.run (cutP Go.Proofs.Tryd.prog) (Go.callFunc 28 args) w = Go.Result.ok (Go.Next.enter 28 args) w := by intros; kernel_rfl
@[simp] theorem Trydp.call29 : ∀ (args : Array Go.Value) (w : Go.World), Go.Sem.run (cutP Go.Proofs.Tryd.prog) (Go.callFunc 29 args) w = Go.Result.ok (Go.Next.enter 29 args) w := by intros; kernel_rfl
@[simp] theorem Trydp.call3 : ∀ (args : Array Go.Value) (w : Go.World), Go.Sem.run (cutP Go.Proofs.Tryd.prog) (Go.callFunc 3 args) w = Go.Result.ok (Go.Next.enter 3 args) w := by intros; kernel_rfl
@[simp] theorem Trydp.call30 : ∀ (args : Array Go.Value) (w : Go.World), Go.Sem.run (cutP Go.Proofs.Tryd.prog) (Go.callFunc 30 args) w = Go.Result.ok (Go.Next.enter 30 args) w := by intros; kernel_rfl
@[simp] theorem Trydp.call32 : ∀ (args : Array Go.Value) (w : Go.World), Go.Sem.run (cutP Go.Proofs.Tryd.prog) (Go.callFunc 32 args) w = Go.Result.ok (Go.Next.enter 32 args) w := by intros; kernel_rfl
@[simp] theorem Trydp.call33 : ∀ (args : Array Go.Value) (w : Go.World), Go.Sem.run (cutP Go.Proofs.Tryd.prog) (Go.callFunc 33 args) w = Go.Result.ok (Go.Next.enter 33 args) w := by intros; kernel_rfl
@[simp] theorem Trydp.call34 : ∀ (args : Array Go.Value) (w : Go.World), Go.Sem.run (cutP Go.Proofs.Tryd.prog) (Go.callFunc 34 args) w = Go.Result.ok (Go.Next.enter 34 args) w := by intros; kernel_rfl
@[simp] theorem Trydp.call35 : ∀ (args : Array Go.Value) (w : Go.World), Go.Sem.run (cutP Go.Proofs.Tryd.prog) (Go.callFunc 35 args) w = Go.Result.ok (Go.Next.enter 35 args) w := by intros; kernel_rfl
@[simp] theorem Trydp.call36 : ∀ (args : Array Go.Value) (w : Go.World), Go.Sem.run (cutP Go.Proofs.Tryd.prog) (Go.callFunc 36 args) w = Go.Result.ok (Go.Next.enter 36 args) w := by intros; kernel_rfl
@[simp] theorem Trydp.call37 : ∀ (args : Array Go.Value) (w : Go.World), Go.Sem.run (cutP Go.Proofs.Tryd.prog) (Go.callFunc 37 args) w = Go.Result.ok (Go.Next.enter 37 args) w := by intros; kernel_rfl
@[simp] theorem Trydp.call38 : ∀ (args : Array Go.Value) (w : Go.World), Go.Sem.run (cutP Go.Proofs.Tryd.prog) (Go.callFunc 38 args) w = Go.Result.ok (Go.Next.enter 38 args) w := by intros; kernel_rfl
@[simp] theorem Trydp.call39 : ∀ (args : Array Go.Value) (w : Go.World), Go.Sem.run (cutP Go.Proofs.Tryd.prog) (Go.callFunc 39 args) w = Go.Result.ok (Go.Next.enter 39 args) w := by intros; kernel_rfl
@[simp] theorem Trydp.call4 : ∀ (args : Array Go.Value) (w : Go.World), Go.Sem.run (cutP Go.Proofs.Tryd.prog) (Go.callFunc 4 args) w = Go.Result.ok (Go.Next.enter 4 args) w := by intros; kernel_rfl
@[simp] theorem Trydp.call40 : ∀ (args : Array Go.Value) (w : Go.World), Go.Sem.run (cutP Go.Proofs.Tryd.prog) (Go.callFunc 40 args) w = Go.Result.ok (Go.Next.enter 40 args) w := by intros; kernel_rfl
@[simp] theorem Trydp.call41 : ∀ (args : Array Go.Value) (w : Go.World), Go.Sem.run (cutP Go.Proofs.Tryd.prog) (Go.callFunc 41 args) w = Go.Result.ok (Go.Next.enter 41 args) w := by intros; kernel_rfl
@[simp] theorem Trydp.call42 : ∀ (args : Array Go.Value) (w : Go.World), Go.Sem.run (cutP Go.Proofs.Tryd.prog) (Go.callFunc 42 args) w = Go.Result.ok (Go.Next.enter 42 args) w := by intros; kernel_rfl
@[simp] theorem Trydp.call43 : ∀ (args : Array Go.Value) (w : Go.World), Go.Sem.run (cutP Go.Proofs.Tryd.prog) (Go.callFunc 43 args) w = Go.Result.ok (Go.Next.enter 43 args) w := by intros; kernel_rfl
@[simp] theorem Trydp.call44 : ∀ (args : Array Go.Value) (w : Go.World), Go.Sem.run (cutP Go.Proofs.Tryd.prog) (Go.callFunc 44 args) w = Go.Result.ok (Go.Next.enter 44 args) w := by intros; kernel_rfl
@[simp] theorem Trydp.call45 : ∀ (args : Array Go.Value) (w : Go.World), Go.Sem.run (cutP Go.Proofs.Tryd.prog) (Go.callFunc 45 args) w = Go.Result.ok (Go.Next.enter 45 args) w := by intros; kernel_rfl
@[simp] theorem Trydp.call46 : ∀ (args : Array Go.Value) (w : Go.World), Go.Sem.run (cutP Go.Proofs.Tryd.prog) (Go.callFunc 46 args) w = Go.Result.ok (Go.Next.enter 46 args) w := by intros; kernel_rfl
@[simp] theorem Trydp.call5 : ∀ (args : Array Go.Value) (w : Go.World), Go.Sem.run (cutP Go.Proofs.Tryd.prog) (Go.callFunc 5 args) w = Go.Result.ok (Go.Next.enter 5 args) w := by intros; kernel_rfl
@[simp] theorem Trydp.call51 : ∀ (args : Array Go.Value) (w : Go.World), Go.Sem.run (cutP Go.Proofs.Tryd.prog) (Go.callFunc 51 args) w = Go.Result.ok (Go.Next.enter 51 args) w := by intros; kernel_rfl
@[simp] theorem Trydp.call52 : ∀ (args : Array Go.Value) (w : Go.World), Go.Sem.run (cutP Go.Proofs.Tryd.prog) (Go.callFunc 52 args) w = Go.Result.ok (Go.Next.enter 52 args) w := by intros; kernel_rfl
@[simp] theorem Trydp.call53 : ∀ (args : Array Go.Value) (w : Go.World), Go.Sem.run (cutP Go.Proofs.Tryd.prog) (Go.callFunc 53 args) w = Go.Result.ok (Go.Next.enter 53 args) w := by intros; kernel_rfl
@[simp] theorem Trydp.call54 : ∀ (args : Array Go.Value) (w : Go.World), Go.Sem.run (cutP Go.Proofs.Tryd.prog) (Go.callFunc 54 args) w = Go.Result.ok (Go.Next.enter 54 args) w := by intros; kernel_rfl
@[simp] theorem Trydp.call55 : ∀ (args : Array Go.Value) (w : Go.World), Go.Sem.run (cutP Go.Proofs.Tryd.prog) (Go.callFunc 55 args) w = Go.Result.ok (Go.Next.enter 55 args) w := by intros; kernel_rfl
@[simp] theorem Trydp.call56 : ∀ (args : Array Go.Value) (w : Go.World), Go.Sem.run (cutP Go.Proofs.Tryd.prog) (Go.callFunc 56 args) w = Go.Result.ok (Go.Next.enter 56 args) w := by intros; kernel_rfl
@[simp] theorem Trydp.call57 : ∀ (args : Array Go.Value) (w : Go.World), Go.Sem.run (cutP Go.Proofs.Tryd.prog) (Go.callFunc 57 args) w = Go.Result.ok (Go.Next.enter 57 args) w := by intros; kernel_rfl
@[simp] theorem Trydp.call58 : ∀ (args : Array Go.Value) (w : Go.World), Go.Sem.run (cutP Go.Proofs.Tryd.prog) (Go.callFunc 58 args) w = Go.Result.ok (Go.Next.enter 58 args) w := by intros; kernel_rfl
@[simp] theorem Trydp.call59 : ∀ (args : Array Go.Value) (w : Go.World), Go.Sem.run (cutP Go.Proofs.Tryd.prog) (Go.callFunc 59 args) w = Go.Result.ok (Go.Next.enter 59 args) w := by intros; kernel_rfl
@[simp] theorem Trydp.call6 : ∀ (args : Array Go.Value) (w : Go.World), Go.Sem.run (cutP Go.Proofs.Tryd.prog) (Go.callFunc 6 args) w = Go.Result.ok (Go.Next.enter 6 args) w := by intros; kernel_rfl
@[simp] theorem Trydp.call7 : ∀ (args : Array Go.Value) (w : Go.World), Go.Sem.run (cutP Go.Proofs.Tryd.prog) (Go.callFunc 7 args) w = Go.Result.ok (Go.Next.enter 7 args) w := by intros; kernel_rfl
@[simp] theorem Trydp.call78 : ∀ (args : Array Go.Value) (w : Go.World), Go.Sem.run (cutP Go.Proofs.Tryd.prog) (Go.callFunc 78 args) w = Go.Result.ok (Go.Next.enter 78 args) w := by intros; kernel_rfl
@[simp] theorem Trydp.call79 : ∀ (args : Array Go.Value) (w : Go.World), Go.Sem.run (cutP Go.Proofs.Tryd.prog) (Go.callFunc 79 args) w = Go.Result.ok (Go.Next.enter 79 args) w := by intros; kernel_rfl
@[simp] theorem Trydp.call8 : ∀ (args : Array Go.Value) (w : Go.World), Go.Sem.run (cutP Go.Proofs.Tryd.prog) (Go.callFunc 8 args) w = Go.Result.ok (Go.Next.enter 8 args) w := by intros; kernel_rfl
@[simp] theorem Trydp.call80 : ∀ (args : Array Go.Value) (w : Go.World), Go.Sem.run (cutP Go.Proofs.Tryd.prog) (Go.callFunc 80 args) w = Go.Result.ok (Go.Next.enter 80 args) w := by intros; kernel_rfl
@[simp] theorem Trydp.call81 : ∀ (args : Array Go.Value) (w : Go.World), Go.Sem.run (cutP Go.Proofs.Tryd.prog) (Go.callFunc 81 args) w = Go.Result.ok (Go.Next.enter 81 args) w := by intros; kernel_rfl
@[simp] theorem Trydp.call87 : ∀ (args : Array Go.Value) (w : Go.World), Go.Sem.run (cutP Go.Proofs.Tryd.prog) (Go.callFunc 87 args) w = Go.Result.ok (Go.Next.enter 87 args) w := by intros; kernel_rfl
@[simp] theorem Trydp.call9 : ∀ (args : Array Go.Value) (w : Go.World), Go.Sem.run (cutP Go.Proofs.Tryd.prog) (Go.callFunc 9 args) w = Go.Result.ok (Go.Next.enter 9 args) w := by intros; kernel_rfl
theorem Trydp.eqGuardType110 : (cutP Go.Proofs.Tryd.prog).eqGuardType (cutP Go.Proofs.Tryd.prog).depth 110 = Bool.false := by kernel_rfl
theorem Trydp.eqGuardType111 : (cutP Go.Proofs.Tryd.prog).eqGuardType (cutP Go.Proofs.Tryd.prog).depth 111 = Bool.false := by kernel_rfl
theorem Trydp.eqGuardType120 : (cutP Go.Proofs.Tryd.prog).eqGuardType (cutP Go.Proofs.Tryd.prog).depth 120 = Bool.false := by kernel_rfl
theorem Trydp.eqGuardType121 : (cutP Go.Proofs.Tryd.prog).eqGuardType (cutP Go.Proofs.Tryd.prog).depth 121 = Bool.false := by kernel_rfl
theorem Trydp.eqGuardType122 : (cutP Go.Proofs.Tryd.prog).eqGuardType (cutP Go.Proofs.Tryd.prog).depth 122 = Bool.false := by kernel_rfl
theorem Trydp.eqGuardType123 : (cutP Go.Proofs.Tryd.prog).eqGuardType (cutP Go.Proofs.Tryd.prog).depth 123 = Bool.false := by kernel_rfl
theorem Trydp.eqGuardType124 : (cutP Go.Proofs.Tryd.prog).eqGuardType (cutP Go.Proofs.Tryd.prog).depth 124 = Bool.false := by kernel_rfl
theorem Trydp.eqGuardType13 : (cutP Go.Proofs.Tryd.prog).eqGuardType (cutP Go.Proofs.Tryd.prog).depth 13 = Bool.false := by kernel_rfl
theorem Trydp.eqGuardType131 : (cutP Go.Proofs.Tryd.prog).eqGuardType (cutP Go.Proofs.Tryd.prog).depth 131 = Bool.false := by kernel_rfl
theorem Trydp.eqGuardType132 : (cutP Go.Proofs.Tryd.prog).eqGuardType (cutP Go.Proofs.Tryd.prog).depth 132 = Bool.false := by kernel_rfl
theorem Trydp.eqGuardType14 : (cutP Go.Proofs.Tryd.prog).eqGuardType (cutP Go.Proofs.Tryd.prog).depth 14 = Bool.false := by kernel_rfl
theorem Trydp.eqGuardType18 : (cutP Go.Proofs.Tryd.prog).eqGuardType (cutP Go.Proofs.Tryd.prog).depth 18 = Bool.false := by kernel_rfl
theorem Trydp.eqGuardType19 : (cutP Go.Proofs.Tryd.prog).eqGuardType (cutP Go.Proofs.Tryd.prog).depth 19 = Bool.false := by kernel_rfl
theorem Trydp.eqGuardType65 : (cutP Go.Proofs.Tryd.prog).eqGuardType (cutP Go.Proofs.Tryd.prog).depth 65 = Bool.false := by kernel_rfl
theorem Trydp.eqGuardType66 : (cutP Go.Proofs.Tryd.prog).eqGuardType (cutP Go.Proofs.Tryd.prog).depth 66 = Bool.false := by kernel_rfl
theorem Trydp.eqGuardType7 : (cutP Go.Proofs.Tryd.prog).eqGuardType (cutP Go.Proofs.Tryd.prog).depth 7 = Bool.false := by kernel_rfl
theorem Trydp.eqGuardType71 : (cutP Go.Proofs.Tryd.prog).eqGuardType (cutP Go.Proofs.Tryd.prog).depth 71 = Bool.false := by kernel_rfl
theorem Trydp.eqGuardType72 : (cutP Go.Proofs.Tryd.prog).eqGuardType (cutP Go.Proofs.Tryd.prog).depth 72 = Bool.false := by kernel_rfl
theorem Trydp.eqGuardType74 : (cutP Go.Proofs.Tryd.prog).eqGuardType (cutP Go.Proofs.Tryd.prog).depth 74 = Bool.false := by kernel_rfl
theorem Trydp.eqGuardType75 : (cutP Go.Proofs.Tryd.prog).eqGuardType (cutP Go.Proofs.Tryd.prog).depth 75 = Bool.false := by kernel_rfl
theorem Trydp.eqGuardType76 : (cutP Go.Proofs.Tryd.prog).eqGuardType (cutP Go.Proofs.Tryd.prog).depth 76 = Bool.false := by kernel_rfl
theorem Trydp.eqGuardType77 : (cutP Go.Proofs.Tryd.prog).eqGuardType (cutP Go.Proofs.Tryd.prog).depth 77 = Bool.false := by kernel_rfl
theorem Trydp.eqGuardType79 : (cutP Go.Proofs.Tryd.prog).eqGuardType (cutP Go.Proofs.Tryd.prog).depth 79 = Bool.false := by kernel_rfl
theorem Trydp.eqGuardType8 : (cutP Go.Proofs.Tryd.prog).eqGuardType (cutP Go.Proofs.Tryd.prog).depth 8 = Bool.false := by kernel_rfl
theorem Trydp.eqGuardType80 : (cutP Go.Proofs.Tryd.prog).eqGuardType (cutP Go.Proofs.Tryd.prog).depth 80 = Bool.false := by kernel_rfl
theorem Trydp.eqGuardType82 : (cutP Go.Proofs.Tryd.prog).eqGuardType (cutP Go.Proofs.Tryd.prog).depth 82 = Bool.false := by kernel_rfl
theorem Trydp.eqGuardType83 : (cutP Go.Proofs.Tryd.prog).eqGuardType (cutP Go.Proofs.Tryd.prog).depth 83 = Bool.false := by kernel_rfl
@[simp] theorem Trydp.func10 : (cutP Go.Proofs.Tryd.prog).funcs[10]? = Option.some Go.Proofs.Tryd.f10 := by kernel_rfl
@[simp] theorem Trydp.func11 : (cutP Go.Proofs.Tryd.prog).funcs[11]? = Option.some Go.Proofs.Tryd.f11 := by kernel_rfl
@[simp] theorem Trydp.func12 : (cutP Go.Proofs.Tryd.prog).funcs[12]? = Option.some Go.Proofs.Tryd.f12 := by kernel_rfl
@[simp] theorem Trydp.func13 : (cutP Go.Proofs.Tryd.prog).funcs[13]? = Option.some Go.Proofs.Tryd.f13 := by kernel_rfl
@[simp] theorem Trydp.func14 : (cutP Go.Proofs.Tryd.prog).funcs[14]? = Option.some Go.Proofs.Tryd.f14 := by kernel_rfl
@[simp] theorem Trydp.func15 : (cutP Go.Proofs.Tryd.prog).funcs[15]? = Option.some Go.Proofs.Tryd.f15 := by kernel_rfl
@[simp] theorem Trydp.func16 : (cutP Go.Proofs.Tryd.prog).funcs[16]? = Option.some Go.Proofs.Tryd.f16 := by kernel_rfl
@[simp] theorem Trydp.func17 : (cutP Go.Proofs.Tryd.prog).funcs[17]? = Option.some Go.Proofs.Tryd.f17 := by kernel_rfl
@[simp] theorem Trydp.func18 : (cutP Go.Proofs.Tryd.prog).funcs[18]? = Option.some Go.Proofs.Tryd.f18 := by kernel_rfl
@[simp] theorem Trydp.func19 : (cutP Go.Proofs.Tryd.prog).funcs[19]? = Option.some Go.Proofs.Tryd.f19 := by kernel_rfl
@[simp] theorem Trydp.func20 : (cutP Go.Proofs.Tryd.prog).funcs[20]? = Option.some Go.Proofs.Tryd.f20 := by kernel_rfl
@[simp] theorem Trydp.func21 : (cutP Go.Proofs.Tryd.prog).funcs[21]? = Option.some Go.Proofs.Tryd.f21 := by kernel_rfl
@[simp] theorem Trydp.func23 : (cutP Go.Proofs.Tryd.prog).funcs[23]? = Option.some Go.Proofs.Tryd.f23 := by kernel_rfl
@[simp] theorem Trydp.func24 : (cutP Go.Proofs.Tryd.prog).funcs[24]? = Option.some Go.Proofs.Tryd.f24 := by kernel_rfl
@[simp] theorem Trydp.func25 : (cutP Go.Proofs.Tryd.prog).funcs[25]? = Option.some Go.Proofs.Tryd.f25 := by kernel_rfl
@[simp] theorem Trydp.func26 : (cutP Go.Proofs.Tryd.prog).funcs[26]? = Option.some Go.Proofs.Tryd.f26 := by kernel_rfl
@[simp] theorem Trydp.func27 : (cutP Go.Proofs.Tryd.prog).funcs[27]? = Option.some Go.Proofs.Tryd.f27 := by kernel_rfl
@[simp] theorem Trydp.func28 : (cutP Go.Proofs.Tryd.prog).funcs[28]? = Option.some Go.Proofs.Tryd.f28 := by kernel_rfl
@[simp] theorem Trydp.func29 : (cutP Go.Proofs.Tryd.prog).funcs[29]? = Option.some Go.Proofs.Tryd.f29 := by kernel_rfl
@[simp] theorem Trydp.func3 : (cutP Go.Proofs.Tryd.prog).funcs[3]? = Option.some Go.Proofs.Tryd.f3 := by kernel_rfl
@[simp] theorem Trydp.func30 : (cutP Go.Proofs.Tryd.prog).funcs[30]? = Option.some Go.Proofs.Tryd.f30 := by kernel_rfl
@[simp] theorem Trydp.func32 : (cutP Go.Proofs.Tryd.prog).funcs[32]? = Option.some Go.Proofs.Tryd.f32 := by kernel_rfl
@[simp] theorem Trydp.func33 : (cutP Go.Proofs.Tryd.prog).funcs[33]? = Option.some Go.Proofs.Tryd.f33 := by kernel_rfl
@[simp] theorem Trydp.func34 : (cutP Go.Proofs.Tryd.prog).funcs[34]? = Option.some Go.Proofs.Tryd.f34 := by kernel_rfl
@[simp] theorem Trydp.func35 : (cutP Go.Proofs.Tryd.prog).funcs[35]? = Option.some Go.Proofs.Tryd.f35 := by kernel_rfl
@[simp] theorem Trydp.func36 : (cutP Go.Proofs.Tryd.prog).funcs[36]? = Option.some Go.Proofs.Tryd.f36 := by kernel_rfl
@[simp] theorem Trydp.func37 : (cutP Go.Proofs.Tryd.prog).funcs[37]? = Option.some Go.Proofs.Tryd.f37 := by kernel_rfl
@[simp] theorem Trydp.func38 : (cutP Go.Proofs.Tryd.prog).funcs[38]? = Option.some Go.Proofs.Tryd.f38 := by kernel_rfl
@[simp] theorem Trydp.func39 : (cutP Go.Proofs.Tryd.prog).funcs[39]? = Option.some Go.Proofs.Tryd.f39 := by kernel_rfl
@[simp] theorem Trydp.func4 : (cutP Go.Proofs.Tryd.prog).funcs[4]? = Option.some Go.Proofs.Tryd.f4 := by kernel_rfl
@[simp] theorem Trydp.func40 : (cutP Go.Proofs.Tryd.prog).funcs[40]? = Option.some Go.Proofs.Tryd.f40 := by kernel_rfl
@[simp] theorem Trydp.func41 : (cutP Go.Proofs.Tryd.prog).funcs[41]? = Option.some Go.Proofs.Tryd.f41 := by kernel_rfl
@[simp] theorem Trydp.func42 : (cutP Go.Proofs.Tryd.prog).funcs[42]? = Option.some Go.Proofs.Tryd.f42 := by kernel_rfl
@[simp] theorem Trydp.func43 : (cutP Go.Proofs.Tryd.prog).funcs[43]? = Option.some Go.Proofs.Tryd.f43 := by kernel_rfl
@[simp] theorem Trydp.func44 : (cutP Go.Proofs.Tryd.prog).funcs[44]? = Option.some Go.Proofs.Tryd.f44 := by kernel_rfl
@[simp] theorem Trydp.func45 : (cutP Go.Proofs.Tryd.prog).funcs[45]? = Option.some Go.Proofs.Tryd.f45 := by kernel_rfl
@[simp] theorem Trydp.func46 : (cutP Go.Proofs.Tryd.prog).funcs[46]? = Option.some Go.Proofs.Tryd.f46 := by kernel_rfl
@[simp] theorem Trydp.func5 : (cutP Go.Proofs.Tryd.prog).funcs[5]? = Option.some Go.Proofs.Tryd.f5 := by kernel_rfl
@[simp] theorem Trydp.func51 : (cutP Go.Proofs.Tryd.prog).funcs[51]? = Option.some Go.Proofs.Tryd.f51 := by kernel_rfl
@[simp] theorem Trydp.func52 : (cutP Go.Proofs.Tryd.prog).funcs[52]? = Option.some Go.Proofs.Tryd.f52 := by kernel_rfl
@[simp] theorem Trydp.func53 : (cutP Go.Proofs.Tryd.prog).funcs[53]? = Option.some Go.Proofs.Tryd.f53 := by kernel_rfl
@[simp] theorem Trydp.func54 : (cutP Go.Proofs.Tryd.prog).funcs[54]? = Option.some Go.Proofs.Tryd.f54 := by kernel_rfl
@[simp] theorem Trydp.func55 : (cutP Go.Proofs.Tryd.prog).funcs[55]? = Option.some Go.Proofs.Tryd.f55 := by kernel_rfl
@[simp] theorem Trydp.func56 : (cutP Go.Proofs.Tryd.prog).funcs[56]? = Option.some Go.Proofs.Tryd.f56 := by kernel_rfl
@[simp] theorem Trydp.func57 : (cutP Go.Proofs.Tryd.prog).funcs[57]? = Option.some Go.Proofs.Tryd.f57 := by kernel_rfl
@[simp] theorem Trydp.func58 : (cutP Go.Proofs.Tryd.prog).funcs[58]? = Option.some Go.Proofs.Tryd.f58 := by kernel_rfl
@[simp] theorem Trydp.func59 : (cutP Go.Proofs.Tryd.prog).funcs[59]? = Option.some Go.Proofs.Tryd.f59 := by kernel_rfl
@[simp] theorem Trydp.func6 : (cutP Go.Proofs.Tryd.prog).funcs[6]? = Option.some Go.Proofs.Tryd.f6 := by kernel_rfl
@[simp] theorem Trydp.func7 : (cutP Go.Proofs.Tryd.prog).funcs[7]? = Option.some Go.Proofs.Tryd.f7 := by kernel_rfl
@[simp] theorem Trydp.func78 : (cutP Go.Proofs.Tryd.prog).funcs[78]? = Option.some Go.Proofs.Tryd.f78 := by kernel_rfl
@[simp] theorem Trydp.func79 : (cutP Go.Proofs.Tryd.prog).funcs[79]? = Option.some Go.Proofs.Tryd.f79 := by kernel_rfl
@[simp] theorem Trydp.func8 : (cutP Go.Proofs.Tryd.prog).funcs[8]? = Option.some Go.Proofs.Tryd.f8 := by kernel_rfl
@[simp] theorem Trydp.func80 : (cutP Go.Proofs.Tryd.prog).funcs[80]? = Option.some Go.Proofs.Tryd.f80 := by kernel_rfl
@[simp] theorem Trydp.func81 : (cutP Go.Proofs.Tryd.prog).funcs[81]? = Option.some Go.Proofs.Tryd.f81 := by kernel_rfl
@[simp] theorem Trydp.func87 : (cutP Go.Proofs.Tryd.prog).funcs[87]? = Option.some Go.Proofs.Tryd.f87 := by kernel_rfl
@[simp] theorem Trydp.func9 : (cutP Go.Proofs.Tryd.prog).funcs[9]? = Option.some Go.Proofs.Tryd.f9 := by kernel_rfl
@[simp] theorem Trydp.globals_size : (cutP Go.Proofs.Tryd.prog).globals.size = 2 := by kernel_rfl
theorem Trydp.inits_eq : (cutP Go.Proofs.Tryd.prog).inits = #[2] := by kernel_rfl
@[simp] theorem Trydp.isAgg0 : ∀ (w : Go.World), Go.Sem.run (cutP Go.Proofs.Tryd.prog) (Go.isAgg 0) w = Go.Result.ok Bool.false w := by intros; kernel_rfl
@[simp] theorem Trydp.isAgg1 : ∀ (w : Go.World), Go.Sem.run (cutP Go.Proofs.Tryd.prog) (Go.isAgg 1) w = Go.Result.ok Bool.false w := by intros; kernel_rfl
@[simp] theorem Trydp.isAgg10 : ∀ (w : Go.World), Go.Sem.run (cutP Go.Proofs.Tryd.prog) (Go.isAgg 10) w = Go.Result.ok Bool.false w := by intros; kernel_rfl
@[simp] theorem Trydp.isAgg100 : ∀ (w : Go.World), Go.Sem.run (cutP Go.Proofs.Tryd.prog) (Go.isAgg 100) w = Go.Result.ok Bool.false w := by intros; kernel_rfl
@[simp] theorem Trydp.isAgg101 : ∀ (w : Go.World), Go.Sem.run (cutP Go.Proofs.Tryd.prog) (Go.isAgg 101) w = Go.Result.ok Bool.false w := by intros; kernel_rfl
@[simp] theorem Trydp.isAgg102 : ∀ (w : Go.World), Go.Sem.run (cutP Go.Proofs.Tryd.prog) (Go.isAgg 102) w = Go.Result.ok Bool.false w := by intros; kernel_rfl
@[simp] theorem Trydp.isAgg103 : ∀ (w : Go.World), Go.Sem.run (cutP Go.Proofs.Tryd.prog) (Go.isAgg 103) w = Go.Result.ok Bool.false w := by intros; kernel_rfl
@[simp] theorem Trydp.isAgg104 : ∀ (w : Go.World), Go.Sem.run (cutP Go.Proofs.Tryd.prog) (Go.isAgg 104) w = Go.Result.ok Bool.false w := by intros; kernel_rfl
@[simp] theorem Trydp.isAgg105 : ∀ (w : Go.World), Go.Sem.run (cutP Go.Proofs.Tryd.prog) (Go.isAgg 105) w = Go.Result.ok Bool.false w := by intros; kernel_rfl
@[simp] theorem Trydp.isAgg106 : ∀ (w : Go.World), Go.Sem.run (cutP Go.Proofs.Tryd.prog) (Go.isAgg 106) w = Go.Result.ok Bool.false w := by intros; kernel_rfl
@[simp] theorem Trydp.isAgg107 : ∀ (w : Go.World), Go.Sem.run (cutP Go.Proofs.Tryd.prog) (Go.isAgg 107) w = Go.Result.ok Bool.false w := by intros; kernel_rfl
@[simp] theorem Trydp.isAgg108 : ∀ (w : Go.World), Go.Sem.run (cutP Go.Proofs.Tryd.prog) (Go.isAgg 108) w = Go.Result.ok Bool.false w := by intros; kernel_rfl
@[simp] theorem Trydp.isAgg109 : ∀ (w : Go.World), Go.Sem.run (cutP Go.Proofs.Tryd.prog) (Go.isAgg 109) w = Go.Result.ok Bool.false w := by intros; kernel_rfl
@[simp] theorem Trydp.isAgg11 : ∀ (w : Go.World), Go.Sem.run (cutP Go.Proofs.Tryd.prog) (Go.isAgg 11) w = Go.Result.ok Bool.false w := by intros; kernel_rfl
@[simp] theorem Trydp.isAgg110 : ∀ (w : Go.World), Go.Sem.run (cutP Go.Proofs.Tryd.prog) (Go.isAgg 110) w = Go.Result.ok Bool.true w := by intros; kernel_rfl
@[simp] theorem Trydp.isAgg111 : ∀ (w : Go.World), Go.Sem.run (cutP Go.Proofs.Tryd.prog) (Go.isAgg 111) w = Go.Result.ok Bool.true w := by intros; kernel_rfl
@[simp] theorem Trydp.isAgg112 : ∀ (w : Go.World), Go.Sem.run (cutP Go.Proofs.Tryd.prog) (Go.isAgg 112) w = Go.Result.ok Bool.false w := by intros; kernel_rfl
@[simp] theorem Trydp.isAgg113 : ∀ (w : Go.World), Go.Sem.run (cutP Go.Proofs.Tryd.prog) (Go.isAgg 113) w = Go.Result.ok Bool.false w := by intros; kernel_rfl
@[simp] theorem Trydp.isAgg114 : ∀ (w : Go.World), Go.Sem.run (cutP Go.Proofs.Tryd.prog) (Go.isAgg 114) w = Go.Result.ok Bool.false w := by intros; kernel_rfl
@[simp] theorem Trydp.isAgg115 : ∀ (w : Go.World), Go.Sem.run (cutP Go.Proofs.Tryd.prog) (Go.isAgg 115) w = Go.Result.ok Bool.false w := by intros; kernel_rfl
@[simp] theorem Trydp.isAgg116 : ∀ (w : Go.World), Go.Sem.run (cutP Go.Proofs.Tryd.prog) (Go.isAgg 116) w = Go.Result.ok Bool.false w := by intros; kernel_rfl
@[simp] theorem Trydp.isAgg117 : ∀ (w : Go.World), Go.Sem.run (cutP Go.Proofs.Tryd.prog) (Go.isAgg 117) w = Go.Result.ok Bool.false w := by intros; kernel_rfl
@[simp] theorem Trydp.isAgg118 : ∀ (w : Go.World), Go.Sem.run (cutP Go.Proofs.Tryd.prog) (Go.isAgg 118) w = Go.Result.ok Bool.false w := by intros; kernel_rfl
@[simp] theorem Trydp.isAgg119 : ∀ (w : Go.World), Go.Sem.run (cutP Go.Proofs.Tryd.prog) (Go.isAgg 119) w = Go.Result.ok Bool.false w := by intros; kernel_rfl
@[simp] theorem Trydp.isAgg12 : ∀ (w : Go.World), Go.Sem.run (cutP Go.Proofs.Tryd.prog) (Go.isAgg 12) w = Go.Result.ok Bool.false w := by intros; kernel_rfl
@[simp] theorem Trydp.isAgg120 : ∀ (w : Go.World), Go.Sem.run (cutP Go.Proofs.Tryd.prog) (Go.isAgg 120) w = Go.Result.ok Bool.true w := by intros; kernel_rfl
@[simp] theorem Trydp.isAgg121 : ∀ (w : Go.World), Go.Sem.run (cutP Go.Proofs.Tryd.prog) (Go.isAgg 121) w = Go.Result.ok Bool.true w := by intros; kernel_rfl
@[simp] theorem Trydp.isAgg122 : ∀ (w : Go.World), Go.Sem.run (cutP Go.Proofs.Tryd.prog) (Go.isAgg 122) w = Go.Result.ok Bool.true w := by intros; kernel_rfl
@[simp] theorem Trydp.isAgg123 : ∀ (w : Go.World), Go.Sem.run (cutP Go.Proofs.Tryd.prog) (Go.isAgg 123) w = Go.Result.ok Bool.true w := by intros; kernel_rfl
@[simp] theorem Trydp.isAgg124 : ∀ (w : Go.World), Go.Sem.run (cutP Go.Proofs.Tryd.prog) (Go.isAgg 124) w = Go.Result.ok Bool.true w := by intros; kernel_rfl
@[simp] theorem Trydp.isAgg125 : ∀ (w : Go.World), Go.Sem.run (cutP Go.Proofs.Tryd.prog) (Go.isAgg 125) w = Go.Result.ok Bool.false w := by intros; kernel_rfl
@[simp] theorem Trydp.isAgg126 : ∀ (w : Go.World), Go.Sem.run (cutP Go.Proofs.Tryd.prog) (Go.isAgg 126) w = Go.Result.ok Bool.false w := by intros; kernel_rfl
@[simp] theorem Trydp.isAgg127 : ∀ (w : Go.World), Go.Sem.run (cutP Go.Proofs.Tryd.prog) (Go.isAgg 127) w = Go.Result.ok Bool.false w := by intros; kernel_rfl
@[simp] theorem Trydp.isAgg128 : ∀ (w : Go.World), Go.Sem.run (cutP Go.Proofs.Tryd.prog) (Go.isAgg 128) w = Go.Result.ok Bool.false w := by intros; kernel_rfl
@[simp] theorem Trydp.isAgg129 : ∀ (w : Go.World), Go.Sem.run (cutP Go.Proofs.Tryd.prog) (Go.isAgg 129) w = Go.Result.ok Bool.false w := by intros; kernel_rfl
@[simp] theorem Trydp.isAgg13 : ∀ (w : Go.World), Go.Sem.run (cutP Go.Proofs.Tryd.prog) (Go.isAgg 13) w = Go.Result.ok Bool.true w := by intros; kernel_rfl
@[simp] theorem Trydp.isAgg130 : ∀ (w : Go.World), Go.Sem.run (cutP Go.Proofs.Tryd.prog) (Go.isAgg 130) w = Go.Result.ok Bool.false w := by intros; kernel_rfl
@[simp] theorem Trydp.isAgg131 : ∀ (w : Go.World), Go.Sem.run (cutP Go.Proofs.Tryd.prog) (Go.isAgg 131) w = Go.Result.ok Bool.true w := by intros; kernel_rfl
@[simp] theorem Trydp.isAgg132 : ∀ (w : Go.World), Go.Sem.run (cutP Go.Proofs.Tryd.prog) (Go.isAgg 132) w = Go.Result.ok Bool.true w := by intros; kernel_rfl
@[simp] theorem Trydp.isAgg14 : ∀ (w : Go.World), Go.Sem.run (cutP Go.Proofs.Tryd.prog) (Go.isAgg 14) w = Go.Result.ok Bool.true w := by intros; kernel_rfl
@[simp] theorem Trydp.isAgg15 : ∀ (w : Go.World), Go.Sem.run (cutP Go.Proofs.Tryd.prog) (Go.isAgg 15) w = Go.Result.ok Bool.false w := by intros; kernel_rfl
@[simp] theorem Trydp.isAgg16 : ∀ (w : Go.World), Go.Sem.run (cutP Go.Proofs.Tryd.prog) (Go.isAgg 16) w = Go.Result.ok Bool.false w := by intros; kernel_rfl
@[simp] theorem Trydp.isAgg17 : ∀ (w : Go.World), Go.Sem.run (cutP Go.Proofs.Tryd.prog) (Go.isAgg 17) w = Go.Result.ok Bool.false w := by intros; kernel_rfl
@[simp] theorem Trydp.isAgg18 : ∀ (w : Go.World), Go.Sem.run (cutP Go.Proofs.Tryd.prog) (Go.isAgg 18) w = Go.Result.ok Bool.true w := by intros; kernel_rfl
@[simp] theorem Trydp.isAgg19 : ∀ (w : Go.World), Go.Sem.run (cutP Go.Proofs.Tryd.prog) (Go.isAgg 19) w = Go.Result.ok Bool.true w := by intros; kernel_rfl
@[simp] theorem Trydp.isAgg2 : ∀ (w : Go.World), Go.Sem.run (cutP Go.Proofs.Tryd.prog) (Go.isAgg 2) w = Go.Result.ok Bool.false w := by intros; kernel_rfl
@[simp] theorem Trydp.isAgg20 : ∀ (w : Go.World), Go.Sem.run (cutP Go.Proofs.Tryd.prog) (Go.isAgg 20) w = Go.Result.ok Bool.false w := by intros; kernel_rfl
@[simp] theorem Trydp.isAgg21 : ∀ (w : Go.World), Go.Sem.run (cutP Go.Proofs.Tryd.prog) (Go.isAgg 21) w = Go.Result.ok Bool.false w := by intros; kernel_rfl
@[simp] theorem Trydp.isAgg22 : ∀ (w : Go.World), Go.Sem.run (cutP Go.Proofs.Tryd.prog) (Go.isAgg 22) w = Go.Result.ok Bool.false w := by intros; kernel_rfl
@[simp] theorem Trydp.isAgg23 : ∀ (w : Go.World), Go.Sem.run (cutP Go.Proofs.Tryd.prog) (Go.isAgg 23) w = Go.Result.ok Bool.false w := by intros; kernel_rfl
@[simp] theorem Trydp.isAgg24 : ∀ (w : Go.World), Go.Sem.run (cutP Go.Proofs.Tryd.prog) (Go.isAgg 24) w = Go.Result.ok Bool.false w := by intros; kernel_rfl
@[simp] theorem Trydp.isAgg25 : ∀ (w : Go.World), Go.Sem.run (cutP Go.Proofs.Tryd.prog) (Go.isAgg 25) w = Go.Result.ok Bool.false w := by intros; kernel_rfl
@[simp] theorem Trydp.isAgg26 : ∀ (w : Go.World), Go.Sem.run (cutP Go.Proofs.Tryd.prog) (Go.isAgg 26) w = Go.Result.ok Bool.false w := by intros; kernel_rfl
@[simp] theorem Trydp.isAgg27 : ∀ (w : Go.World), Go.Sem.run (cutP Go.Proofs.Tryd.prog) (Go.isAgg 27) w = Go.Result.ok Bool.false w := by intros; kernel_rfl
@[simp] theorem Trydp.isAgg28 : ∀ (w : Go.World), Go.Sem.run (cutP Go.Proofs.Tryd.prog) (Go.isAgg 28) w = Go.Result.ok Bool.false w := by intros; kernel_rfl
@[simp] theorem Trydp.isAgg29 : ∀ (w : Go.World), Go.Sem.run (cutP Go.Proofs.Tryd.prog) (Go.isAgg 29) w = Go.Result.ok Bool.false w := by intros; kernel_rfl
@[simp] theorem Trydp.isAgg3 : ∀ (w : Go.World), Go.Sem.run (cutP Go.Proofs.Tryd.prog) (Go.isAgg 3) w = Go.Result.ok Bool.false w := by intros; kernel_rfl
@[simp] theorem Trydp.isAgg30 : ∀ (w : Go.World), Go.Sem.run (cutP Go.Proofs.Tryd.prog) (Go.isAgg 30) w = Go.Result.ok Bool.false w := by intros; kernel_rfl
@[simp] theorem Trydp.isAgg31 : ∀ (w : Go.World), Go.Sem.run (cutP Go.Proofs.Tryd.prog) (Go.isAgg 31) w = Go.Result.ok Bool.false w := by intros; kernel_rfl
@[simp] theorem Trydp.isAgg32 : ∀ (w : Go.World), Go.Sem.run (cutP Go.Proofs.Tryd.prog) (Go.isAgg 32) w = Go.Result.ok Bool.false w := by intros; kernel_rfl
@[simp] theorem Trydp.isAgg33 : ∀ (w : Go.World), Go.Sem.run (cutP Go.Proofs.Tryd.prog) (Go.isAgg 33) w = Go.Result.ok Bool.false w := by intros; kernel_rfl
@[simp] theorem Trydp.isAgg34 : ∀ (w : Go.World), Go.Sem.run (cutP Go.Proofs.Tryd.prog) (Go.isAgg 34) w = Go.Result.ok Bool.false w := by intros; kernel_rfl
@[simp] theorem Trydp.isAgg35 : ∀ (w : Go.World), Go.Sem.run (cutP Go.Proofs.Tryd.prog) (Go.isAgg 35) w = Go.Result.ok Bool.false w := by intros; kernel_rfl
@[simp] theorem Trydp.isAgg36 : ∀ (w : Go.World), Go.Sem.run (cutP Go.Proofs.Tryd.prog) (Go.isAgg 36) w = Go.Result.ok Bool.false w := by intros; kernel_rfl
@[simp] theorem Trydp.isAgg37 : ∀ (w : Go.World), Go.Sem.run (cutP Go.Proofs.Tryd.prog) (Go.isAgg 37) w = Go.Result.ok Bool.false w := by intros; kernel_rfl
@[simp] theorem Trydp.isAgg38 : ∀ (w : Go.World), Go.Sem.run (cutP Go.Proofs.Tryd.prog) (Go.isAgg 38) w = Go.Result.ok Bool.false w := by intros; kernel_rfl
@[simp] theorem Trydp.isAgg39 : ∀ (w : Go.World), Go.Sem.run (cutP Go.Proofs.Tryd.prog) (Go.isAgg 39) w = Go.Result.ok Bool.false w := by intros; kernel_rfl
@[simp] theorem Trydp.isAgg4 : ∀ (w : Go.World), Go.Sem.run (cutP Go.Proofs.Tryd.prog) (Go.isAgg 4) w = Go.Result.ok Bool.false w := by intros; kernel_rfl
@[simp] theorem Trydp.isAgg40 : ∀ (w : Go.World), Go.Sem.run (cutP Go.Proofs.Tryd.prog) (Go.isAgg 40) w = Go.Result.ok Bool.false w := by intros; kernel_rfl
@[simp] theorem Trydp.isAgg41 : ∀ (w : Go.World), Go.Sem.run (cutP Go.Proofs.Tryd.prog) (Go.isAgg 41) w = Go.Result.ok Bool.false w := by intros; kernel_rfl
@[simp] theorem Trydp.isAgg42 : ∀ (w : Go.World), Go.Sem.run (cutP Go.Proofs.Tryd.prog) (Go.isAgg 42) w = Go.Result.ok Bool.false w := by intros; kernel_rfl
@[simp] theorem Trydp.isAgg43 : ∀ (w : Go.World), Go.Sem.run (cutP Go.Proofs.Tryd.prog) (Go.isAgg 43) w = Go.Result.ok Bool.false w := by intros; kernel_rfl
@[simp] theorem Trydp.isAgg44 : ∀ (w : Go.World), Go.Sem.run (cutP Go.Proofs.Tryd.prog) (Go.isAgg 44) w = Go.Result.ok Bool.false w := by intros; kernel_rfl
@[simp] theorem Trydp.isAgg45 : ∀ (w : Go.World), Go.Sem.run (cutP Go.Proofs.Tryd.prog) (Go.isAgg 45) w = Go.Result.ok Bool.false w := by intros; kernel_rfl
@[simp] theorem Trydp.isAgg46 : ∀ (w : Go.World), Go.Sem.run (cutP Go.Proofs.Tryd.prog) (Go.isAgg 46) w = Go.Result.ok Bool.false w := by intros; kernel_rfl
@[simp] theorem Trydp.isAgg47 : ∀ (w : Go.World), Go.Sem.run (cutP Go.Proofs.Tryd.prog) (Go.isAgg 47) w = Go.Result.ok Bool.false w := by intros; kernel_rfl
@[simp] theorem Trydp.isAgg48 : ∀ (w : Go.World), Go.Sem.run (cutP Go.Proofs.Tryd.prog) (Go.isAgg 48) w = Go.Result.ok Bool.false w := by intros; kernel_rfl
@[simp] theorem Trydp.isAgg49 : ∀ (w : Go.World), Go.Sem.run (cutP Go.Proofs.Tryd.prog) (Go.isAgg 49) w = Go.Result.ok Bool.false w := by intros; kernel_rfl
@[simp] theorem Trydp.isAgg5 : ∀ (w : Go.World), Go.Sem.run (cutP Go.Proofs.Tryd.prog) (Go.isAgg 5) w = Go.Result.ok Bool.false w := by intros; kernel_rfl
@[simp] theorem Trydp.isAgg50 : ∀ (w : Go.World), Go.Sem.run (cutP Go.Proofs.Tryd.prog) (Go.isAgg 50) w = Go.Result.ok Bool.false w := by intros; kernel_rfl
@[simp] theorem Trydp.isAgg51 : ∀ (w : Go.World), Go.Sem.run (cutP Go.Proofs.Tryd.prog) (Go.isAgg 51) w = Go.Result.ok Bool.false w := by intros; kernel_rfl
@[simp] theorem Trydp.isAgg52 : ∀ (w : Go.World), Go.Sem.run (cutP Go.Proofs.Tryd.prog) (Go.isAgg 52) w = Go.Result.ok Bool.false w := by intros; kernel_rfl
@[simp] theorem Trydp.isAgg53 : ∀ (w : Go.World), Go.Sem.run (cutP Go.Proofs.Tryd.prog) (Go.isAgg 53) w = Go.Result.ok Bool.false w := by intros; kernel_rfl
@[simp] theorem Trydp.isAgg54 : ∀ (w : Go.World), Go.Sem.run (cutP Go.Proofs.Tryd.prog) (Go.isAgg 54) w = Go.Result.ok Bool.false w := by intros; kernel_rfl
@[simp] theorem Trydp.isAgg55 : ∀ (w : Go.World), Go.Sem.run (cutP Go.Proofs.Tryd.prog) (Go.isAgg 55) w = Go.Result.ok Bool.false w := by intros; kernel_rfl
@[simp] theorem Trydp.isAgg56 : ∀ (w : Go.World), Go.Sem.run (cutP Go.Proofs.Tryd.prog) (Go.isAgg 56) w = Go.Result.ok Bool.false w := by intros; kernel_rfl
@[simp] theorem Trydp.isAgg57 : ∀ (w : Go.World), Go.Sem.run (cutP Go.Proofs.Tryd.prog) (Go.isAgg 57) w = Go.Result.ok Bool.false w := by intros; kernel_rfl
@[simp] theorem Trydp.isAgg58 : ∀ (w : Go.World), Go.Sem.run (cutP Go.Proofs.Tryd.prog) (Go.isAgg 58) w = Go.Result.ok Bool.false w := by intros; kernel_rfl
@[simp] theorem Trydp.isAgg59 : ∀ (w : Go.World), Go.Sem.run (cutP Go.Proofs.Tryd.prog) (Go.isAgg 59) w = Go.Result.ok Bool.false w := by intros; kernel_rfl
@[simp] theorem Trydp.isAgg6 : ∀ (w : Go.World), Go.Sem.run (cutP Go.Proofs.Tryd.prog) (Go.isAgg 6) w = Go.Result.ok Bool.false w := by intros; kernel_rfl
@[simp] theorem Trydp.isAgg60 : ∀ (w : Go.World), Go.Sem.run (cutP Go.Proofs.Tryd.prog) (Go.isAgg 60) w = Go.Result.ok Bool.false w := by intros; kernel_rfl
@[simp] theorem Trydp.isAgg61 : ∀ (w : Go.World), Go.Sem.run (cutP Go.Proofs.Tryd.prog) (Go.isAgg 61) w = Go.Result.ok Bool.false w := by intros; kernel_rfl
@[simp] theorem Trydp.isAgg62 : ∀ (w : Go.World), Go.Sem.run (cutP Go.Proofs.Tryd.prog) (Go.isAgg 62) w = Go.Result.ok Bool.false w := by intros; kernel_rfl
@[simp] theorem Trydp.isAgg63 : ∀ (w : Go.World), Go.Sem.run (cutP Go.Proofs.Tryd.prog) (Go.isAgg 63) w = Go.Result.ok Bool.false w := by intros; kernel_rfl
@[simp] theorem Trydp.isAgg64 : ∀ (w : Go.World), Go.Sem.run (cutP Go.Proofs.Tryd.prog) (Go.isAgg 64) w = Go.Result.ok Bool.false w := by intros; kernel_rfl
@[simp] theorem Trydp.isAgg65 : ∀ (w : Go.World), Go.Sem.run (cutP Go.Proofs.Tryd.prog) (Go.isAgg 65) w = Go.Result.ok Bool.true w := by intros; kernel_rfl
@[simp] theorem Trydp.isAgg66 : ∀ (w : Go.World), Go.Sem.run (cutP Go.Proofs.Tryd.prog) (Go.isAgg 66) w = Go.Result.ok Bool.true w := by intros; kernel_rfl
@[simp] theorem Trydp.isAgg67 : ∀ (w : Go.World), Go.Sem.run (cutP Go.Proofs.Tryd.prog) (Go.isAgg 67) w = Go.Result.ok Bool.false w := by intros; kernel_rfl
@[simp] theorem Trydp.isAgg68 : ∀ (w : Go.World), Go.Sem.run (cutP Go.Proofs.Tryd.prog) (Go.isAgg 68) w = Go.Result.ok Bool.false w := by intros; kernel_rfl
@[simp] theorem Trydp.isAgg69 : ∀ (w : Go.World), Go.Sem.run (cutP Go.Proofs.Tryd.prog) (Go.isAgg 69) w = Go.Result.ok Bool.false w := by intros; kernel_rfl
@[simp] theorem Trydp.isAgg7 : ∀ (w : Go.World), Go.Sem.run (cutP Go.Proofs.Tryd.prog) (Go.isAgg 7) w = Go.Result.ok Bool.true w := by intros; kernel_rfl
@[simp] theorem Trydp.isAgg70 : ∀ (w : Go.World), Go.Sem.run (cutP Go.Proofs.Tryd.prog) (Go.isAgg 70) w = Go.Result.ok Bool.false w := by intros; kernel_rfl
@[simp] theorem Trydp.isAgg71 : ∀ (w : Go.World), Go.Sem.run (cutP Go.Proofs.Tryd.prog) (Go.isAgg 71) w = Go.Result.ok Bool.true w := by intros; kernel_rfl
@[simp] theorem Trydp.isAgg72 : ∀ (w : Go.World), Go.Sem.run (cutP Go.Proofs.Tryd.prog) (Go.isAgg 72) w = Go.Result.ok Bool.true w := by intros; kernel_rfl
@[simp] theorem Trydp.isAgg73 : ∀ (w : Go.World), Go.Sem.run (cutP Go.Proofs.Tryd.prog) (Go.isAgg 73) w = Go.Result.ok Bool.false w := by intros; kernel_rfl
@[simp] theorem Trydp.isAgg74 : ∀ (w : Go.World), Go.Sem.run (cutP Go.Proofs.Tryd.prog) (Go.isAgg 74) w = Go.Result.ok Bool.true w := by intros; kernel_rfl
@[simp] theorem Trydp.isAgg75 : ∀ (w : Go.World), Go.Sem.run (cutP Go.Proofs.Tryd.prog) (Go.isAgg 75) w = Go.Result.ok Bool.true w := by intros; kernel_rfl
@[simp] theorem Trydp.isAgg76 : ∀ (w : Go.World), Go.Sem.run (cutP Go.Proofs.Tryd.prog) (Go.isAgg 76) w = Go.Result.ok Bool.true w := by intros; kernel_rfl
@[simp] theorem Trydp.isAgg77 : ∀ (w : Go.World), Go.Sem.run (cutP Go.Proofs.Tryd.prog) (Go.isAgg 77) w = Go.Result.ok Bool.true w := by intros; kernel_rfl
@[simp] theorem Trydp.isAgg78 : ∀ (w : Go.World), Go.Sem.run (cutP Go.Proofs.Tryd.prog) (Go.isAgg 78) w = Go.Result.ok Bool.false w := by intros; kernel_rfl
@[simp] theorem Trydp.isAgg79 : ∀ (w : Go.World), Go.Sem.run (cutP Go.Proofs.Tryd.prog) (Go.isAgg 79) w = Go.Result.ok Bool.true w := by intros; kernel_rfl
@[simp] theorem Trydp.isAgg8 : ∀ (w : Go.World), Go.Sem.run (cutP Go.Proofs.Tryd.prog) (Go.isAgg 8) w = Go.Result.ok Bool.true w := by intros; kernel_rfl
@[simp] theorem Trydp.isAgg80 : ∀ (w : Go.World), Go.Sem.run (cutP Go.Proofs.Tryd.prog) (Go.isAgg 80) w = Go.Result.ok Bool.true w := by intros; kernel_rfl
@[simp] theorem Trydp.isAgg81 : ∀ (w : Go.World), Go.Sem.run (cutP Go.Proofs.Tryd.prog) (Go.isAgg 81) w = Go.Result.ok Bool.false w := by intros; kernel_rfl
@[simp] theorem Trydp.isAgg82 : ∀ (w : Go.World), Go.Sem.run (cutP Go.Proofs.Tryd.prog) (Go.isAgg 82) w = Go.Result.ok Bool.true w := by intros; kernel_rfl
@[simp] theorem Trydp.isAgg83 : ∀ (w : Go.World), Go.Sem.run (cutP Go.Proofs.Tryd.prog) (Go.isAgg 83) w = Go.Result.ok Bool.true w := by intros; kernel_rfl
@[simp] theorem Trydp.isAgg84 : ∀ (w : Go.World), Go.Sem.run (cutP Go.Proofs.Tryd.prog) (Go.isAgg 84) w = Go.Result.ok Bool.false w := by intros; kernel_rfl
@[simp] theorem Trydp.isAgg85 : ∀ (w : Go.World), Go.Sem.run (cutP Go.Proofs.Tryd.prog) (Go.isAgg 85) w = Go.Result.ok Bool.false w := by intros; kernel_rfl
@[simp] theorem Trydp.isAgg86 : ∀ (w : Go.World), Go.Sem.run (cutP Go.Proofs.Tryd.prog) (Go.isAgg 86) w = Go.Result.ok Bool.false w := by intros; kernel_rfl
@[simp] theorem Trydp.isAgg87 : ∀ (w : Go.World), Go.Sem.run (cutP Go.Proofs.Tryd.prog) (Go.isAgg 87) w = Go.Result.ok Bool.false w := by intros; kernel_rfl
@[simp] theorem Trydp.isAgg88 : ∀ (w : Go.World), Go.Sem.run (cutP Go.Proofs.Tryd.prog) (Go.isAgg 88) w = Go.Result.ok Bool.false w := by intros; kernel_rfl
@[simp] theorem Trydp.isAgg89 : ∀ (w : Go.World), Go.Sem.run (cutP Go.Proofs.Tryd.prog) (Go.isAgg 89) w = Go.Result.ok Bool.false w := by intros; kernel_rfl
@[simp] theorem Trydp.isAgg9 : ∀ (w : Go.World), Go.Sem.run (cutP Go.Proofs.Tryd.prog) (Go.isAgg 9) w = Go.Result.ok Bool.false w := by intros; kernel_rfl
@[simp] theorem Trydp.isAgg90 : ∀ (w : Go.World), Go.Sem.run (cutP Go.Proofs.Tryd.prog) (Go.isAgg 90) w = Go.Result.ok Bool.false w := by intros; kernel_rfl
@[simp] theorem Trydp.isAgg91 : ∀ (w : Go.World), Go.Sem.run (cutP Go.Proofs.Tryd.prog) (Go.isAgg 91) w = Go.Result.ok Bool.false w := by intros; kernel_rfl
@[simp] theorem Trydp.isAgg92 : ∀ (w : Go.World), Go.Sem.run (cutP Go.Proofs.Tryd.prog) (Go.isAgg 92) w = Go.Result.ok Bool.false w := by intros; kernel_rfl
@[simp] theorem Trydp.isAgg93 : ∀ (w : Go.World), Go.Sem.run (cutP Go.Proofs.Tryd.prog) (Go.isAgg 93) w = Go.Result.ok Bool.false w := by intros; kernel_rfl
@[simp] theorem Trydp.isAgg94 : ∀ (w : Go.World), Go.Sem.run (cutP Go.Proofs.Tryd.prog) (Go.isAgg 94) w = Go.Result.ok Bool.false w := by intros; kernel_rfl
@[simp] theorem Trydp.isAgg95 : ∀ (w : Go.World), Go.Sem.run (cutP Go.Proofs.Tryd.prog) (Go.isAgg 95) w = Go.Result.ok Bool.false w := by intros; kernel_rfl
@[simp] theorem Trydp.isAgg96 : ∀ (w : Go.World), Go.Sem.run (cutP Go.Proofs.Tryd.prog) (Go.isAgg 96) w = Go.Result.ok Bool.false w := by intros; kernel_rfl
@[simp] theorem Trydp.isAgg97 : ∀ (w : Go.World), Go.Sem.run (cutP Go.Proofs.Tryd.prog) (Go.isAgg 97) w = Go.Result.ok Bool.false w := by intros; kernel_rfl
@[simp] theorem Trydp.isAgg98 : ∀ (w : Go.World), Go.Sem.run (cutP Go.Proofs.Tryd.prog) (Go.isAgg 98) w = Go.Result.ok Bool.false w := by intros; kernel_rfl
@[simp] theorem Trydp.isAgg99 : ∀ (w : Go.World), Go.Sem.run (cutP Go.Proofs.Tryd.prog) (Go.isAgg 99) w = Go.Result.ok Bool.false w := by intros; kernel_rfl
theorem Trydp.main_eq : (cutP Go.Proofs.Tryd.prog).main = 0 := by kernel_rfl
theorem Trydp.nfree10 : Go.Proofs.Tryd.f10.nfree = 0 := Go.Proofs.Tryd.nfree10
theorem Trydp.nfree11 : Go.Proofs.Tryd.f11.nfree = 0 := Go.Proofs.Tryd.nfree11
theorem Trydp.nfree12 : Go.Proofs.Tryd.f12.nfree = 0 := Go.Proofs.Tryd.nfree12
theorem Trydp.nfree13 : Go.Proofs.Tryd.f13.nfree = 0 := Go.Proofs.Tryd.nfree13
theorem Trydp.nfree14 : Go.Proofs.Tryd.f14.nfree = 0 := Go.Proofs.Tryd.nfree14
theorem Trydp.nfree15 : Go.Proofs.Tryd.f15.nfree = 0 := Go.Proofs.Tryd.nfree15
theorem Trydp.nfree16 : Go.Proofs.Tryd.f16.nfree = 0 := Go.Proofs.Tryd.nfree16
theorem Trydp.nfree17 : Go.Proofs.Tryd.f17.nfree = 0 := Go.Proofs.Tryd.nfree17
theorem Trydp.nfree18 : Go.Proofs.Tryd.f18.nfree = 0 := Go.Proofs.Tryd.nfree18
theorem Trydp.nfree19 : Go.Proofs.Tryd.f19.nfree = 0 := Go.Proofs.Tryd.nfree19
theorem Trydp.nfree20 : Go.Proofs.Tryd.f20.nfree = 0 := Go.Proofs.Tryd.nfree20
theorem Trydp.nfree21 : Go.Proofs.Tryd.f21.nfree = 0 := Go.Proofs.Tryd.nfree21
theorem Trydp.nfree23 : Go.Proofs.Tryd.f23.nfree = 0 := Go.Proofs.Tryd.nfree23
theorem Trydp.nfree24 : Go.Proofs.Tryd.f24.nfree = 0 := Go.Proofs.Tryd.nfree24
theorem Trydp.nfree25 : Go.Proofs.Tryd.f25.nfree = 0 := Go.Proofs.Tryd.nfree25
theorem Trydp.nfree26 : Go.Proofs.Tryd.f26.nfree = 0 := Go.Proofs.Tryd.nfree26
theorem Trydp.nfree27 : Go.Proofs.Tryd.f27.nfree = 0 := Go.Proofs.Tryd.nfree27
theorem Trydp.nfree28 : Go.Proofs.Tryd.f28.nfree = 0 := Go.Proofs.Tryd.nfree28
theorem Trydp.nfree29 : Go.Proofs.Tryd.f29.nfree = 0 := Go.Proofs.Tryd.nfree29
theorem Trydp.nfree3 : Go.Proofs.Tryd.f3.nfree = 0 := Go.Proofs.Tryd.nfree3
theorem Trydp.nfree30 : Go.Proofs.Tryd.f30.nfree = 0 := Go.Proofs.Tryd.nfree30
theorem Trydp.nfree32 : Go.Proofs.Tryd.f32.nfree = 1 := Go.Proofs.Tryd.nfree32
theorem Trydp.nfree33 : Go.Proofs.Tryd.f33.nfree = 0 := Go.Proofs.Tryd.nfree33
theorem Trydp.nfree34 : Go.Proofs.Tryd.f34.nfree = 1 := Go.Proofs.Tryd.nfree34
theorem Trydp.nfree35 : Go.Proofs.Tryd.f35.nfree = 0 := Go.Proofs.Tryd.nfree35
theorem Trydp.nfree36 : Go.Proofs.Tryd.f36.nfree = 0 := Go.Proofs.Tryd.nfree36
theorem Trydp.nfree37 : Go.Proofs.Tryd.f37.nfree = 0 := Go.Proofs.Tryd.nfree37
theorem Trydp.nfree38 : Go.Proofs.Tryd.f38.nfree = 0 := Go.Proofs.Tryd.nfree38
theorem Trydp.nfree39 : Go.Proofs.Tryd.f39.nfree = 0 := Go.Proofs.Tryd.nfree39
theorem Trydp.nfree4 : Go.Proofs.Tryd.f4.nfree = 0 := Go.Proofs.Tryd.nfree4
theorem Trydp.nfree40 : Go.Proofs.Tryd.f40.nfree = 0 := Go.Proofs.Tryd.nfree40
theorem Trydp.nfree41 : Go.Proofs.Tryd.f41.nfree = 0 := Go.Proofs.Tryd.nfree41
theorem Trydp.nfree42 : Go.Proofs.Tryd.f42.nfree = 1 := Go.Proofs.Tryd.nfree42
theorem Trydp.nfree43 : Go.Proofs.Tryd.f43.nfree = 0 := Go.Proofs.Tryd.nfree43
theorem Trydp.nfree44 : Go.Proofs.Tryd.f44.nfree = 0 := Go.Proofs.Tryd.nfree44
theorem Trydp.nfree45 : Go.Proofs.Tryd.f45.nfree = 0 := Go.Proofs.Tryd.nfree45
theorem Trydp.nfree46 : Go.Proofs.Tryd.f46.nfree = 0 := Go.Proofs.Tryd.nfree46
theorem Trydp.nfree5 : Go.Proofs.Tryd.f5.nfree = 0 := Go.Proofs.Tryd.nfree5
theorem Trydp.nfree51 : Go.Proofs.Tryd.f51.nfree = 0 := Go.Proofs.Tryd.nfree51
theorem Trydp.nfree52 : Go.Proofs.Tryd.f52.nfree = 0 := Go.Proofs.Tryd.nfree52
theorem Trydp.nfree53 : Go.Proofs.Tryd.f53.nfree = 1 := Go.Proofs.Tryd.nfree53
theorem Trydp.nfree54 : Go.Proofs.Tryd.f54.nfree = 0 := Go.Proofs.Tryd.nfree54
theorem Trydp.nfree55 : Go.Proofs.Tryd.f55.nfree = 0 := Go.Proofs.Tryd.nfree55
theorem Trydp.nfree56 : Go.Proofs.Tryd.f56.nfree = 0 := Go.Proofs.Tryd.nfree56
theorem Trydp.nfree57 : Go.Proofs.Tryd.f57.nfree = 0 := Go.Proofs.Tryd.nfree57
theorem Trydp.nfree58 : Go.Proofs.Tryd.f58.nfree = 0 := Go.Proofs.Tryd.nfree58
theorem Trydp.nfree59 : Go.Proofs.Tryd.f59.nfree = 0 := Go.Proofs.Tryd.nfree59
theorem Trydp.nfree6 : Go.Proofs.Tryd.f6.nfree = 0 := Go.Proofs.Tryd.nfree6
theorem Trydp.nfree7 : Go.Proofs.Tryd.f7.nfree = 0 := Go.Proofs.Tryd.nfree7
theorem Trydp.nfree78 : Go.Proofs.Tryd.f78.nfree = 0 := Go.Proofs.Tryd.nfree78
theorem Trydp.nfree79 : Go.Proofs.Tryd.f79.nfree = 0 := Go.Proofs.Tryd.nfree79
theorem Trydp.nfree8 : Go.Proofs.Tryd.f8.nfree = 0 := Go.Proofs.Tryd.nfree8
theorem Trydp.nfree80 : Go.Proofs.Tryd.f80.nfree = 0 := Go.Proofs.Tryd.nfree80
theorem Trydp.nfree81 : Go.Proofs.Tryd.f81.nfree = 0 := Go.Proofs.Tryd.nfree81
theorem Trydp.nfree87 : Go.Proofs.Tryd.f87.nfree = 0 := Go.Proofs.Tryd.nfree87
theorem Trydp.nfree9 : Go.Proofs.Tryd.f9.nfree = 0 := Go.Proofs.Tryd.nfree9
theorem Trydp.ntmps10 : Go.Proofs.Tryd.f10.ntmps = 10 := Go.Proofs.Tryd.ntmps10
theorem Trydp.ntmps11 : Go.Proofs.Tryd.f11.ntmps = 27 := Go.Proofs.Tryd.ntmps11
theorem Trydp.ntmps12 : Go.Proofs.Tryd.f12.ntmps = 23 := Go.Proofs.Tryd.ntmps12
theorem Trydp.ntmps13 : Go.Proofs.Tryd.f13.ntmps = 27 := Go.Proofs.Tryd.ntmps13
theorem Trydp.ntmps14 : Go.Proofs.Tryd.f14.ntmps = 6 := Go.Proofs.Tryd.ntmps14
theorem Trydp.ntmps15 : Go.Proofs.Tryd.f15.ntmps = 31 := Go.Proofs.Tryd.ntmps15
theorem Trydp.ntmps16 : Go.Proofs.Tryd.f16.ntmps = 49 := Go.Proofs.Tryd.ntmps16
theorem Trydp.ntmps17 : Go.Proofs.Tryd.f17.ntmps = 4 := Go.Proofs.Tryd.ntmps17
theorem Trydp.ntmps18 : Go.Proofs.Tryd.f18.ntmps = 39 := Go.Proofs.Tryd.ntmps18
theorem Trydp.ntmps19 : Go.Proofs.Tryd.f19.ntmps = 21 := Go.Proofs.Tryd.ntmps19
theorem Trydp.ntmps20 : Go.Proofs.Tryd.f20.ntmps = 10 := Go.Proofs.Tryd.ntmps20
theorem Trydp.ntmps21 : Go.Proofs.Tryd.f21.ntmps = 19 := Go.Proofs.Tryd.ntmps21
theorem Trydp.ntmps23 : Go.Proofs.Tryd.f23.ntmps = 18 := Go.Proofs.Tryd.ntmps23
theorem Trydp.ntmps24 : Go.Proofs.Tryd.f24.ntmps = 9 := Go.Proofs.Tryd.ntmps24
theorem Trydp.ntmps25 : Go.Proofs.Tryd.f25.ntmps = 39 := Go.Proofs.Tryd.ntmps25
theorem Trydp.ntmps26 : Go.Proofs.Tryd.f26.ntmps = 12 := Go.Proofs.Tryd.ntmps26
theorem Trydp.ntmps27 : Go.Proofs.Tryd.f27.ntmps = 22 := Go.Proofs.Tryd.ntmps27
theorem Trydp.ntmps28 : Go.Proofs.Tryd.f28.ntmps = 26 := Go.Proofs.Tryd.ntmps28
theorem Trydp.ntmps29 : Go.Proofs.Tryd.f29.ntmps = 36 := Go.Proofs.Tryd.ntmps29
theorem Trydp.ntmps3 : Go.Proofs.Tryd.f3.ntmps = 128 := Go.Proofs.Tryd.ntmps3
theorem Trydp.ntmps30 : Go.Proofs.Tryd.f30.ntmps = 11 := Go.Proofs.Tryd.ntmps30
theorem Trydp.ntmps32 : Go.Proofs.Tryd.f32.ntmps = 19 := Go.Proofs.Tryd.ntmps32
theorem Trydp.ntmps33 : Go.Proofs.Tryd.f33.ntmps = 9 := Go.Proofs.Tryd.ntmps33
theorem Trydp.ntmps34 : Go.Proofs.Tryd.f34.ntmps = 16 := Go.Proofs.Tryd.ntmps34
theorem Trydp.ntmps35 : Go.Proofs.Tryd.f35.ntmps = 8 := Go.Proofs.Tryd.ntmps35
theorem Trydp.ntmps36 : Go.Proofs.Tryd.f36.ntmps = 28 := Go.Proofs.Tryd.ntmps36
theorem Trydp.ntmps37 : Go.Proofs.Tryd.f37.ntmps = 15 := Go.Proofs.Tryd.ntmps37
theorem Trydp.ntmps38 : Go.Proofs.Tryd.f38.ntmps = 9 := Go.Proofs.Tryd.ntmps38
theorem Trydp.ntmps39 : Go.Proofs.Tryd.f39.ntmps = 19 := Go.Proofs.Tryd.ntmps39
theorem Trydp.ntmps4 : Go.Proofs.Tryd.f4.ntmps = 27 := Go.Proofs.Tryd.ntmps4
theorem Trydp.ntmps40 : Go.Proofs.Tryd.f40.ntmps = 4 := Go.Proofs.Tryd.ntmps40
theorem Trydp.ntmps41 : Go.Proofs.Tryd.f41.ntmps = 7 := Go.Proofs.Tryd.ntmps41
theorem Trydp.ntmps42 : Go.Proofs.Tryd.f42.ntmps = 12 := Go.Proofs.Tryd.ntmps42
theorem Trydp.ntmps43 : Go.Proofs.Tryd.f43.ntmps = 28 := Go.Proofs.Tryd.ntmps43
theorem Trydp.ntmps44 : Go.Proofs.Tryd.f44.ntmps = 29 := Go.Proofs.Tryd.ntmps44
theorem Trydp.ntmps45 : Go.Proofs.Tryd.f45.ntmps = 99 := Go.Proofs.Tryd.ntmps45
theorem Trydp.ntmps46 : Go.Proofs.Tryd.f46.ntmps = 41 := Go.Proofs.Tryd.ntmps46
theorem Trydp.ntmps5 : Go.Proofs.Tryd.f5.ntmps = 5 := Go.Proofs.Tryd.ntmps5
theorem Trydp.ntmps51 : Go.Proofs.Tryd.f51.ntmps = 14 := Go.Proofs.Tryd.ntmps51
theorem Trydp.ntmps52 : Go.Proofs.Tryd.f52.ntmps = 14 := Go.Proofs.Tryd.ntmps52
theorem Trydp.ntmps53 : Go.Proofs.Tryd.f53.ntmps = 18 := Go.Proofs.Tryd.ntmps53
theorem Trydp.ntmps54 : Go.Proofs.Tryd.f54.ntmps = 6 := Go.Proofs.Tryd.ntmps54
theorem Trydp.ntmps55 : Go.Proofs.Tryd.f55.ntmps = 32 := Go.Proofs.Tryd.ntmps55
theorem Trydp.ntmps56 : Go.Proofs.Tryd.f56.ntmps = 8 := Go.Proofs.Tryd.ntmps56
theorem Trydp.ntmps57 : Go.Proofs.Tryd.f57.ntmps = 9 := Go.Proofs.Tryd.ntmps57
theorem Trydp.ntmps58 : Go.Proofs.Tryd.f58.ntmps = 28 := Go.Proofs.Tryd.ntmps58
theorem Trydp.ntmps59 : Go.Proofs.Tryd.f59.ntmps = 19 := Go.Proofs.Tryd.ntmps59
theorem Trydp.ntmps6 : Go.Proofs.Tryd.f6.ntmps = 32 := Go.Proofs.Tryd.ntmps6
theorem Trydp.ntmps7 : Go.Proofs.Tryd.f7.ntmps = 109 := Go.Proofs.Tryd.ntmps7
theorem Trydp.ntmps78 : Go.Proofs.Tryd.f78.ntmps = 15 := Go.Proofs.Tryd.ntmps78
theorem Trydp.ntmps79 : Go.Proofs.Tryd.f79.ntmps = 6 := Go.Proofs.Tryd.ntmps79
theorem Trydp.ntmps8 : Go.Proofs.Tryd.f8.ntmps = 28 := Go.Proofs.Tryd.ntmps8
theorem Trydp.ntmps80 : Go.Proofs.Tryd.f80.ntmps = 21 := Go.Proofs.Tryd.ntmps80
theorem Trydp.ntmps81 : Go.Proofs.Tryd.f81.ntmps = 10 := Go.Proofs.Tryd.ntmps81
theorem Trydp.ntmps87 : Go.Proofs.Tryd.f87.ntmps = 21 := Go.Proofs.Tryd.ntmps87
theorem Trydp.ntmps9 : Go.Proofs.Tryd.f9.ntmps = 23 := Go.Proofs.Tryd.ntmps9
theorem Trydp.params10 : Go.Proofs.Tryd.f10.params = #[26] := Go.Proofs.Tryd.params10
theorem Trydp.params11 : Go.Proofs.Tryd.f11.params = #[23, 3] := Go.Proofs.Tryd.params11
theorem Trydp.params12 : Go.Proofs.Tryd.f12.params = #[23] := Go.Proofs.Tryd.params12
theorem Trydp.params13 : Go.Proofs.Tryd.f13.params = #[23, 23] := Go.Proofs.Tryd.params13
theorem Trydp.params14 : Go.Proofs.Tryd.f14.params = #[22] := Go.Proofs.Tryd.params14
theorem Trydp.params15 : Go.Proofs.Tryd.f15.params = #[23] := Go.Proofs.Tryd.params15
theorem Trydp.params16 : Go.Proofs.Tryd.f16.params = #[23, 3] := Go.Proofs.Tryd.params16
theorem Trydp.params17 : Go.Proofs.Tryd.f17.params = #[39] := Go.Proofs.Tryd.params17
theorem Trydp.params18 : Go.Proofs.Tryd.f18.params = #[23] := Go.Proofs.Tryd.params18
theorem Trydp.params19 : Go.Proofs.Tryd.f19.params = #[3] := Go.Proofs.Tryd.params19
theorem Trydp.params20 : Go.Proofs.Tryd.f20.params = #[23, 23] := Go.Proofs.Tryd.params20
theorem Trydp.params21 : Go.Proofs.Tryd.f21.params = #[26, 3] := Go.Proofs.Tryd.params21
theorem Trydp.params23 : Go.Proofs.Tryd.f23.params = #[26, 26] := Go.Proofs.Tryd.params23
theorem Trydp.params24 : Go.Proofs.Tryd.f24.params = #[3] := Go.Proofs.Tryd.params24
theorem Trydp.params25 : Go.Proofs.Tryd.f25.params = #[26] := Go.Proofs.Tryd.params25
theorem Trydp.params26 : Go.Proofs.Tryd.f26.params = #[26, 3] := Go.Proofs.Tryd.params26
theorem Trydp.params27 : Go.Proofs.Tryd.f27.params = #[26] := Go.Proofs.Tryd.params27
theorem Trydp.params28 : Go.Proofs.Tryd.f28.params = #[26, 26] := Go.Proofs.Tryd.params28
theorem Trydp.params29 : Go.Proofs.Tryd.f29.params = #[54] := Go.Proofs.Tryd.params29
theorem Trydp.params3 : Go.Proofs.Tryd.f3.params = #[22] := Go.Proofs.Tryd.params3
theorem Trydp.params30 : Go.Proofs.Tryd.f30.params = #[22] := Go.Proofs.Tryd.params30
theorem Trydp.params32 : Go.Proofs.Tryd.f32.params = #[26, 3] := Go.Proofs.Tryd.params32
theorem Trydp.params33 : Go.Proofs.Tryd.f33.params = #[39, 3] := Go.Proofs.Tryd.params33
theorem Trydp.params34 : Go.Proofs.Tryd.f34.params = #[51] := Go.Proofs.Tryd.params34
theorem Trydp.params35 : Go.Proofs.Tryd.f35.params = #[38] := Go.Proofs.Tryd.params35
theorem Trydp.params36 : Go.Proofs.Tryd.f36.params = #[26] := Go.Proofs.Tryd.params36
theorem Trydp.params37 : Go.Proofs.Tryd.f37.params = #[3, 3, 3] := Go.Proofs.Tryd.params37
theorem Trydp.params38 : Go.Proofs.Tryd.f38.params = #[3] := Go.Proofs.Tryd.params38
theorem Trydp.params39 : Go.Proofs.Tryd.f39.params = #[3, 3] := Go.Proofs.Tryd.params39
theorem Trydp.params4 : Go.Proofs.Tryd.f4.params = #[23] := Go.Proofs.Tryd.params4
theorem Trydp.params40 : Go.Proofs.Tryd.f40.params = #[3] := Go.Proofs.Tryd.params40
theorem Trydp.params41 : Go.Proofs.Tryd.f41.params = #[66] := Go.Proofs.Tryd.params41
theorem Trydp.params42 : Go.Proofs.Tryd.f42.params = #[26, 3] := Go.Proofs.Tryd.params42
theorem Trydp.params43 : Go.Proofs.Tryd.f43.params = #[26, 26] := Go.Proofs.Tryd.params43
theorem Trydp.params44 : Go.Proofs.Tryd.f44.params = #[26] := Go.Proofs.Tryd.params44
theorem Trydp.params45 : Go.Proofs.Tryd.f45.params = #[54, 3] := Go.Proofs.Tryd.params45
theorem Trydp.params46 : Go.Proofs.Tryd.f46.params = #[54, 3] := Go.Proofs.Tryd.params46
theorem Trydp.params5 : Go.Proofs.Tryd.f5.params = #[22] := Go.Proofs.Tryd.params5
theorem Trydp.params51 : Go.Proofs.Tryd.f51.params = #[81] := Go.Proofs.Tryd.params51
theorem Trydp.params52 : Go.Proofs.Tryd.f52.params = #[78] := Go.Proofs.Tryd.params52
theorem Trydp.params53 : Go.Proofs.Tryd.f53.params = #[88] := Go.Proofs.Tryd.params53
theorem Trydp.params54 : Go.Proofs.Tryd.f54.params = #[3] := Go.Proofs.Tryd.params54
theorem Trydp.params55 : Go.Proofs.Tryd.f55.params = #[66] := Go.Proofs.Tryd.params55
theorem Trydp.params56 : Go.Proofs.Tryd.f56.params = #[26] := Go.Proofs.Tryd.params56
theorem Trydp.params57 : Go.Proofs.Tryd.f57.params = #[66] := Go.Proofs.Tryd.params57
theorem Trydp.params58 : Go.Proofs.Tryd.f58.params = #[26, 26, 3, 3] := Go.Proofs.Tryd.params58
theorem Trydp.params59 : Go.Proofs.Tryd.f59.params = #[26] := Go.Proofs.Tryd.params59
theorem Trydp.params6 : Go.Proofs.Tryd.f6.params = #[23] := Go.Proofs.Tryd.params6
theorem Trydp.params7 : Go.Proofs.Tryd.f7.params = #[23] := Go.Proofs.Tryd.params7
theorem Trydp.params78 : Go.Proofs.Tryd.f78.params = #[26] := Go.Proofs.Tryd.params78
theorem Trydp.params79 : Go.Proofs.Tryd.f79.params = #[3] := Go.Proofs.Tryd.params79
theorem Trydp.params8 : Go.Proofs.Tryd.f8.params = #[23] := Go.Proofs.Tryd.params8
theorem Trydp.params80 : Go.Proofs.Tryd.f80.params = #[66, 3] := Go.Proofs.Tryd.params80
theorem Trydp.params81 : Go.Proofs.Tryd.f81.params = #[66, 3] := Go.Proofs.Tryd.params81
theorem Trydp.params87 : Go.Proofs.Tryd.f87.params = #[66, 3] := Go.Proofs.Tryd.params87
theorem Trydp.params9 : Go.Proofs.Tryd.f9.params = #[26, 23] := Go.Proofs.Tryd.params9
theorem Trydp.results10 : Go.Proofs.Tryd.f10.results = #[Go.ResultVar.tmp 2, Go.ResultVar.tmp 3] := Go.Proofs.Tryd.results10
theorem Trydp.results11 : Go.Proofs.Tryd.f11.results = #[Go.ResultVar.tmp 4] := Go.Proofs.Tryd.results11
theorem Trydp.results12 : Go.Proofs.Tryd.f12.results = #[Go.ResultVar.tmp 2] := Go.Proofs.Tryd.results12
theorem Trydp.results13 : Go.Proofs.Tryd.f13.results = #[Go.ResultVar.tmp 4] := Go.Proofs.Tryd.results13
theorem Trydp.results14 : Go.Proofs.Tryd.f14.results = #[Go.ResultVar.tmp 2] := Go.Proofs.Tryd.results14
theorem Trydp.results15 : Go.Proofs.Tryd.f15.results = #[Go.ResultVar.tmp 2] := Go.Proofs.Tryd.results15
theorem Trydp.results16 : Go.Proofs.Tryd.f16.results = #[Go.ResultVar.tmp 4] := Go.Proofs.Tryd.results16
theorem Trydp.results17 : Go.Proofs.Tryd.f17.results = #[Go.ResultVar.tmp 2] := Go.Proofs.Tryd.results17
theorem Trydp.results18 : Go.Proofs.Tryd.f18.results = #[Go.ResultVar.tmp 2] := Go.Proofs.Tryd.results18
theorem Trydp.results19 : Go.Proofs.Tryd.f19.results = #[Go.ResultVar.tmp 2, Go.ResultVar.tmp 3] := Go.Proofs.Tryd.results19
theorem Trydp.results20 : Go.Proofs.Tryd.f20.results = #[Go.ResultVar.tmp 4] := Go.Proofs.Tryd.results20
theorem Trydp.results21 : Go.Proofs.Tryd.f21.results = #[Go.ResultVar.tmp 4] := Go.Proofs.Tryd.results21
theorem Trydp.results23 : Go.Proofs.Tryd.f23.results = #[Go.ResultVar.tmp 4] := Go.Proofs.Tryd.results23
theorem Trydp.results24 : Go.Proofs.Tryd.f24.results = #[Go.ResultVar.tmp 2] := Go.Proofs.Tryd.results24
theorem Trydp.results25 : Go.Proofs.Tryd.f25.results = #[Go.ResultVar.tmp 2] := Go.Proofs.Tryd.results25
theorem Trydp.results26 : Go.Proofs.Tryd.f26.results = #[Go.ResultVar.tmp 4] := Go.Proofs.Tryd.results26
theorem Trydp.results27 : Go.Proofs.Tryd.f27.results = #[Go.ResultVar.tmp 2] := Go.Proofs.Tryd.results27
theorem Trydp.results28 : Go.Proofs.Tryd.f28.results = #[Go.ResultVar.tmp 4] := Go.Proofs.Tryd.results28
theorem Trydp.results29 : Go.Proofs.Tryd.f29.results = #[Go.ResultVar.tmp 2] := Go.Proofs.Tryd.results29
theorem Trydp.results3 : Go.Proofs.Tryd.f3.results = #[Go.ResultVar.tmp 2] := Go.Proofs.Tryd.results3
theorem Trydp.results30 : Go.Proofs.Tryd.f30.results = #[Go.ResultVar.tmp 2] := Go.Proofs.Tryd.results30
theorem Trydp.results32 : Go.Proofs.Tryd.f32.results = #[Go.ResultVar.tmp 5] := Go.Proofs.Tryd.results32
theorem Trydp.results33 : Go.Proofs.Tryd.f33.results = #[Go.ResultVar.tmp 4] := Go.Proofs.Tryd.results33
theorem Trydp.results34 : Go.Proofs.Tryd.f34.results = #[] := Go.Proofs.Tryd.results34
theorem Trydp.results35 : Go.Proofs.Tryd.f35.results = #[Go.ResultVar.tmp 2] := Go.Proofs.Tryd.results35
theorem Trydp.results36 : Go.Proofs.Tryd.f36.results = #[Go.ResultVar.tmp 2] := Go.Proofs.Tryd.results36
theorem Trydp.results37 : Go.Proofs.Tryd.f37.results = #[Go.ResultVar.tmp 6] := Go.Proofs.Tryd.results37
theorem Trydp.results38 : Go.Proofs.Tryd.f38.results = #[Go.ResultVar.tmp 2] := Go.Proofs.Tryd.results38
theorem Trydp.results39 : Go.Proofs.Tryd.f39.results = #[Go.ResultVar.tmp 4] := Go.Proofs.Tryd.results39
theorem Trydp.results4 : Go.Proofs.Tryd.f4.results = #[Go.ResultVar.tmp 2] := Go.Proofs.Tryd.results4
theorem Trydp.results40 : Go.Proofs.Tryd.f40.results = #[Go.ResultVar.tmp 2] := Go.Proofs.Tryd.results40
theorem Trydp.results41 : Go.Proofs.Tryd.f41.results = #[Go.ResultVar.tmp 2] := Go.Proofs.Tryd.results41
theorem Trydp.results42 : Go.Proofs.Tryd.f42.results = #[Go.ResultVar.tmp 5] := Go.Proofs.Tryd.results42
theorem Trydp.results43 : Go.Proofs.Tryd.f43.results = #[Go.ResultVar.tmp 4] := Go.Proofs.Tryd.results43
theorem Trydp.results44 : Go.Proofs.Tryd.f44.results = #[Go.ResultVar.tmp 2] := Go.Proofs.Tryd.results44
theorem Trydp.results45 : Go.Proofs.Tryd.f45.results = #[Go.ResultVar.tmp 4] := Go.Proofs.Tryd.results45
theorem Trydp.results46 : Go.Proofs.Tryd.f46.results = #[Go.ResultVar.tmp 4] := Go.Proofs.Tryd.results46
theorem Trydp.results5 : Go.Proofs.Tryd.f5.results = #[Go.ResultVar.tmp 2] := Go.Proofs.Tryd.results5
theorem Trydp.results51 : Go.Proofs.Tryd.f51.results = #[Go.ResultVar.tmp 2] := Go.Proofs.Tryd.results51
theorem Trydp.results52 : Go.Proofs.Tryd.f52.results = #[Go.ResultVar.tmp 2] := Go.Proofs.Tryd.results52
theorem Trydp.results53 : Go.Proofs.Tryd.f53.results = #[] := Go.Proofs.Tryd.results53
theorem Trydp.results54 : Go.Proofs.Tryd.f54.results = #[Go.ResultVar.cell 2 66] := Go.Proofs.Tryd.results54
theorem Trydp.results55 : Go.Proofs.Tryd.f55.results = #[Go.ResultVar.cell 2 66, Go.ResultVar.tmp 3] := Go.Proofs.Tryd.results55
theorem Trydp.results56 : Go.Proofs.Tryd.f56.results = #[Go.ResultVar.tmp 2] := Go.Proofs.Tryd.results56
theorem Trydp.results57 : Go.Proofs.Tryd.f57.results = #[Go.ResultVar.tmp 2] := Go.Proofs.Tryd.results57
theorem Trydp.results58 : Go.Proofs.Tryd.f58.results = #[Go.ResultVar.tmp 8] := Go.Proofs.Tryd.results58
theorem Trydp.results59 : Go.Proofs.Tryd.f59.results = #[Go.ResultVar.tmp 2] := Go.Proofs.Tryd.results59
theorem Trydp.results6 : Go.Proofs.Tryd.f6.results = #[Go.ResultVar.cell 2 4] := Go.Proofs.Tryd.results6
theorem Trydp.results7 : Go.Proofs.Tryd.f7.results = #[Go.ResultVar.tmp 2] := Go.Proofs.Tryd.results7
theorem Trydp.results78 : Go.Proofs.Tryd.f78.results = #[Go.ResultVar.cell 2 66] := Go.Proofs.Tryd.results78
theorem Trydp.results79 : Go.Proofs.Tryd.f79.results = #[Go.ResultVar.cell 2 66] := Go.Proofs.Tryd.results79
theorem Trydp.results8 : Go.Proofs.Tryd.f8.results = #[Go.ResultVar.tmp 2, Go.ResultVar.tmp 3] := Go.Proofs.Tryd.results8
theorem Trydp.results80 : Go.Proofs.Tryd.f80.results = #[Go.ResultVar.tmp 4] := Go.Proofs.Tryd.results80
theorem Trydp.results81 : Go.Proofs.Tryd.f81.results = #[Go.ResultVar.cell 4 66] := Go.Proofs.Tryd.results81
theorem Trydp.results87 : Go.Proofs.Tryd.f87.results = #[Go.ResultVar.cell 4 66] := Go.Proofs.Tryd.results87
theorem Trydp.results9 : Go.Proofs.Tryd.f9.results = #[Go.ResultVar.tmp 4, Go.ResultVar.tmp 5] := Go.Proofs.Tryd.results9
@[simp] theorem Trydp.runUnderlying0 : ∀ (w : Go.World), Go.Sem.run (cutP Go.Proofs.Tryd.prog) (Go.underlying 0) w = Go.Result.ok (Go.TypeDesc.tuple #[]) w := by intros; kernel_rfl
@[simp] theorem Trydp.runUnderlying1 : ∀ (w : Go.World), Go.Sem.run (cutP Go.Proofs.Tryd.prog) (Go.underlying 1) w = Go.Result.ok (Go.TypeDesc.func #[] #[] Bool.false) w := by intros; kernel_rfl
@[simp] theorem Trydp.runUnderlying10 : ∀ (w : Go.World), Go.Sem.run (cutP Go.Proofs.Tryd.prog) (Go.underlying 10) w = Go.Result.ok Go.TypeDesc.string w := by intros; kernel_rfl
@[simp] theorem Trydp.runUnderlying100 : ∀ (w : Go.World), Go.Sem.run (cutP Go.Proofs.Tryd.prog) (Go.underlying 100) w = Go.Result.ok (Go.TypeDesc.func #[9] #[] Bool.false) w := by intros; kernel_rfl
@[simp] theorem Trydp.runUnderlying101 : ∀ (w : Go.World), Go.Sem.run (cutP Go.Proofs.Tryd.prog) (Go.underlying 101) w = Go.Result.ok (Go.TypeDesc.func #[78] #[78] Bool.false) w := by intros; kernel_rfl
@[simp] theorem Trydp.runUnderlying102 : ∀ (w : Go.World), Go.Sem.run (cutP Go.Proofs.Tryd.prog) (Go.underlying 102) w = Go.Result.ok (Go.TypeDesc.pointer 81) w := by intros; kernel_rfl
@[simp] theorem Trydp.runUnderlying103 : ∀ (w : Go.World), Go.Sem.run (cutP Go.Proofs.Tryd.prog) (Go.underlying 103) w = Go.Result.ok (Go.TypeDesc.func #[] #[78] Bool.false) w := by intros; kernel_rfl
@[simp] theorem Trydp.runUnderlying104 : ∀ (w : Go.World), Go.Sem.run (cutP Go.Proofs.Tryd.prog) (Go.underlying 104) w = Go.Result.ok (Go.TypeDesc.func #[78] #[] Bool.false) w := by intros; kernel_rfl
@[simp] theorem Trydp.runUnderlying105 : ∀ (w : Go.World), Go.Sem.run (cutP Go.Proofs.Tryd.prog) (Go.underlying 105) w = Go.Result.ok (Go.TypeDesc.func #[94] #[] Bool.false) w := by intros; kernel_rfl
@[simp] theorem Trydp.runUnderlying106 : ∀ (w : Go.World), Go.Sem.run (cutP Go.Proofs.Tryd.prog) (Go.underlying 106) w = Go.Result.ok (Go.TypeDesc.func #[102, 4, 3] #[] Bool.false) w := by intros; kernel_rfl
@[simp] theorem Trydp.runUnderlying107 : ∀ (w : Go.World), Go.Sem.run (cutP Go.Proofs.Tryd.prog) (Go.underlying 107) w = Go.Result.ok (Go.TypeDesc.func #[94] #[4] Bool.false) w := by intros; kernel_rfl
@[simp] theorem Trydp.runUnderlying108 : ∀ (w : Go.World), Go.Sem.run (cutP Go.Proofs.Tryd.prog) (Go.underlying 108) w = Go.Result.ok (Go.TypeDesc.func #[78, 78] #[4] Bool.false) w := by intros; kernel_rfl
@[simp] theorem Trydp.runUnderlying109 : ∀ (w : Go.World), Go.Sem.run (cutP Go.Proofs.Tryd.prog) (Go.underlying 109) w = Go.Result.ok (Go.TypeDesc.func #[102, 4] #[] Bool.false) w := by intros; kernel_rfl
@[simp] theorem Trydp.runUnderlying11 : ∀ (w : Go.World), Go.Sem.run (cutP Go.Proofs.Tryd.prog) (Go.underlying 11) w = Go.Result.ok Go.TypeDesc.string w := by intros; kernel_rfl
@[simp] theorem Trydp.runUnderlying110 : ∀ (w : Go.World), Go.Sem.run (cutP Go.Proofs.Tryd.prog) (Go.underlying 110) w = Go.Result.ok (Go.TypeDesc.array 32 5) w := by intros; kernel_rfl
@[simp] theorem Trydp.runUnderlying111 : ∀ (w : Go.World), Go.Sem.run (cutP Go.Proofs.Tryd.prog) (Go.underlying 111) w = Go.Result.ok (Go.TypeDesc.array 64 5) w := by intros; kernel_rfl
@[simp] theorem Trydp.runUnderlying112 : ∀ (w : Go.World), Go.Sem.run (cutP Go.Proofs.Tryd.prog) (Go.underlying 112) w = Go.Result.ok (Go.TypeDesc.func #[26] #[66] Bool.false) w := by intros; kernel_rfl
@[simp] theorem Trydp.runUnderlying113 : ∀ (w : Go.World), Go.Sem.run (cutP Go.Proofs.Tryd.prog) (Go.underlying 113) w = Go.Result.ok (Go.TypeDesc.pointer 80) w := by intros; kernel_rfl
@[simp] theorem Trydp.runUnderlying114 : ∀ (w : Go.World), Go.Sem.run (cutP Go.Proofs.Tryd.prog) (Go.underlying 114) w = Go.Result.ok (Go.TypeDesc.func #[115, 78] #[78] Bool.false) w := by intros; kernel_rfl
@[simp] theorem Trydp.runUnderlying115 : ∀ (w : Go.World), Go.Sem.run (cutP Go.Proofs.Tryd.prog) (Go.underlying 115) w = Go.Result.ok (Go.TypeDesc.pointer 78) w := by intros; kernel_rfl
@[simp] theorem Trydp.runUnderlying116 : ∀ (w : Go.World), Go.Sem.run (cutP Go.Proofs.Tryd.prog) (Go.underlying 116) w = Go.Result.ok (Go.TypeDesc.func #[115] #[78] Bool.false) w := by intros; kernel_rfl
@[simp] theorem Trydp.runUnderlying117 : ∀ (w : Go.World), Go.Sem.run (cutP Go.Proofs.Tryd.prog) (Go.underlying 117) w = Go.Result.ok (Go.TypeDesc.func #[115, 78] #[] Bool.false) w := by intros; kernel_rfl
@[simp] theorem Trydp.runUnderlying118 : ∀ (w : Go.World), Go.Sem.run (cutP Go.Proofs.Tryd.prog) (Go.underlying 118) w = Go.Result.ok (Go.TypeDesc.func #[115, 78, 78] #[4] Bool.false) w := by intros; kernel_rfl
@[simp] theorem Trydp.runUnderlying119 : ∀ (w : Go.World), Go.Sem.run (cutP Go.Proofs.Tryd.prog) (Go.underlying 119) w = Go.Result.ok (Go.TypeDesc.func #[] #[9] Bool.false) w := by intros; kernel_rfl
@[simp] theorem Trydp.runUnderlying12 : ∀ (w : Go.World), Go.Sem.run (cutP Go.Proofs.Tryd.prog) (Go.underlying 12) w = Go.Result.ok (Go.TypeDesc.int Go.IntKind.u64) w := by intros; kernel_rfl
@[simp] theorem Trydp.runUnderlying120 : ∀ (w : Go.World), Go.Sem.run (cutP Go.Proofs.Tryd.prog) (Go.underlying 120) w = Go.Result.ok (Go.TypeDesc.struct #[{ name := "_interface", type := 17, offset := 0, embedded := Bool.false, tag := "", pkgPath := "runtime", byteOffset := 0 }, { name := "concrete", type := 17, offset := 1, embedded := Bool.false, tag := "", pkgPath := "runtime", byteOffset := 8 }, { name := "asserted", type := 17, offset := 2, embedded := Bool.false, tag := "", pkgPath := "runtime", byteOffset := 16 }, { name := "missingMethod", type := 9, offset := 3, embedded := Bool.false, tag := "", pkgPath := "runtime", byteOffset := 24 }]) w := by intros; kernel_rfl
@[simp] theorem Trydp.runUnderlying121 : ∀ (w : Go.World), Go.Sem.run (cutP Go.Proofs.Tryd.prog) (Go.underlying 121) w = Go.Result.ok (Go.TypeDesc.struct #[{ name := "_interface", type := 17, offset := 0, embedded := Bool.false, tag := "", pkgPath := "runtime", byteOffset := 0 }, { name := "concrete", type := 17, offset := 1, embedded := Bool.false, tag := "", pkgPath := "runtime", byteOffset := 8 }, { name := "asserted", type := 17, offset := 2, embedded := Bool.false, tag := "", pkgPath := "runtime", byteOffset := 16 }, { name := "missingMethod", type := 9, offset := 3, embedded := Bool.false, tag := "", pkgPath := "runtime", byteOffset := 24 }]) w := by intros; kernel_rfl
@[simp] theorem Trydp.runUnderlying122 : ∀ (w : Go.World), Go.Sem.run (cutP Go.Proofs.Tryd.prog) (Go.underlying 122) w = Go.Result.ok (Go.TypeDesc.array 0 16) w := by intros; kernel_rfl
@[simp] theorem Trydp.runUnderlying123 : ∀ (w : Go.World), Go.Sem.run (cutP Go.Proofs.Tryd.prog) (Go.underlying 123) w = Go.Result.ok (Go.TypeDesc.struct #[{ name := "_", type := 122, offset := 0, embedded := Bool.false, tag := "", pkgPath := "runtime", byteOffset := 0 }]) w := by intros; kernel_rfl
@[simp] theorem Trydp.runUnderlying124 : ∀ (w : Go.World), Go.Sem.run (cutP Go.Proofs.Tryd.prog) (Go.underlying 124) w = Go.Result.ok (Go.TypeDesc.struct #[{ name := "_", type := 122, offset := 0, embedded := Bool.false, tag := "", pkgPath := "runtime", byteOffset := 0 }]) w := by intros; kernel_rfl
@[simp] theorem Trydp.runUnderlying125 : ∀ (w : Go.World), Go.Sem.run (cutP Go.Proofs.Tryd.prog) (Go.underlying 125) w = Go.Result.ok (Go.TypeDesc.int Go.IntKind.u8) w := by intros; kernel_rfl
@[simp] theorem Trydp.runUnderlying126 : ∀ (w : Go.World), Go.Sem.run (cutP Go.Proofs.Tryd.prog) (Go.underlying 126) w = Go.Result.ok (Go.TypeDesc.int Go.IntKind.u8) w := by intros; kernel_rfl
@[simp] theorem Trydp.runUnderlying127 : ∀ (w : Go.World), Go.Sem.run (cutP Go.Proofs.Tryd.prog) (Go.underlying 127) w = Go.Result.ok (Go.TypeDesc.func #[96, 96] #[4] Bool.false) w := by intros; kernel_rfl
@[simp] theorem Trydp.runUnderlying128 : ∀ (w : Go.World), Go.Sem.run (cutP Go.Proofs.Tryd.prog) (Go.underlying 128) w = Go.Result.ok (Go.TypeDesc.pointer 5) w := by intros; kernel_rfl
@[simp] theorem Trydp.runUnderlying129 : ∀ (w : Go.World), Go.Sem.run (cutP Go.Proofs.Tryd.prog) (Go.underlying 129) w = Go.Result.ok (Go.TypeDesc.int Go.IntKind.i32) w := by intros; kernel_rfl
@[simp] theorem Trydp.runUnderlying13 : ∀ (w : Go.World), Go.Sem.run (cutP Go.Proofs.Tryd.prog) (Go.underlying 13) w = Go.Result.ok (Go.TypeDesc.struct #[{ name := "msg", type := 9, offset := 0, embedded := Bool.false, tag := "", pkgPath := "runtime", byteOffset := 0 }, { name := "addr", type := 12, offset := 1, embedded := Bool.false, tag := "", pkgPath := "runtime", byteOffset := 16 }]) w := by intros; kernel_rfl
@[simp] theorem Trydp.runUnderlying130 : ∀ (w : Go.World), Go.Sem.run (cutP Go.Proofs.Tryd.prog) (Go.underlying 130) w = Go.Result.ok (Go.TypeDesc.int Go.IntKind.i32) w := by intros; kernel_rfl
@[simp] theorem Trydp.runUnderlying131 : ∀ (w : Go.World), Go.Sem.run (cutP Go.Proofs.Tryd.prog) (Go.underlying 131) w = Go.Result.ok (Go.TypeDesc.struct #[{ name := "Size_", type := 12, offset := 0, embedded := Bool.false, tag := "", pkgPath := "", byteOffset := 0 }, { name := "PtrBytes", type := 12, offset := 1, embedded := Bool.false, tag := "", pkgPath := "", byteOffset := 8 }, { name := "Hash", type := 81, offset := 2, embedded := Bool.false, tag := "", pkgPath := "", byteOffset := 16 }, { name := "TFlag", type := 125, offset := 3, embedded := Bool.false, tag := "", pkgPath := "", byteOffset := 20 }, { name := "Align_", type := 5, offset := 4, embedded := Bool.false, tag := "", pkgPath := "", byteOffset := 21 }, { name := "FieldAlign_", type := 5, offset := 5, embedded := Bool.false, tag := "", pkgPath := "", byteOffset := 22 }, { name := "Kind_", type := 126, offset := 6, embedded := Bool.false, tag := "", pkgPath := "", byteOffset := 23 }, { name := "Equal", type := 127, offset := 7, embedded := Bool.false, tag := "", pkgPath := "", byteOffset := 24 }, { name := "GCData", type := 128, offset := 8, embedded := Bool.false, tag := "", pkgPath := "", byteOffset := 32 }, { name := "Str", type := 129, offset := 9, embedded := Bool.false, tag := "", pkgPath := "", byteOffset := 40 }, { name := "PtrToThis", type := 130, offset := 10, embedded := Bool.false, tag := "", pkgPath := "", byteOffset := 44 }]) w := by intros; kernel_rfl
@[simp] theorem Trydp.runUnderlying132 : ∀ (w : Go.World), Go.Sem.run (cutP Go.Proofs.Tryd.prog) (Go.underlying 132) w = Go.Result.ok (Go.TypeDesc.struct #[{ name := "Size_", type := 12, offset := 0, embedded := Bool.false, tag := "", pkgPath := "", byteOffset := 0 }, { name := "PtrBytes", type := 12, offset := 1, embedded := Bool.false, tag := "", pkgPath := "", byteOffset := 8 }, { name := "Hash", type := 81, offset := 2, embedded := Bool.false, tag := "", pkgPath := "", byteOffset := 16 }, { name := "TFlag", type := 125, offset := 3, embedded := Bool.false, tag := "", pkgPath := "", byteOffset := 20 }, { name := "Align_", type := 5, offset := 4, embedded := Bool.false, tag := "", pkgPath := "", byteOffset := 21 }, { name := "FieldAlign_", type := 5, offset := 5, embedded := Bool.false, tag := "", pkgPath := "", byteOffset := 22 }, { name := "Kind_", type := 126, offset := 6, embedded := Bool.false, tag := "", pkgPath := "", byteOffset := 23 }, { name := "Equal", type := 127, offset := 7, embedded := Bool.false, tag := "", pkgPath := "", byteOffset := 24 }, { name := "GCData", type := 128, offset := 8, embedded := Bool.false, tag := "", pkgPath := "", byteOffset := 32 }, { name := "Str", type := 129, offset := 9, embedded := Bool.false, tag := "", pkgPath := "", byteOffset := 40 }, { name := "PtrToThis", type := 130, offset := 10, embedded := Bool.false, tag := "", pkgPath := "", byteOffset := 44 }]) w := by intros; kernel_rfl
@[simp] theorem Trydp.runUnderlying14 : ∀ (w : Go.World), Go.Sem.run (cutP Go.Proofs.Tryd.prog) (Go.underlying 14) w = Go.Result.ok (Go.TypeDesc.struct #[{ name := "msg", type := 9, offset := 0, embedded := Bool.false, tag := "", pkgPath := "runtime", byteOffset := 0 }, { name := "addr", type := 12, offset := 1, embedded := Bool.false, tag := "", pkgPath := "runtime", byteOffset := 16 }]) w := by intros; kernel_rfl
@[simp] theorem Trydp.runUnderlying15 : ∀ (w : Go.World), Go.Sem.run (cutP Go.Proofs.Tryd.prog) (Go.underlying 15) w = Go.Result.ok (Go.TypeDesc.pointer 121) w := by intros; kernel_rfl
@[simp] theorem Trydp.runUnderlying16 : ∀ (w : Go.World), Go.Sem.run (cutP Go.Proofs.Tryd.prog) (Go.underlying 16) w = Go.Result.ok (Go.TypeDesc.pointer 124) w := by intros; kernel_rfl
@[simp] theorem Trydp.runUnderlying17 : ∀ (w : Go.World), Go.Sem.run (cutP Go.Proofs.Tryd.prog) (Go.underlying 17) w = Go.Result.ok (Go.TypeDesc.pointer 132) w := by intros; kernel_rfl
@[simp] theorem Trydp.runUnderlying18 : ∀ (w : Go.World), Go.Sem.run (cutP Go.Proofs.Tryd.prog) (Go.underlying 18) w = Go.Result.ok (Go.TypeDesc.struct #[{ name := "typ", type := 17, offset := 0, embedded := Bool.false, tag := "", pkgPath := "internal/runtime/maps", byteOffset := 0 }]) w := by intros; kernel_rfl
@[simp] theorem Trydp.runUnderlying19 : ∀ (w : Go.World), Go.Sem.run (cutP Go.Proofs.Tryd.prog) (Go.underlying 19) w = Go.Result.ok (Go.TypeDesc.struct #[{ name := "typ", type := 17, offset := 0, embedded := Bool.false, tag := "", pkgPath := "internal/runtime/maps", byteOffset := 0 }]) w := by intros; kernel_rfl
@[simp] theorem Trydp.runUnderlying2 : ∀ (w : Go.World), Go.Sem.run (cutP Go.Proofs.Tryd.prog) (Go.underlying 2) w = Go.Result.ok (Go.TypeDesc.int Go.IntKind.i64) w := by intros; kernel_rfl
@[simp] theorem Trydp.runUnderlying20 : ∀ (w : Go.World), Go.Sem.run (cutP Go.Proofs.Tryd.prog) (Go.underlying 20) w = Go.Result.ok (Go.TypeDesc.interface #[]) w := by intros; kernel_rfl
@[simp] theorem Trydp.runUnderlying21 : ∀ (w : Go.World), Go.Sem.run (cutP Go.Proofs.Tryd.prog) (Go.underlying 21) w = Go.Result.ok (Go.TypeDesc.int Go.IntKind.i32) w := by intros; kernel_rfl
@[simp] theorem Trydp.runUnderlying22 : ∀ (w : Go.World), Go.Sem.run (cutP Go.Proofs.Tryd.prog) (Go.underlying 22) w = Go.Result.ok (Go.TypeDesc.slice 5) w := by intros; kernel_rfl
@[simp] theorem Trydp.runUnderlying23 : ∀ (w : Go.World), Go.Sem.run (cutP Go.Proofs.Tryd.prog) (Go.underlying 23) w = Go.Result.ok (Go.TypeDesc.slice 26) w := by intros; kernel_rfl
@[simp] theorem Trydp.runUnderlying24 : ∀ (w : Go.World), Go.Sem.run (cutP Go.Proofs.Tryd.prog) (Go.underlying 24) w = Go.Result.ok (Go.TypeDesc.func #[22] #[23] Bool.false) w := by intros; kernel_rfl
@[simp] theorem Trydp.runUnderlying25 : ∀ (w : Go.World), Go.Sem.run (cutP Go.Proofs.Tryd.prog) (Go.underlying 25) w = Go.Result.ok (Go.TypeDesc.func #[23] #[4] Bool.false) w := by intros; kernel_rfl
@[simp] theorem Trydp.runUnderlying26 : ∀ (w : Go.World), Go.Sem.run (cutP Go.Proofs.Tryd.prog) (Go.underlying 26) w = Go.Result.ok (Go.TypeDesc.slice 3) w := by intros; kernel_rfl
@[simp] theorem Trydp.runUnderlying27 : ∀ (w : Go.World), Go.Sem.run (cutP Go.Proofs.Tryd.prog) (Go.underlying 27) w = Go.Result.ok (Go.TypeDesc.tuple #[26, 4]) w := by intros; kernel_rfl
@[simp] theorem Trydp.runUnderlying28 : ∀ (w : Go.World), Go.Sem.run (cutP Go.Proofs.Tryd.prog) (Go.underlying 28) w = Go.Result.ok (Go.TypeDesc.func #[23] #[26, 4] Bool.false) w := by intros; kernel_rfl
@[simp] theorem Trydp.runUnderlying29 : ∀ (w : Go.World), Go.Sem.run (cutP Go.Proofs.Tryd.prog) (Go.underlying 29) w = Go.Result.ok (Go.TypeDesc.tuple #[3, 4]) w := by intros; kernel_rfl
@[simp] theorem Trydp.runUnderlying3 : ∀ (w : Go.World), Go.Sem.run (cutP Go.Proofs.Tryd.prog) (Go.underlying 3) w = Go.Result.ok (Go.TypeDesc.int Go.IntKind.i64) w := by intros; kernel_rfl
@[simp] theorem Trydp.runUnderlying30 : ∀ (w : Go.World), Go.Sem.run (cutP Go.Proofs.Tryd.prog) (Go.underlying 30) w = Go.Result.ok (Go.TypeDesc.func #[26, 23] #[3, 4] Bool.false) w := by intros; kernel_rfl
@[simp] theorem Trydp.runUnderlying31 : ∀ (w : Go.World), Go.Sem.run (cutP Go.Proofs.Tryd.prog) (Go.underlying 31) w = Go.Result.ok (Go.TypeDesc.func #[26] #[26, 4] Bool.false) w := by intros; kernel_rfl
@[simp] theorem Trydp.runUnderlying32 : ∀ (w : Go.World), Go.Sem.run (cutP Go.Proofs.Tryd.prog) (Go.underlying 32) w = Go.Result.ok (Go.TypeDesc.func #[22] #[4] Bool.false) w := by intros; kernel_rfl
@[simp] theorem Trydp.runUnderlying33 : ∀ (w : Go.World), Go.Sem.run (cutP Go.Proofs.Tryd.prog) (Go.underlying 33) w = Go.Result.ok (Go.TypeDesc.func #[23, 3] #[3] Bool.false) w := by intros; kernel_rfl
@[simp] theorem Trydp.runUnderlying34 : ∀ (w : Go.World), Go.Sem.run (cutP Go.Proofs.Tryd.prog) (Go.underlying 34) w = Go.Result.ok (Go.TypeDesc.func #[23] #[23] Bool.false) w := by intros; kernel_rfl
@[simp] theorem Trydp.runUnderlying35 : ∀ (w : Go.World), Go.Sem.run (cutP Go.Proofs.Tryd.prog) (Go.underlying 35) w = Go.Result.ok (Go.TypeDesc.func #[23, 23] #[4] Bool.false) w := by intros; kernel_rfl
@[simp] theorem Trydp.runUnderlying36 : ∀ (w : Go.World), Go.Sem.run (cutP Go.Proofs.Tryd.prog) (Go.underlying 36) w = Go.Result.ok (Go.TypeDesc.slice 39) w := by intros; kernel_rfl
@[simp] theorem Trydp.runUnderlying37 : ∀ (w : Go.World), Go.Sem.run (cutP Go.Proofs.Tryd.prog) (Go.underlying 37) w = Go.Result.ok (Go.TypeDesc.func #[23, 3] #[36] Bool.false) w := by intros; kernel_rfl
@[simp] theorem Trydp.runUnderlying38 : ∀ (w : Go.World), Go.Sem.run (cutP Go.Proofs.Tryd.prog) (Go.underlying 38) w = Go.Result.ok (Go.TypeDesc.int Go.IntKind.u64) w := by intros; kernel_rfl
@[simp] theorem Trydp.runUnderlying39 : ∀ (w : Go.World), Go.Sem.run (cutP Go.Proofs.Tryd.prog) (Go.underlying 39) w = Go.Result.ok (Go.TypeDesc.int Go.IntKind.u64) w := by intros; kernel_rfl
@[simp] theorem Trydp.runUnderlying4 : ∀ (w : Go.World), Go.Sem.run (cutP Go.Proofs.Tryd.prog) (Go.underlying 4) w = Go.Result.ok Go.TypeDesc.bool w := by intros; kernel_rfl
@[simp] theorem Trydp.runUnderlying40 : ∀ (w : Go.World), Go.Sem.run (cutP Go.Proofs.Tryd.prog) (Go.underlying 40) w = Go.Result.ok (Go.TypeDesc.func #[51] #[] Bool.false) w := by intros; kernel_rfl
@[simp] theorem Trydp.runUnderlying41 : ∀ (w : Go.World), Go.Sem.run (cutP Go.Proofs.Tryd.prog) (Go.underlying 41) w = Go.Result.ok (Go.TypeDesc.func #[51] #[] Bool.false) w := by intros; kernel_rfl
@[simp] theorem Trydp.runUnderlying42 : ∀ (w : Go.World), Go.Sem.run (cutP Go.Proofs.Tryd.prog) (Go.underlying 42) w = Go.Result.ok (Go.TypeDesc.func #[] #[41] Bool.false) w := by intros; kernel_rfl
@[simp] theorem Trydp.runUnderlying43 : ∀ (w : Go.World), Go.Sem.run (cutP Go.Proofs.Tryd.prog) (Go.underlying 43) w = Go.Result.ok (Go.TypeDesc.slice 44) w := by intros; kernel_rfl
@[simp] theorem Trydp.runUnderlying44 : ∀ (w : Go.World), Go.Sem.run (cutP Go.Proofs.Tryd.prog) (Go.underlying 44) w = Go.Result.ok (Go.TypeDesc.slice 4) w := by intros; kernel_rfl
@[simp] theorem Trydp.runUnderlying45 : ∀ (w : Go.World), Go.Sem.run (cutP Go.Proofs.Tryd.prog) (Go.underlying 45) w = Go.Result.ok (Go.TypeDesc.tuple #[23, 4]) w := by intros; kernel_rfl
@[simp] theorem Trydp.runUnderlying46 : ∀ (w : Go.World), Go.Sem.run (cutP Go.Proofs.Tryd.prog) (Go.underlying 46) w = Go.Result.ok (Go.TypeDesc.func #[3] #[23, 4] Bool.false) w := by intros; kernel_rfl
@[simp] theorem Trydp.runUnderlying47 : ∀ (w : Go.World), Go.Sem.run (cutP Go.Proofs.Tryd.prog) (Go.underlying 47) w = Go.Result.ok (Go.TypeDesc.func #[23, 23] #[26] Bool.false) w := by intros; kernel_rfl
@[simp] theorem Trydp.runUnderlying48 : ∀ (w : Go.World), Go.Sem.run (cutP Go.Proofs.Tryd.prog) (Go.underlying 48) w = Go.Result.ok (Go.TypeDesc.func #[26, 3] #[3] Bool.false) w := by intros; kernel_rfl
@[simp] theorem Trydp.runUnderlying49 : ∀ (w : Go.World), Go.Sem.run (cutP Go.Proofs.Tryd.prog) (Go.underlying 49) w = Go.Result.ok (Go.TypeDesc.func #[26] #[3] Bool.false) w := by intros; kernel_rfl
@[simp] theorem Trydp.runUnderlying5 : ∀ (w : Go.World), Go.Sem.run (cutP Go.Proofs.Tryd.prog) (Go.underlying 5) w = Go.Result.ok (Go.TypeDesc.int Go.IntKind.u8) w := by intros; kernel_rfl
@[simp] theorem Trydp.runUnderlying50 : ∀ (w : Go.World), Go.Sem.run (cutP Go.Proofs.Tryd.prog) (Go.underlying 50) w = Go.Result.ok (Go.TypeDesc.func #[26, 26] #[4] Bool.false) w := by intros; kernel_rfl
@[simp] theorem Trydp.runUnderlying51 : ∀ (w : Go.World), Go.Sem.run (cutP Go.Proofs.Tryd.prog) (Go.underlying 51) w = Go.Result.ok (Go.TypeDesc.func #[3] #[4] Bool.false) w := by intros; kernel_rfl
@[simp] theorem Trydp.runUnderlying52 : ∀ (w : Go.World), Go.Sem.run (cutP Go.Proofs.Tryd.prog) (Go.underlying 52) w = Go.Result.ok (Go.TypeDesc.func #[26] #[26] Bool.false) w := by intros; kernel_rfl
@[simp] theorem Trydp.runUnderlying53 : ∀ (w : Go.World), Go.Sem.run (cutP Go.Proofs.Tryd.prog) (Go.underlying 53) w = Go.Result.ok (Go.TypeDesc.func #[54] #[23] Bool.false) w := by intros; kernel_rfl
@[simp] theorem Trydp.runUnderlying54 : ∀ (w : Go.World), Go.Sem.run (cutP Go.Proofs.Tryd.prog) (Go.underlying 54) w = Go.Result.ok (Go.TypeDesc.pointer 72) w := by intros; kernel_rfl
@[simp] theorem Trydp.runUnderlying55 : ∀ (w : Go.World), Go.Sem.run (cutP Go.Proofs.Tryd.prog) (Go.underlying 55) w = Go.Result.ok (Go.TypeDesc.func #[22] #[54] Bool.false) w := by intros; kernel_rfl
@[simp] theorem Trydp.runUnderlying56 : ∀ (w : Go.World), Go.Sem.run (cutP Go.Proofs.Tryd.prog) (Go.underlying 56) w = Go.Result.ok (Go.TypeDesc.func #[23, 3, 48] #[26] Bool.false) w := by intros; kernel_rfl
@[simp] theorem Trydp.runUnderlying57 : ∀ (w : Go.World), Go.Sem.run (cutP Go.Proofs.Tryd.prog) (Go.underlying 57) w = Go.Result.ok (Go.TypeDesc.func #[3] #[39] Bool.false) w := by intros; kernel_rfl
@[simp] theorem Trydp.runUnderlying58 : ∀ (w : Go.World), Go.Sem.run (cutP Go.Proofs.Tryd.prog) (Go.underlying 58) w = Go.Result.ok (Go.TypeDesc.func #[38] #[3] Bool.false) w := by intros; kernel_rfl
@[simp] theorem Trydp.runUnderlying59 : ∀ (w : Go.World), Go.Sem.run (cutP Go.Proofs.Tryd.prog) (Go.underlying 59) w = Go.Result.ok (Go.TypeDesc.func #[26] #[4] Bool.false) w := by intros; kernel_rfl
@[simp] theorem Trydp.runUnderlying6 : ∀ (w : Go.World), Go.Sem.run (cutP Go.Proofs.Tryd.prog) (Go.underlying 6) w = Go.Result.ok (Go.TypeDesc.int Go.IntKind.u8) w := by intros; kernel_rfl
@[simp] theorem Trydp.runUnderlying60 : ∀ (w : Go.World), Go.Sem.run (cutP Go.Proofs.Tryd.prog) (Go.underlying 60) w = Go.Result.ok (Go.TypeDesc.func #[3, 3, 3] #[4] Bool.false) w := by intros; kernel_rfl
@[simp] theorem Trydp.runUnderlying61 : ∀ (w : Go.World), Go.Sem.run (cutP Go.Proofs.Tryd.prog) (Go.underlying 61) w = Go.Result.ok (Go.TypeDesc.func #[3, 3] #[3] Bool.false) w := by intros; kernel_rfl
@[simp] theorem Trydp.runUnderlying62 : ∀ (w : Go.World), Go.Sem.run (cutP Go.Proofs.Tryd.prog) (Go.underlying 62) w = Go.Result.ok (Go.TypeDesc.func #[88] #[] Bool.false) w := by intros; kernel_rfl
@[simp] theorem Trydp.runUnderlying63 : ∀ (w : Go.World), Go.Sem.run (cutP Go.Proofs.Tryd.prog) (Go.underlying 63) w = Go.Result.ok (Go.TypeDesc.func #[88] #[] Bool.false) w := by intros; kernel_rfl
@[simp] theorem Trydp.runUnderlying64 : ∀ (w : Go.World), Go.Sem.run (cutP Go.Proofs.Tryd.prog) (Go.underlying 64) w = Go.Result.ok (Go.TypeDesc.func #[3] #[63] Bool.false) w := by intros; kernel_rfl
@[simp] theorem Trydp.runUnderlying65 : ∀ (w : Go.World), Go.Sem.run (cutP Go.Proofs.Tryd.prog) (Go.underlying 65) w = Go.Result.ok (Go.TypeDesc.array 8 3) w := by intros; kernel_rfl
@[simp] theorem Trydp.runUnderlying66 : ∀ (w : Go.World), Go.Sem.run (cutP Go.Proofs.Tryd.prog) (Go.underlying 66) w = Go.Result.ok (Go.TypeDesc.array 8 3) w := by intros; kernel_rfl
@[simp] theorem Trydp.runUnderlying67 : ∀ (w : Go.World), Go.Sem.run (cutP Go.Proofs.Tryd.prog) (Go.underlying 67) w = Go.Result.ok (Go.TypeDesc.func #[] #[26] Bool.false) w := by intros; kernel_rfl
@[simp] theorem Trydp.runUnderlying68 : ∀ (w : Go.World), Go.Sem.run (cutP Go.Proofs.Tryd.prog) (Go.underlying 68) w = Go.Result.ok (Go.TypeDesc.func #[26, 26] #[3] Bool.false) w := by intros; kernel_rfl
@[simp] theorem Trydp.runUnderlying69 : ∀ (w : Go.World), Go.Sem.run (cutP Go.Proofs.Tryd.prog) (Go.underlying 69) w = Go.Result.ok (Go.TypeDesc.func #[3] #[3] Bool.false) w := by intros; kernel_rfl
@[simp] theorem Trydp.runUnderlying7 : ∀ (w : Go.World), Go.Sem.run (cutP Go.Proofs.Tryd.prog) (Go.underlying 7) w = Go.Result.ok (Go.TypeDesc.struct #[{ name := "x", type := 2, offset := 0, embedded := Bool.false, tag := "", pkgPath := "runtime", byteOffset := 0 }, { name := "y", type := 3, offset := 1, embedded := Bool.false, tag := "", pkgPath := "runtime", byteOffset := 8 }, { name := "signed", type := 4, offset := 2, embedded := Bool.false, tag := "", pkgPath := "runtime", byteOffset := 16 }, { name := "code", type := 6, offset := 3, embedded := Bool.false, tag := "", pkgPath := "runtime", byteOffset := 17 }]) w := by intros; kernel_rfl
@[simp] theorem Trydp.runUnderlying70 : ∀ (w : Go.World), Go.Sem.run (cutP Go.Proofs.Tryd.prog) (Go.underlying 70) w = Go.Result.ok (Go.TypeDesc.func #[54, 3] #[26] Bool.false) w := by intros; kernel_rfl
@[simp] theorem Trydp.runUnderlying71 : ∀ (w : Go.World), Go.Sem.run (cutP Go.Proofs.Tryd.prog) (Go.underlying 71) w = Go.Result.ok (Go.TypeDesc.struct #[{ name := "b", type := 22, offset := 0, embedded := Bool.false, tag := "", pkgPath := "loop.example/setparts/spec", byteOffset := 0 }, { name := "p", type := 3, offset := 1, embedded := Bool.false, tag := "", pkgPath := "loop.example/setparts/spec", byteOffset := 24 }]) w := by intros; kernel_rfl
@[simp] theorem Trydp.runUnderlying72 : ∀ (w : Go.World), Go.Sem.run (cutP Go.Proofs.Tryd.prog) (Go.underlying 72) w = Go.Result.ok (Go.TypeDesc.struct #[{ name := "b", type := 22, offset := 0, embedded := Bool.false, tag := "", pkgPath := "loop.example/setparts/spec", byteOffset := 0 }, { name := "p", type := 3, offset := 1, embedded := Bool.false, tag := "", pkgPath := "loop.example/setparts/spec", byteOffset := 24 }]) w := by intros; kernel_rfl
@[simp] theorem Trydp.runUnderlying73 : ∀ (w : Go.World), Go.Sem.run (cutP Go.Proofs.Tryd.prog) (Go.underlying 73) w = Go.Result.ok (Go.TypeDesc.slice 84) w := by intros; kernel_rfl
@[simp] theorem Trydp.runUnderlying74 : ∀ (w : Go.World), Go.Sem.run (cutP Go.Proofs.Tryd.prog) (Go.underlying 74) w = Go.Result.ok (Go.TypeDesc.struct #[]) w := by intros; kernel_rfl
@[simp] theorem Trydp.runUnderlying75 : ∀ (w : Go.World), Go.Sem.run (cutP Go.Proofs.Tryd.prog) (Go.underlying 75) w = Go.Result.ok (Go.TypeDesc.struct #[]) w := by intros; kernel_rfl
@[simp] theorem Trydp.runUnderlying76 : ∀ (w : Go.World), Go.Sem.run (cutP Go.Proofs.Tryd.prog) (Go.underlying 76) w = Go.Result.ok (Go.TypeDesc.struct #[]) w := by intros; kernel_rfl
@[simp] theorem Trydp.runUnderlying77 : ∀ (w : Go.World), Go.Sem.run (cutP Go.Proofs.Tryd.prog) (Go.underlying 77) w = Go.Result.ok (Go.TypeDesc.struct #[]) w := by intros; kernel_rfl
@[simp] theorem Trydp.runUnderlying78 : ∀ (w : Go.World), Go.Sem.run (cutP Go.Proofs.Tryd.prog) (Go.underlying 78) w = Go.Result.ok (Go.TypeDesc.int Go.IntKind.u64) w := by intros; kernel_rfl
@[simp] theorem Trydp.runUnderlying79 : ∀ (w : Go.World), Go.Sem.run (cutP Go.Proofs.Tryd.prog) (Go.underlying 79) w = Go.Result.ok (Go.TypeDesc.struct #[{ name := "_", type := 76, offset := 0, embedded := Bool.false, tag := "", pkgPath := "sync/atomic", byteOffset := 0 }, { name := "_", type := 77, offset := 0, embedded := Bool.false, tag := "", pkgPath := "sync/atomic", byteOffset := 0 }, { name := "v", type := 78, offset := 0, embedded := Bool.false, tag := "", pkgPath := "sync/atomic", byteOffset := 0 }]) w := by intros; kernel_rfl
@[simp] theorem Trydp.runUnderlying8 : ∀ (w : Go.World), Go.Sem.run (cutP Go.Proofs.Tryd.prog) (Go.underlying 8) w = Go.Result.ok (Go.TypeDesc.struct #[{ name := "x", type := 2, offset := 0, embedded := Bool.false, tag := "", pkgPath := "runtime", byteOffset := 0 }, { name := "y", type := 3, offset := 1, embedded := Bool.false, tag := "", pkgPath := "runtime", byteOffset := 8 }, { name := "signed", type := 4, offset := 2, embedded := Bool.false, tag := "", pkgPath := "runtime", byteOffset := 16 }, { name := "code", type := 6, offset := 3, embedded := Bool.false, tag := "", pkgPath := "runtime", byteOffset := 17 }]) w := by intros; kernel_rfl
@[simp] theorem Trydp.runUnderlying80 : ∀ (w : Go.World), Go.Sem.run (cutP Go.Proofs.Tryd.prog) (Go.underlying 80) w = Go.Result.ok (Go.TypeDesc.struct #[{ name := "_", type := 76, offset := 0, embedded := Bool.false, tag := "", pkgPath := "sync/atomic", byteOffset := 0 }, { name := "_", type := 77, offset := 0, embedded := Bool.false, tag := "", pkgPath := "sync/atomic", byteOffset := 0 }, { name := "v", type := 78, offset := 0, embedded := Bool.false, tag := "", pkgPath := "sync/atomic", byteOffset := 0 }]) w := by intros; kernel_rfl
@[simp] theorem Trydp.runUnderlying81 : ∀ (w : Go.World), Go.Sem.run (cutP Go.Proofs.Tryd.prog) (Go.underlying 81) w = Go.Result.ok (Go.TypeDesc.int Go.IntKind.u32) w := by intros; kernel_rfl
@[simp] theorem Trydp.runUnderlying82 : ∀ (w : Go.World), Go.Sem.run (cutP Go.Proofs.Tryd.prog) (Go.underlying 82) w = Go.Result.ok (Go.TypeDesc.struct #[{ name := "noCopy", type := 75, offset := 0, embedded := Bool.false, tag := "", pkgPath := "sync", byteOffset := 0 }, { name := "state", type := 80, offset := 0, embedded := Bool.false, tag := "", pkgPath := "sync", byteOffset := 0 }, { name := "sema", type := 81, offset := 1, embedded := Bool.false, tag := "", pkgPath := "sync", byteOffset := 8 }]) w := by intros; kernel_rfl
@[simp] theorem Trydp.runUnderlying83 : ∀ (w : Go.World), Go.Sem.run (cutP Go.Proofs.Tryd.prog) (Go.underlying 83) w = Go.Result.ok (Go.TypeDesc.struct #[{ name := "noCopy", type := 75, offset := 0, embedded := Bool.false, tag := "", pkgPath := "sync", byteOffset := 0 }, { name := "state", type := 80, offset := 0, embedded := Bool.false, tag := "", pkgPath := "sync", byteOffset := 0 }, { name := "sema", type := 81, offset := 1, embedded := Bool.false, tag := "", pkgPath := "sync", byteOffset := 8 }]) w := by intros; kernel_rfl
@[simp] theorem Trydp.runUnderlying84 : ∀ (w : Go.World), Go.Sem.run (cutP Go.Proofs.Tryd.prog) (Go.underlying 84) w = Go.Result.ok (Go.TypeDesc.chan Go.ChanDir.both 3) w := by intros; kernel_rfl
@[simp] theorem Trydp.runUnderlying85 : ∀ (w : Go.World), Go.Sem.run (cutP Go.Proofs.Tryd.prog) (Go.underlying 85) w = Go.Result.ok (Go.TypeDesc.func #[3] #[] Bool.false) w := by intros; kernel_rfl
@[simp] theorem Trydp.runUnderlying86 : ∀ (w : Go.World), Go.Sem.run (cutP Go.Proofs.Tryd.prog) (Go.underlying 86) w = Go.Result.ok (Go.TypeDesc.func #[81] #[3] Bool.false) w := by intros; kernel_rfl
@[simp] theorem Trydp.runUnderlying87 : ∀ (w : Go.World), Go.Sem.run (cutP Go.Proofs.Tryd.prog) (Go.underlying 87) w = Go.Result.ok (Go.TypeDesc.func #[78] #[3] Bool.false) w := by intros; kernel_rfl
@[simp] theorem Trydp.runUnderlying88 : ∀ (w : Go.World), Go.Sem.run (cutP Go.Proofs.Tryd.prog) (Go.underlying 88) w = Go.Result.ok (Go.TypeDesc.func #[66] #[4] Bool.false) w := by intros; kernel_rfl
@[simp] theorem Trydp.runUnderlying89 : ∀ (w : Go.World), Go.Sem.run (cutP Go.Proofs.Tryd.prog) (Go.underlying 89) w = Go.Result.ok (Go.TypeDesc.func #[3] #[66] Bool.false) w := by intros; kernel_rfl
@[simp] theorem Trydp.runUnderlying9 : ∀ (w : Go.World), Go.Sem.run (cutP Go.Proofs.Tryd.prog) (Go.underlying 9) w = Go.Result.ok Go.TypeDesc.string w := by intros; kernel_rfl
@[simp] theorem Trydp.runUnderlying90 : ∀ (w : Go.World), Go.Sem.run (cutP Go.Proofs.Tryd.prog) (Go.underlying 90) w = Go.Result.ok (Go.TypeDesc.tuple #[66, 4]) w := by intros; kernel_rfl
@[simp] theorem Trydp.runUnderlying91 : ∀ (w : Go.World), Go.Sem.run (cutP Go.Proofs.Tryd.prog) (Go.underlying 91) w = Go.Result.ok (Go.TypeDesc.func #[] #[66, 4] Bool.false) w := by intros; kernel_rfl
@[simp] theorem Trydp.runUnderlying92 : ∀ (w : Go.World), Go.Sem.run (cutP Go.Proofs.Tryd.prog) (Go.underlying 92) w = Go.Result.ok (Go.TypeDesc.func #[] #[3] Bool.false) w := by intros; kernel_rfl
@[simp] theorem Trydp.runUnderlying93 : ∀ (w : Go.World), Go.Sem.run (cutP Go.Proofs.Tryd.prog) (Go.underlying 93) w = Go.Result.ok (Go.TypeDesc.func #[26, 26, 3, 3] #[4] Bool.false) w := by intros; kernel_rfl
@[simp] theorem Trydp.runUnderlying94 : ∀ (w : Go.World), Go.Sem.run (cutP Go.Proofs.Tryd.prog) (Go.underlying 94) w = Go.Result.ok (Go.TypeDesc.pointer 83) w := by intros; kernel_rfl
@[simp] theorem Trydp.runUnderlying95 : ∀ (w : Go.World), Go.Sem.run (cutP Go.Proofs.Tryd.prog) (Go.underlying 95) w = Go.Result.ok (Go.TypeDesc.func #[96] #[] Bool.false) w := by intros; kernel_rfl
@[simp] theorem Trydp.runUnderlying96 : ∀ (w : Go.World), Go.Sem.run (cutP Go.Proofs.Tryd.prog) (Go.underlying 96) w = Go.Result.ok Go.TypeDesc.unsafePointer w := by intros; kernel_rfl
@[simp] theorem Trydp.runUnderlying97 : ∀ (w : Go.World), Go.Sem.run (cutP Go.Proofs.Tryd.prog) (Go.underlying 97) w = Go.Result.ok (Go.TypeDesc.func #[] #[4] Bool.false) w := by intros; kernel_rfl
@[simp] theorem Trydp.runUnderlying98 : ∀ (w : Go.World), Go.Sem.run (cutP Go.Proofs.Tryd.prog) (Go.underlying 98) w = Go.Result.ok (Go.TypeDesc.int Go.IntKind.i64) w := by intros; kernel_rfl
@[simp] theorem Trydp.runUnderlying99 : ∀ (w : Go.World), Go.Sem.run (cutP Go.Proofs.Tryd.prog) (Go.underlying 99) w = Go.Result.ok (Go.TypeDesc.func #[94] #[98] Bool.false) w := by intros; kernel_rfl
@[simp] theorem Trydp.sizeOf0 : ∀ (w : Go.World), Go.Sem.run (cutP Go.Proofs.Tryd.prog) (Go.sizeOf 0) w = Go.Result.ok 1 w := by intros; kernel_rfl
@[simp] theorem Trydp.sizeOf1 : ∀ (w : Go.World), Go.Sem.run (cutP Go.Proofs.Tryd.prog) (Go.sizeOf 1) w = Go.Result.ok 1 w := by intros; kernel_rfl
@[simp] theorem Trydp.sizeOf10 : ∀ (w : Go.World), Go.Sem.run (cutP Go.Proofs.Tryd.prog) (Go.sizeOf 10) w = Go.Result.ok 1 w := by intros; kernel_rfl
@[simp] theorem Trydp.sizeOf100 : ∀ (w : Go.World), Go.Sem.run (cutP Go.Proofs.Tryd.prog) (Go.sizeOf 100) w = Go.Result.ok 1 w := by intros; kernel_rfl
@[simp] theorem Trydp.sizeOf101 : ∀ (w : Go.World), Go.Sem.run (cutP Go.Proofs.Tryd.prog) (Go.sizeOf 101) w = Go.Result.ok 1 w := by intros; kernel_rfl
@[simp] theorem Trydp.sizeOf102 : ∀ (w : Go.World), Go.Sem.run (cutP Go.Proofs.Tryd.prog) (Go.sizeOf 102) w = Go.Result.ok 1 w := by intros; kernel_rfl
@[simp] theorem Trydp.sizeOf103 : ∀ (w : Go.World), Go.Sem.run (cutP Go.Proofs.Tryd.prog) (Go.sizeOf 103) w = Go.Result.ok 1 w := by intros; kernel_rfl
@[simp] theorem Trydp.sizeOf104 : ∀ (w : Go.World), Go.Sem.run (cutP Go.Proofs.Tryd.prog) (Go.sizeOf 104) w = Go.Result.ok 1 w := by intros; kernel_rfl
@[simp] theorem Trydp.sizeOf105 : ∀ (w : Go.World), Go.Sem.run (cutP Go.Proofs.Tryd.prog) (Go.sizeOf 105) w = Go.Result.ok 1 w := by intros; kernel_rfl
@[simp] theorem Trydp.sizeOf106 : ∀ (w : Go.World), Go.Sem.run (cutP Go.Proofs.Tryd.prog) (Go.sizeOf 106) w = Go.Result.ok 1 w := by intros; kernel_rfl
@[simp] theorem Trydp.sizeOf107 : ∀ (w : Go.World), Go.Sem.run (cutP Go.Proofs.Tryd.prog) (Go.sizeOf 107) w = Go.Result.ok 1 w := by intros; kernel_rfl
@[simp] theorem Trydp.sizeOf108 : ∀ (w : Go.World), Go.Sem.run (cutP Go.Proofs.Tryd.prog) (Go.sizeOf 108) w = Go.Result.ok 1 w := by intros; kernel_rfl
@[simp] theorem Trydp.sizeOf109 : ∀ (w : Go.World), Go.Sem.run (cutP Go.Proofs.Tryd.prog) (Go.sizeOf 109) w = Go.Result.ok 1 w := by intros; kernel_rfl
@[simp] theorem Trydp.sizeOf11 : ∀ (w : Go.World), Go.Sem.run (cutP Go.Proofs.Tryd.prog) (Go.sizeOf 11) w = Go.Result.ok 1 w := by intros; kernel_rfl
@[simp] theorem Trydp.sizeOf110 : ∀ (w : Go.World), Go.Sem.run (cutP Go.Proofs.Tryd.prog) (Go.sizeOf 110) w = Go.Result.ok 32 w := by intros; kernel_rfl
@[simp] theorem Trydp.sizeOf111 : ∀ (w : Go.World), Go.Sem.run (cutP Go.Proofs.Tryd.prog) (Go.sizeOf 111) w = Go.Result.ok 64 w := by intros; kernel_rfl
@[simp] theorem Trydp.sizeOf112 : ∀ (w : Go.World), Go.Sem.run (cutP Go.Proofs.Tryd.prog) (Go.sizeOf 112) w = Go.Result.ok 1 w := by intros; kernel_rfl
@[simp] theorem Trydp.sizeOf113 : ∀ (w : Go.World), Go.Sem.run (cutP Go.Proofs.Tryd.prog) (Go.sizeOf 113) w = Go.Result.ok 1 w := by intros; kernel_rfl
@[simp] theorem Trydp.sizeOf114 : ∀ (w : Go.World), Go.Sem.run (cutP Go.Proofs.Tryd.prog) (Go.sizeOf 114) w = Go.Result.ok 1 w := by intros; kernel_rfl
@[simp] theorem Trydp.sizeOf115 : ∀ (w : Go.World), Go.Sem.run (cutP Go.Proofs.Tryd.prog) (Go.sizeOf 115) w = Go.Result.ok 1 w := by intros; kernel_rfl
@[simp] theorem Trydp.sizeOf116 : ∀ (w : Go.World), Go.Sem.run (cutP Go.Proofs.Tryd.prog) (Go.sizeOf 116) w = Go.Result.ok 1 w := by intros; kernel_rfl
@[simp] theorem Trydp.sizeOf117 : ∀ (w : Go.World), Go.Sem.run (cutP Go.Proofs.Tryd.prog) (Go.sizeOf 117) w = Go.Result.ok 1 w := by intros; kernel_rfl
@[simp] theorem Trydp.sizeOf118 : ∀ (w : Go.World), Go.Sem.run (cutP Go.Proofs.Tryd.prog) (Go.sizeOf 118) w = Go.Result.ok 1 w := by intros; kernel_rfl
@[simp] theorem Trydp.sizeOf119 : ∀ (w : Go.World), Go.Sem.run (cutP Go.Proofs.Tryd.prog) (Go.sizeOf 119) w = Go.Result.ok 1 w := by intros; kernel_rfl
@[simp] theorem Trydp.sizeOf12 : ∀ (w : Go.World), Go.Sem.run (cutP Go.Proofs.Tryd.prog) (Go.sizeOf 12) w = Go.Result.ok 1 w := by intros; kernel_rfl
@[simp] theorem Trydp.sizeOf120 : ∀ (w : Go.World), Go.Sem.run (cutP Go.Proofs.Tryd.prog) (Go.sizeOf 120) w = Go.Result.ok 4 w := by intros; kernel_rfl
@[simp] theorem Trydp.sizeOf121 : ∀ (w : Go.World), Go.Sem.run (cutP Go.Proofs.Tryd.prog) (Go.sizeOf 121) w = Go.Result.ok 4 w := by intros; kernel_rfl
@[simp] theorem Trydp.sizeOf122 : ∀ (w : Go.World), Go.Sem.run (cutP Go.Proofs.Tryd.prog) (Go.sizeOf 122) w = Go.Result.ok 0 w := by intros; kernel_rfl
@[simp] theorem Trydp.sizeOf123 : ∀ (w : Go.World), Go.Sem.run (cutP Go.Proofs.Tryd.prog) (Go.sizeOf 123) w = Go.Result.ok 0 w := by intros; kernel_rfl
@[simp] theorem Trydp.sizeOf124 : ∀ (w : Go.World), Go.Sem.run (cutP Go.Proofs.Tryd.prog) (Go.sizeOf 124) w = Go.Result.ok 0 w := by intros; kernel_rfl
@[simp] theorem Trydp.sizeOf125 : ∀ (w : Go.World), Go.Sem.run (cutP Go.Proofs.Tryd.prog) (Go.sizeOf 125) w = Go.Result.ok 1 w := by intros; kernel_rfl
@[simp] theorem Trydp.sizeOf126 : ∀ (w : Go.World), Go.Sem.run (cutP Go.Proofs.Tryd.prog) (Go.sizeOf 126) w = Go.Result.ok 1 w := by intros; kernel_rfl
@[simp] theorem Trydp.sizeOf127 : ∀ (w : Go.World), Go.Sem.run (cutP Go.Proofs.Tryd.prog) (Go.sizeOf 127) w = Go.Result.ok 1 w := by intros; kernel_rfl
@[simp] theorem Trydp.sizeOf128 : ∀ (w : Go.World), Go.Sem.run (cutP Go.Proofs.Tryd.prog) (Go.sizeOf 128) w = Go.Result.ok 1 w := by intros; kernel_rfl
@[simp] theorem Trydp.sizeOf129 : ∀ (w : Go.World), Go.Sem.run (cutP Go.Proofs.Tryd.prog) (Go.sizeOf 129) w = Go.Result.ok 1 w := by intros; kernel_rfl
@[simp] theorem Trydp.sizeOf13 : ∀ (w : Go.World), Go.Sem.run (cutP Go.Proofs.Tryd.prog) (Go.sizeOf 13) w = Go.Result.ok 2 w := by intros; kernel_rfl
@[simp] theorem Trydp.sizeOf130 : ∀ (w : Go.World), Go.Sem.run (cutP Go.Proofs.Tryd.prog) (Go.sizeOf 130) w = Go.Result.ok 1 w := by intros; kernel_rfl
@[simp] theorem Trydp.sizeOf131 : ∀ (w : Go.World), Go.Sem.run (cutP Go.Proofs.Tryd.prog) (Go.sizeOf 131) w = Go.Result.ok 11 w := by intros; kernel_rfl
@[simp] theorem Trydp.sizeOf132 : ∀ (w : Go.World), Go.Sem.run (cutP Go.Proofs.Tryd.prog) (Go.sizeOf 132) w = Go.Result.ok 11 w := by intros; kernel_rfl
@[simp] theorem Trydp.sizeOf14 : ∀ (w : Go.World), Go.Sem.run (cutP Go.Proofs.Tryd.prog) (Go.sizeOf 14) w = Go.Result.ok 2 w := by intros; kernel_rfl
@[simp] theorem Trydp.sizeOf15 : ∀ (w : Go.World), Go.Sem.run (cutP Go.Proofs.Tryd.prog) (Go.sizeOf 15) w = Go.Result.ok 1 w := by intros; kernel_rfl
@[simp] theorem Trydp.sizeOf16 : ∀ (w : Go.World), Go.Sem.run (cutP Go.Proofs.Tryd.prog) (Go.sizeOf 16) w = Go.Result.ok 1 w := by intros; kernel_rfl
@[simp] theorem Trydp.sizeOf17 : ∀ (w : Go.World), Go.Sem.run (cutP Go.Proofs.Tryd.prog) (Go.sizeOf 17) w = Go.Result.ok 1 w := by intros; kernel_rfl
@[simp] theorem Trydp.sizeOf18 : ∀ (w : Go.World), Go.Sem.run (cutP Go.Proofs.Tryd.prog) (Go.sizeOf 18) w = Go.Result.ok 1 w := by intros; kernel_rfl
@[simp] theorem Trydp.sizeOf19 : ∀ (w : Go.World), Go.Sem.run (cutP Go.Proofs.Tryd.prog) (Go.sizeOf 19) w = Go.Result.ok 1 w := by intros; kernel_rfl
@[simp] theorem Trydp.sizeOf2 : ∀ (w : Go.World), Go.Sem.run (cutP Go.Proofs.Tryd.prog) (Go.sizeOf 2) w = Go.Result.ok 1 w := by intros; kernel_rfl
@[simp] theorem Trydp.sizeOf20 : ∀ (w : Go.World), Go.Sem.run (cutP Go.Proofs.Tryd.prog) (Go.sizeOf 20) w = Go.Result.ok 1 w := by intros; kernel_rfl
@[simp] theorem Trydp.sizeOf21 : ∀ (w : Go.World), Go.Sem.run (cutP Go.Proofs.Tryd.prog) (Go.sizeOf 21) w = Go.Result.ok 1 w := by intros; kernel_rfl
@[simp] theorem Trydp.sizeOf22 : ∀ (w : Go.World), Go.Sem.run (cutP Go.Proofs.Tryd.prog) (Go.sizeOf 22) w = Go.Result.ok 1 w := by intros; kernel_rfl
@[simp] theorem Trydp.sizeOf23 : ∀ (w : Go.World), Go.Sem.run (cutP Go.Proofs.Tryd.prog) (Go.sizeOf 23) w = Go.Result.ok 1 w := by intros; kernel_rfl
@[simp] theorem Trydp.sizeOf24 : ∀ (w : Go.World), Go.Sem.run (cutP Go.Proofs.Tryd.prog) (Go.sizeOf 24) w = Go.Result.ok 1 w := by intros; kernel_rfl
@[simp] theorem Trydp.sizeOf25 : ∀ (w : Go.World), Go.Sem.run (cutP Go.Proofs.Tryd.prog) (Go.sizeOf 25) w = Go.Result.ok 1 w := by intros; kernel_rfl
@[simp] theorem Trydp.sizeOf26 : ∀ (w : Go.World), Go.Sem.run (cutP Go.Proofs.Tryd.prog) (Go.sizeOf 26) w = Go.Result.ok 1 w := by intros; kernel_rfl
@[simp] theorem Trydp.sizeOf27 : ∀ (w : Go.World), Go.Sem.run (cutP Go.Proofs.Tryd.prog) (Go.sizeOf 27) w = Go.Result.ok 1 w := by intros; kernel_rfl
@[simp] theorem Trydp.sizeOf28 : ∀ (w : Go.World), Go.Sem.run (cutP Go.Proofs.Tryd.prog) (Go.sizeOf 28) w = Go.Result.ok 1 w := by intros; kernel_rfl
@[simp] theorem Trydp.sizeOf29 : ∀ (w : Go.World), Go.Sem.run (cutP Go.Proofs.Tryd.prog) (Go.sizeOf 29) w = Go.Result.ok 1 w := by intros; kernel_rfl
@[simp] theorem Trydp.sizeOf3 : ∀ (w : Go.World), Go.Sem.run (cutP Go.Proofs.Tryd.prog) (Go.sizeOf 3) w = Go.Result.ok 1 w := by intros; kernel_rfl
@[simp] theorem Trydp.sizeOf30 : ∀ (w : Go.World), Go.Sem.run (cutP Go.Proofs.Tryd.prog) (Go.sizeOf 30) w = Go.Result.ok 1 w := by intros; kernel_rfl
@[simp] theorem Trydp.sizeOf31 : ∀ (w : Go.World), Go.Sem.run (cutP Go.Proofs.Tryd.prog) (Go.sizeOf 31) w = Go.Result.ok 1 w := by intros; kernel_rfl
@[simp] theorem Trydp.sizeOf32 : ∀ (w : Go.World), Go.Sem.run (cutP Go.Proofs.Tryd.prog) (Go.sizeOf 32) w = Go.Result.ok 1 w := by intros; kernel_rfl
@[simp] theorem Trydp.sizeOf33 : ∀ (w : Go.World), Go.Sem.run (cutP Go.Proofs.Tryd.prog) (Go.sizeOf 33) w = Go.Result.ok 1 w := by intros; kernel_rfl
@[simp] theorem Trydp.sizeOf34 : ∀ (w : Go.World), Go.Sem.run (cutP Go.Proofs.Tryd.prog) (Go.sizeOf 34) w = Go.Result.ok 1 w := by intros; kernel_rfl
@[simp] theorem Trydp.sizeOf35 : ∀ (w : Go.World), Go.Sem.run (cutP Go.Proofs.Tryd.prog) (Go.sizeOf 35) w = Go.Result.ok 1 w := by intros; kernel_rfl
@[simp] theorem Trydp.sizeOf36 : ∀ (w : Go.World), Go.Sem.run (cutP Go.Proofs.Tryd.prog) (Go.sizeOf 36) w = Go.Result.ok 1 w := by intros; kernel_rfl
@[simp] theorem Trydp.sizeOf37 : ∀ (w : Go.World), Go.Sem.run (cutP Go.Proofs.Tryd.prog) (Go.sizeOf 37) w = Go.Result.ok 1 w := by intros; kernel_rfl
@[simp] theorem Trydp.sizeOf38 : ∀ (w : Go.World), Go.Sem.run (cutP Go.Proofs.Tryd.prog) (Go.sizeOf 38) w = Go.Result.ok 1 w := by intros; kernel_rfl
@[simp] theorem Trydp.sizeOf39 : ∀ (w : Go.World), Go.Sem.run (cutP Go.Proofs.Tryd.prog) (Go.sizeOf 39) w = Go.Result.ok 1 w := by intros; kernel_rfl
@[simp] theorem Trydp.sizeOf4 : ∀ (w : Go.World), Go.Sem.run (cutP Go.Proofs.Tryd.prog) (Go.sizeOf 4) w = Go.Result.ok 1 w := by intros; kernel_rfl
@[simp] theorem Trydp.sizeOf40 : ∀ (w : Go.World), Go.Sem.run (cutP Go.Proofs.Tryd.prog) (Go.sizeOf 40) w = Go.Result.ok 1 w := by intros; kernel_rfl
@[simp] theorem Trydp.sizeOf41 : ∀ (w : Go.World), Go.Sem.run (cutP Go.Proofs.Tryd.prog) (Go.sizeOf 41) w = Go.Result.ok 1 w := by intros; kernel_rfl
@[simp] theorem Trydp.sizeOf42 : ∀ (w : Go.World), Go.Sem.run (cutP Go.Proofs.Tryd.prog) (Go.sizeOf 42) w = Go.Result.ok 1 w := by intros; kernel_rfl
@[simp] theorem Trydp.sizeOf43 : ∀ (w : Go.World), Go.Sem.run (cutP Go.Proofs.Tryd.prog) (Go.sizeOf 43) w = Go.Result.ok 1 w := by intros; kernel_rfl
@[simp] theorem Trydp.sizeOf44 : ∀ (w : Go.World), Go.Sem.run (cutP Go.Proofs.Tryd.prog) (Go.sizeOf 44) w = Go.Result.ok 1 w := by intros; kernel_rfl
@[simp] theorem Trydp.sizeOf45 : ∀ (w : Go.World), Go.Sem.run (cutP Go.Proofs.Tryd.prog) (Go.sizeOf 45) w = Go.Result.ok 1 w := by intros; kernel_rfl
@[simp] theorem Trydp.sizeOf46 : ∀ (w : Go.World), Go.Sem.run (cutP Go.Proofs.Tryd.prog) (Go.sizeOf 46) w = Go.Result.ok 1 w := by intros; kernel_rfl
@[simp] theorem Trydp.sizeOf47 : ∀ (w : Go.World), Go.Sem.run (cutP Go.Proofs.Tryd.prog) (Go.sizeOf 47) w = Go.Result.ok 1 w := by intros; kernel_rfl
@[simp] theorem Trydp.sizeOf48 : ∀ (w : Go.World), Go.Sem.run (cutP Go.Proofs.Tryd.prog) (Go.sizeOf 48) w = Go.Result.ok 1 w := by intros; kernel_rfl
@[simp] theorem Trydp.sizeOf49 : ∀ (w : Go.World), Go.Sem.run (cutP Go.Proofs.Tryd.prog) (Go.sizeOf 49) w = Go.Result.ok 1 w := by intros; kernel_rfl
@[simp] theorem Trydp.sizeOf5 : ∀ (w : Go.World), Go.Sem.run (cutP Go.Proofs.Tryd.prog) (Go.sizeOf 5) w = Go.Result.ok 1 w := by intros; kernel_rfl
@[simp] theorem Trydp.sizeOf50 : ∀ (w : Go.World), Go.Sem.run (cutP Go.Proofs.Tryd.prog) (Go.sizeOf 50) w = Go.Result.ok 1 w := by intros; kernel_rfl
@[simp] theorem Trydp.sizeOf51 : ∀ (w : Go.World), Go.Sem.run (cutP Go.Proofs.Tryd.prog) (Go.sizeOf 51) w = Go.Result.ok 1 w := by intros; kernel_rfl
@[simp] theorem Trydp.sizeOf52 : ∀ (w : Go.World), Go.Sem.run (cutP Go.Proofs.Tryd.prog) (Go.sizeOf 52) w = Go.Result.ok 1 w := by intros; kernel_rfl
@[simp] theorem Trydp.sizeOf53 : ∀ (w : Go.World), Go.Sem.run (cutP Go.Proofs.Tryd.prog) (Go.sizeOf 53) w = Go.Result.ok 1 w := by intros; kernel_rfl
@[simp] theorem Trydp.sizeOf54 : ∀ (w : Go.World), Go.Sem.run (cutP Go.Proofs.Tryd.prog) (Go.sizeOf 54) w = Go.Result.ok 1 w := by intros; kernel_rfl
@[simp] theorem Trydp.sizeOf55 : ∀ (w : Go.World), Go.Sem.run (cutP Go.Proofs.Tryd.prog) (Go.sizeOf 55) w = Go.Result.ok 1 w := by intros; kernel_rfl
@[simp] theorem Trydp.sizeOf56 : ∀ (w : Go.World), Go.Sem.run (cutP Go.Proofs.Tryd.prog) (Go.sizeOf 56) w = Go.Result.ok 1 w := by intros; kernel_rfl
@[simp] theorem Trydp.sizeOf57 : ∀ (w : Go.World), Go.Sem.run (cutP Go.Proofs.Tryd.prog) (Go.sizeOf 57) w = Go.Result.ok 1 w := by intros; kernel_rfl
@[simp] theorem Trydp.sizeOf58 : ∀ (w : Go.World), Go.Sem.run (cutP Go.Proofs.Tryd.prog) (Go.sizeOf 58) w = Go.Result.ok 1 w := by intros; kernel_rfl
@[simp] theorem Trydp.sizeOf59 : ∀ (w : Go.World), Go.Sem.run (cutP Go.Proofs.Tryd.prog) (Go.sizeOf 59) w = Go.Result.ok 1 w := by intros; kernel_rfl
@[simp] theorem Trydp.sizeOf6 : ∀ (w : Go.World), Go.Sem.run (cutP Go.Proofs.Tryd.prog) (Go.sizeOf 6) w = Go.Result.ok 1 w := by intros; kernel_rfl
@[simp] theorem Trydp.sizeOf60 : ∀ (w : Go.World), Go.Sem.run (cutP Go.Proofs.Tryd.prog) (Go.sizeOf 60) w = Go.Result.ok 1 w := by intros; kernel_rfl
@[simp] theorem Trydp.sizeOf61 : ∀ (w : Go.World), Go.Sem.run (cutP Go.Proofs.Tryd.prog) (Go.sizeOf 61) w = Go.Result.ok 1 w := by intros; kernel_rfl
@[simp] theorem Trydp.sizeOf62 : ∀ (w : Go.World), Go.Sem.run (cutP Go.Proofs.Tryd.prog) (Go.sizeOf 62) w = Go.Result.ok 1 w := by intros; kernel_rfl
@[simp] theorem Trydp.sizeOf63 : ∀ (w : Go.World), Go.Sem.run (cutP Go.Proofs.Tryd.prog) (Go.sizeOf 63) w = Go.Result.ok 1 w := by intros; kernel_rfl
@[simp] theorem Trydp.sizeOf64 : ∀ (w : Go.World), Go.Sem.run (cutP Go.Proofs.Tryd.prog) (Go.sizeOf 64) w = Go.Result.ok 1 w := by intros; kernel_rfl
@[simp] theorem Trydp.sizeOf65 : ∀ (w : Go.World), Go.Sem.run (cutP Go.Proofs.Tryd.prog) (Go.sizeOf 65) w = Go.Result.ok 8 w := by intros; kernel_rfl
@[simp] theorem Trydp.sizeOf66 : ∀ (w : Go.World), Go.Sem.run (cutP Go.Proofs.Tryd.prog) (Go.sizeOf 66) w = Go.Result.ok 8 w := by intros; kernel_rfl
@[simp] theorem Trydp.sizeOf67 : ∀ (w : Go.World), Go.Sem.run (cutP Go.Proofs.Tryd.prog) (Go.sizeOf 67) w = Go.Result.ok 1 w := by intros; kernel_rfl
@[simp] theorem Trydp.sizeOf68 : ∀ (w : Go.World), Go.Sem.run (cutP Go.Proofs.Tryd.prog) (Go.sizeOf 68) w = Go.Result.ok 1 w := by intros; kernel_rfl
@[simp] theorem Trydp.sizeOf69 : ∀ (w : Go.World), Go.Sem.run (cutP Go.Proofs.Tryd.prog) (Go.sizeOf 69) w = Go.Result.ok 1 w := by intros; kernel_rfl
@[simp] theorem Trydp.sizeOf7 : ∀ (w : Go.World), Go.Sem.run (cutP Go.Proofs.Tryd.prog) (Go.sizeOf 7) w = Go.Result.ok 4 w := by intros; kernel_rfl
@[simp] theorem Trydp.sizeOf70 : ∀ (w : Go.World), Go.Sem.run (cutP Go.Proofs.Tryd.prog) (Go.sizeOf 70) w = Go.Result.ok 1 w := by intros; kernel_rfl
@[simp] theorem Trydp.sizeOf71 : ∀ (w : Go.World), Go.Sem.run (cutP Go.Proofs.Tryd.prog) (Go.sizeOf 71) w = Go.Result.ok 2 w := by intros; kernel_rfl
@[simp] theorem Trydp.sizeOf72 : ∀ (w : Go.World), Go.Sem.run (cutP Go.Proofs.Tryd.prog) (Go.sizeOf 72) w = Go.Result.ok 2 w := by intros; kernel_rfl
@[simp] theorem Trydp.sizeOf73 : ∀ (w : Go.World), Go.Sem.run (cutP Go.Proofs.Tryd.prog) (Go.sizeOf 73) w = Go.Result.ok 1 w := by intros; kernel_rfl
@[simp] theorem Trydp.sizeOf74 : ∀ (w : Go.World), Go.Sem.run (cutP Go.Proofs.Tryd.prog) (Go.sizeOf 74) w = Go.Result.ok 0 w := by intros; kernel_rfl
@[simp] theorem Trydp.sizeOf75 : ∀ (w : Go.World), Go.Sem.run (cutP Go.Proofs.Tryd.prog) (Go.sizeOf 75) w = Go.Result.ok 0 w := by intros; kernel_rfl
@[simp] theorem Trydp.sizeOf76 : ∀ (w : Go.World), Go.Sem.run (cutP Go.Proofs.Tryd.prog) (Go.sizeOf 76) w = Go.Result.ok 0 w := by intros; kernel_rfl
@[simp] theorem Trydp.sizeOf77 : ∀ (w : Go.World), Go.Sem.run (cutP Go.Proofs.Tryd.prog) (Go.sizeOf 77) w = Go.Result.ok 0 w := by intros; kernel_rfl
@[simp] theorem Trydp.sizeOf78 : ∀ (w : Go.World), Go.Sem.run (cutP Go.Proofs.Tryd.prog) (Go.sizeOf 78) w = Go.Result.ok 1 w := by intros; kernel_rfl
@[simp] theorem Trydp.sizeOf79 : ∀ (w : Go.World), Go.Sem.run (cutP Go.Proofs.Tryd.prog) (Go.sizeOf 79) w = Go.Result.ok 1 w := by intros; kernel_rfl
@[simp] theorem Trydp.sizeOf8 : ∀ (w : Go.World), Go.Sem.run (cutP Go.Proofs.Tryd.prog) (Go.sizeOf 8) w = Go.Result.ok 4 w := by intros; kernel_rfl
@[simp] theorem Trydp.sizeOf80 : ∀ (w : Go.World), Go.Sem.run (cutP Go.Proofs.Tryd.prog) (Go.sizeOf 80) w = Go.Result.ok 1 w := by intros; kernel_rfl
@[simp] theorem Trydp.sizeOf81 : ∀ (w : Go.World), Go.Sem.run (cutP Go.Proofs.Tryd.prog) (Go.sizeOf 81) w = Go.Result.ok 1 w := by intros; kernel_rfl
@[simp] theorem Trydp.sizeOf82 : ∀ (w : Go.World), Go.Sem.run (cutP Go.Proofs.Tryd.prog) (Go.sizeOf 82) w = Go.Result.ok 2 w := by intros; kernel_rfl
@[simp] theorem Trydp.sizeOf83 : ∀ (w : Go.World), Go.Sem.run (cutP Go.Proofs.Tryd.prog) (Go.sizeOf 83) w = Go.Result.ok 2 w := by intros; kernel_rfl
@[simp] theorem Trydp.sizeOf84 : ∀ (w : Go.World), Go.Sem.run (cutP Go.Proofs.Tryd.prog) (Go.sizeOf 84) w = Go.Result.ok 1 w := by intros; kernel_rfl
@[simp] theorem Trydp.sizeOf85 : ∀ (w : Go.World), Go.Sem.run (cutP Go.Proofs.Tryd.prog) (Go.sizeOf 85) w = Go.Result.ok 1 w := by intros; kernel_rfl
@[simp] theorem Trydp.sizeOf86 : ∀ (w : Go.World), Go.Sem.run (cutP Go.Proofs.Tryd.prog) (Go.sizeOf 86) w = Go.Result.ok 1 w := by intros; kernel_rfl
@[simp] theorem Trydp.sizeOf87 : ∀ (w : Go.World), Go.Sem.run (cutP Go.Proofs.Tryd.prog) (Go.sizeOf 87) w = Go.Result.ok 1 w := by intros; kernel_rfl
@[simp] theorem Trydp.sizeOf88 : ∀ (w : Go.World), Go.Sem.run (cutP Go.Proofs.Tryd.prog) (Go.sizeOf 88) w = Go.Result.ok 1 w := by intros; kernel_rfl
@[simp] theorem Trydp.sizeOf89 : ∀ (w : Go.World), Go.Sem.run (cutP Go.Proofs.Tryd.prog) (Go.sizeOf 89) w = Go.Result.ok 1 w := by intros; kernel_rfl
@[simp] theorem Trydp.sizeOf9 : ∀ (w : Go.World), Go.Sem.run (cutP Go.Proofs.Tryd.prog) (Go.sizeOf 9) w = Go.Result.ok 1 w := by intros; kernel_rfl
@[simp] theorem Trydp.sizeOf90 : ∀ (w : Go.World), Go.Sem.run (cutP Go.Proofs.Tryd.prog) (Go.sizeOf 90) w = Go.Result.ok 1 w := by intros; kernel_rfl
@[simp] theorem Trydp.sizeOf91 : ∀ (w : Go.World), Go.Sem.run (cutP Go.Proofs.Tryd.prog) (Go.sizeOf 91) w = Go.Result.ok 1 w := by intros; kernel_rfl
@[simp] theorem Trydp.sizeOf92 : ∀ (w : Go.World), Go.Sem.run (cutP Go.Proofs.Tryd.prog) (Go.sizeOf 92) w = Go.Result.ok 1 w := by intros; kernel_rfl
@[simp] theorem Trydp.sizeOf93 : ∀ (w : Go.World), Go.Sem.run (cutP Go.Proofs.Tryd.prog) (Go.sizeOf 93) w = Go.Result.ok 1 w := by intros; kernel_rfl
@[simp] theorem Trydp.sizeOf94 : ∀ (w : Go.World), Go.Sem.run (cutP Go.Proofs.Tryd.prog) (Go.sizeOf 94) w = Go.Result.ok 1 w := by intros; kernel_rfl
@[simp] theorem Trydp.sizeOf95 : ∀ (w : Go.World), Go.Sem.run (cutP Go.Proofs.Tryd.prog) (Go.sizeOf 95) w = Go.Result.ok 1 w := by intros; kernel_rfl
@[simp] theorem Trydp.sizeOf96 : ∀ (w : Go.World), Go.Sem.run (cutP Go.Proofs.Tryd.prog) (Go.sizeOf 96) w = Go.Result.ok 1 w := by intros; kernel_rfl
@[simp] theorem Trydp.sizeOf97 : ∀ (w : Go.World), Go.Sem.run (cutP Go.Proofs.Tryd.prog) (Go.sizeOf 97) w = Go.Result.ok 1 w := by intros; kernel_rfl
@[simp] theorem Trydp.sizeOf98 : ∀ (w : Go.World), Go.Sem.run (cutP Go.Proofs.Tryd.prog) (Go.sizeOf 98) w = Go.Result.ok 1 w := by intros; kernel_rfl
@[simp] theorem Trydp.sizeOf99 : ∀ (w : Go.World), Go.Sem.run (cutP Go.Proofs.Tryd.prog) (Go.sizeOf 99) w = Go.Result.ok 1 w := by intros; kernel_rfl
theorem Trydp.stoodInHeld120 : (cutP Go.Proofs.Tryd.prog).stoodInHeld 120 = Bool.true := by kernel_rfl
theorem Trydp.stoodInHeld121 : (cutP Go.Proofs.Tryd.prog).stoodInHeld 121 = Bool.true := by kernel_rfl
theorem Trydp.stoodInHeld123 : (cutP Go.Proofs.Tryd.prog).stoodInHeld 123 = Bool.true := by kernel_rfl
theorem Trydp.stoodInHeld124 : (cutP Go.Proofs.Tryd.prog).stoodInHeld 124 = Bool.true := by kernel_rfl
theorem Trydp.stoodInHeld13 : (cutP Go.Proofs.Tryd.prog).stoodInHeld 13 = Bool.true := by kernel_rfl
theorem Trydp.stoodInHeld131 : (cutP Go.Proofs.Tryd.prog).stoodInHeld 131 = Bool.true := by kernel_rfl
theorem Trydp.stoodInHeld132 : (cutP Go.Proofs.Tryd.prog).stoodInHeld 132 = Bool.true := by kernel_rfl
theorem Trydp.stoodInHeld14 : (cutP Go.Proofs.Tryd.prog).stoodInHeld 14 = Bool.true := by kernel_rfl
theorem Trydp.stoodInHeld18 : (cutP Go.Proofs.Tryd.prog).stoodInHeld 18 = Bool.true := by kernel_rfl
theorem Trydp.stoodInHeld19 : (cutP Go.Proofs.Tryd.prog).stoodInHeld 19 = Bool.true := by kernel_rfl
theorem Trydp.stoodInHeld7 : (cutP Go.Proofs.Tryd.prog).stoodInHeld 7 = Bool.false := by kernel_rfl
theorem Trydp.stoodInHeld71 : (cutP Go.Proofs.Tryd.prog).stoodInHeld 71 = Bool.false := by kernel_rfl
theorem Trydp.stoodInHeld72 : (cutP Go.Proofs.Tryd.prog).stoodInHeld 72 = Bool.false := by kernel_rfl
theorem Trydp.stoodInHeld74 : (cutP Go.Proofs.Tryd.prog).stoodInHeld 74 = Bool.false := by kernel_rfl
theorem Trydp.stoodInHeld75 : (cutP Go.Proofs.Tryd.prog).stoodInHeld 75 = Bool.false := by kernel_rfl
theorem Trydp.stoodInHeld76 : (cutP Go.Proofs.Tryd.prog).stoodInHeld 76 = Bool.false := by kernel_rfl
theorem Trydp.stoodInHeld77 : (cutP Go.Proofs.Tryd.prog).stoodInHeld 77 = Bool.false := by kernel_rfl
theorem Trydp.stoodInHeld79 : (cutP Go.Proofs.Tryd.prog).stoodInHeld 79 = Bool.false := by kernel_rfl
theorem Trydp.stoodInHeld8 : (cutP Go.Proofs.Tryd.prog).stoodInHeld 8 = Bool.false := by kernel_rfl
theorem Trydp.stoodInHeld80 : (cutP Go.Proofs.Tryd.prog).stoodInHeld 80 = Bool.false := by kernel_rfl
theorem Trydp.stoodInHeld82 : (cutP Go.Proofs.Tryd.prog).stoodInHeld 82 = Bool.false := by kernel_rfl
theorem Trydp.stoodInHeld83 : (cutP Go.Proofs.Tryd.prog).stoodInHeld 83 = Bool.false := by kernel_rfl
@[simp] theorem Trydp.type0 : (cutP Go.Proofs.Tryd.prog).types[0]? = Option.some Go.Proofs.Tryd.t0 := by kernel_rfl
@[simp] theorem Trydp.type1 : (cutP Go.Proofs.Tryd.prog).types[1]? = Option.some Go.Proofs.Tryd.t1 := by kernel_rfl
@[simp] theorem Trydp.type10 : (cutP Go.Proofs.Tryd.prog).types[10]? = Option.some Go.Proofs.Tryd.t10 := by kernel_rfl
@[simp] theorem Trydp.type100 : (cutP Go.Proofs.Tryd.prog).types[100]? = Option.some Go.Proofs.Tryd.t100 := by kernel_rfl
@[simp] theorem Trydp.type101 : (cutP Go.Proofs.Tryd.prog).types[101]? = Option.some Go.Proofs.Tryd.t101 := by kernel_rfl
@[simp] theorem Trydp.type102 : (cutP Go.Proofs.Tryd.prog).types[102]? = Option.some Go.Proofs.Tryd.t102 := by kernel_rfl
@[simp] theorem Trydp.type103 : (cutP Go.Proofs.Tryd.prog).types[103]? = Option.some Go.Proofs.Tryd.t103 := by kernel_rfl
@[simp] theorem Trydp.type104 : (cutP Go.Proofs.Tryd.prog).types[104]? = Option.some Go.Proofs.Tryd.t104 := by kernel_rfl
@[simp] theorem Trydp.type105 : (cutP Go.Proofs.Tryd.prog).types[105]? = Option.some Go.Proofs.Tryd.t105 := by kernel_rfl
@[simp] theorem Trydp.type106 : (cutP Go.Proofs.Tryd.prog).types[106]? = Option.some Go.Proofs.Tryd.t106 := by kernel_rfl
@[simp] theorem Trydp.type107 : (cutP Go.Proofs.Tryd.prog).types[107]? = Option.some Go.Proofs.Tryd.t107 := by kernel_rfl
@[simp] theorem Trydp.type108 : (cutP Go.Proofs.Tryd.prog).types[108]? = Option.some Go.Proofs.Tryd.t108 := by kernel_rfl
@[simp] theorem Trydp.type109 : (cutP Go.Proofs.Tryd.prog).types[109]? = Option.some Go.Proofs.Tryd.t109 := by kernel_rfl
@[simp] theorem Trydp.type11 : (cutP Go.Proofs.Tryd.prog).types[11]? = Option.some Go.Proofs.Tryd.t11 := by kernel_rfl
@[simp] theorem Trydp.type110 : (cutP Go.Proofs.Tryd.prog).types[110]? = Option.some Go.Proofs.Tryd.t110 := by kernel_rfl
@[simp] theorem Trydp.type111 : (cutP Go.Proofs.Tryd.prog).types[111]? = Option.some Go.Proofs.Tryd.t111 := by kernel_rfl
@[simp] theorem Trydp.type112 : (cutP Go.Proofs.Tryd.prog).types[112]? = Option.some Go.Proofs.Tryd.t112 := by kernel_rfl
@[simp] theorem Trydp.type113 : (cutP Go.Proofs.Tryd.prog).types[113]? = Option.some Go.Proofs.Tryd.t113 := by kernel_rfl
@[simp] theorem Trydp.type114 : (cutP Go.Proofs.Tryd.prog).types[114]? = Option.some Go.Proofs.Tryd.t114 := by kernel_rfl
@[simp] theorem Trydp.type115 : (cutP Go.Proofs.Tryd.prog).types[115]? = Option.some Go.Proofs.Tryd.t115 := by kernel_rfl
@[simp] theorem Trydp.type116 : (cutP Go.Proofs.Tryd.prog).types[116]? = Option.some Go.Proofs.Tryd.t116 := by kernel_rfl
@[simp] theorem Trydp.type117 : (cutP Go.Proofs.Tryd.prog).types[117]? = Option.some Go.Proofs.Tryd.t117 := by kernel_rfl
@[simp] theorem Trydp.type118 : (cutP Go.Proofs.Tryd.prog).types[118]? = Option.some Go.Proofs.Tryd.t118 := by kernel_rfl
@[simp] theorem Trydp.type119 : (cutP Go.Proofs.Tryd.prog).types[119]? = Option.some Go.Proofs.Tryd.t119 := by kernel_rfl
@[simp] theorem Trydp.type12 : (cutP Go.Proofs.Tryd.prog).types[12]? = Option.some Go.Proofs.Tryd.t12 := by kernel_rfl
@[simp] theorem Trydp.type120 : (cutP Go.Proofs.Tryd.prog).types[120]? = Option.some Go.Proofs.Tryd.t120 := by kernel_rfl
@[simp] theorem Trydp.type121 : (cutP Go.Proofs.Tryd.prog).types[121]? = Option.some Go.Proofs.Tryd.t121 := by kernel_rfl
@[simp] theorem Trydp.type122 : (cutP Go.Proofs.Tryd.prog).types[122]? = Option.some Go.Proofs.Tryd.t122 := by kernel_rfl
@[simp] theorem Trydp.type123 : (cutP Go.Proofs.Tryd.prog).types[123]? = Option.some Go.Proofs.Tryd.t123 := by kernel_rfl
@[simp] theorem Trydp.type124 : (cutP Go.Proofs.Tryd.prog).types[124]? = Option.some Go.Proofs.Tryd.t124 := by kernel_rfl
@[simp] theorem Trydp.type125 : (cutP Go.Proofs.Tryd.prog).types[125]? = Option.some Go.Proofs.Tryd.t125 := by kernel_rfl
@[simp] theorem Trydp.type126 : (cutP Go.Proofs.Tryd.prog).types[126]? = Option.some Go.Proofs.Tryd.t126 := by kernel_rfl
@[simp] theorem Trydp.type127 : (cutP Go.Proofs.Tryd.prog).types[127]? = Option.some Go.Proofs.Tryd.t127 := by kernel_rfl
@[simp] theorem Trydp.type128 : (cutP Go.Proofs.Tryd.prog).types[128]? = Option.some Go.Proofs.Tryd.t128 := by kernel_rfl
@[simp] theorem Trydp.type129 : (cutP Go.Proofs.Tryd.prog).types[129]? = Option.some Go.Proofs.Tryd.t129 := by kernel_rfl
@[simp] theorem Trydp.type13 : (cutP Go.Proofs.Tryd.prog).types[13]? = Option.some Go.Proofs.Tryd.t13 := by kernel_rfl
@[simp] theorem Trydp.type130 : (cutP Go.Proofs.Tryd.prog).types[130]? = Option.some Go.Proofs.Tryd.t130 := by kernel_rfl
@[simp] theorem Trydp.type131 : (cutP Go.Proofs.Tryd.prog).types[131]? = Option.some Go.Proofs.Tryd.t131 := by kernel_rfl
@[simp] theorem Trydp.type132 : (cutP Go.Proofs.Tryd.prog).types[132]? = Option.some Go.Proofs.Tryd.t132 := by kernel_rfl
@[simp] theorem Trydp.type14 : (cutP Go.Proofs.Tryd.prog).types[14]? = Option.some Go.Proofs.Tryd.t14 := by kernel_rfl
@[simp] theorem Trydp.type15 : (cutP Go.Proofs.Tryd.prog).types[15]? = Option.some Go.Proofs.Tryd.t15 := by kernel_rfl
@[simp] theorem Trydp.type16 : (cutP Go.Proofs.Tryd.prog).types[16]? = Option.some Go.Proofs.Tryd.t16 := by kernel_rfl
@[simp] theorem Trydp.type17 : (cutP Go.Proofs.Tryd.prog).types[17]? = Option.some Go.Proofs.Tryd.t17 := by kernel_rfl
@[simp] theorem Trydp.type18 : (cutP Go.Proofs.Tryd.prog).types[18]? = Option.some Go.Proofs.Tryd.t18 := by kernel_rfl
@[simp] theorem Trydp.type19 : (cutP Go.Proofs.Tryd.prog).types[19]? = Option.some Go.Proofs.Tryd.t19 := by kernel_rfl
@[simp] theorem Trydp.type2 : (cutP Go.Proofs.Tryd.prog).types[2]? = Option.some Go.Proofs.Tryd.t2 := by kernel_rfl
@[simp] theorem Trydp.type20 : (cutP Go.Proofs.Tryd.prog).types[20]? = Option.some Go.Proofs.Tryd.t20 := by kernel_rfl
@[simp] theorem Trydp.type21 : (cutP Go.Proofs.Tryd.prog).types[21]? = Option.some Go.Proofs.Tryd.t21 := by kernel_rfl
@[simp] theorem Trydp.type22 : (cutP Go.Proofs.Tryd.prog).types[22]? = Option.some Go.Proofs.Tryd.t22 := by kernel_rfl
@[simp] theorem Trydp.type23 : (cutP Go.Proofs.Tryd.prog).types[23]? = Option.some Go.Proofs.Tryd.t23 := by kernel_rfl
@[simp] theorem Trydp.type24 : (cutP Go.Proofs.Tryd.prog).types[24]? = Option.some Go.Proofs.Tryd.t24 := by kernel_rfl
@[simp] theorem Trydp.type25 : (cutP Go.Proofs.Tryd.prog).types[25]? = Option.some Go.Proofs.Tryd.t25 := by kernel_rfl
@[simp] theorem Trydp.type26 : (cutP Go.Proofs.Tryd.prog).types[26]? = Option.some Go.Proofs.Tryd.t26 := by kernel_rfl
@[simp] theorem Trydp.type27 : (cutP Go.Proofs.Tryd.prog).types[27]? = Option.some Go.Proofs.Tryd.t27 := by kernel_rfl
@[simp] theorem Trydp.type28 : (cutP Go.Proofs.Tryd.prog).types[28]? = Option.some Go.Proofs.Tryd.t28 := by kernel_rfl
@[simp] theorem Trydp.type29 : (cutP Go.Proofs.Tryd.prog).types[29]? = Option.some Go.Proofs.Tryd.t29 := by kernel_rfl
@[simp] theorem Trydp.type3 : (cutP Go.Proofs.Tryd.prog).types[3]? = Option.some Go.Proofs.Tryd.t3 := by kernel_rfl
@[simp] theorem Trydp.type30 : (cutP Go.Proofs.Tryd.prog).types[30]? = Option.some Go.Proofs.Tryd.t30 := by kernel_rfl
@[simp] theorem Trydp.type31 : (cutP Go.Proofs.Tryd.prog).types[31]? = Option.some Go.Proofs.Tryd.t31 := by kernel_rfl
@[simp] theorem Trydp.type32 : (cutP Go.Proofs.Tryd.prog).types[32]? = Option.some Go.Proofs.Tryd.t32 := by kernel_rfl
@[simp] theorem Trydp.type33 : (cutP Go.Proofs.Tryd.prog).types[33]? = Option.some Go.Proofs.Tryd.t33 := by kernel_rfl
@[simp] theorem Trydp.type34 : (cutP Go.Proofs.Tryd.prog).types[34]? = Option.some Go.Proofs.Tryd.t34 := by kernel_rfl
@[simp] theorem Trydp.type35 : (cutP Go.Proofs.Tryd.prog).types[35]? = Option.some Go.Proofs.Tryd.t35 := by kernel_rfl
@[simp] theorem Trydp.type36 : (cutP Go.Proofs.Tryd.prog).types[36]? = Option.some Go.Proofs.Tryd.t36 := by kernel_rfl
@[simp] theorem Trydp.type37 : (cutP Go.Proofs.Tryd.prog).types[37]? = Option.some Go.Proofs.Tryd.t37 := by kernel_rfl
@[simp] theorem Trydp.type38 : (cutP Go.Proofs.Tryd.prog).types[38]? = Option.some Go.Proofs.Tryd.t38 := by kernel_rfl
@[simp] theorem Trydp.type39 : (cutP Go.Proofs.Tryd.prog).types[39]? = Option.some Go.Proofs.Tryd.t39 := by kernel_rfl
@[simp] theorem Trydp.type4 : (cutP Go.Proofs.Tryd.prog).types[4]? = Option.some Go.Proofs.Tryd.t4 := by kernel_rfl
@[simp] theorem Trydp.type40 : (cutP Go.Proofs.Tryd.prog).types[40]? = Option.some Go.Proofs.Tryd.t40 := by kernel_rfl
@[simp] theorem Trydp.type41 : (cutP Go.Proofs.Tryd.prog).types[41]? = Option.some Go.Proofs.Tryd.t41 := by kernel_rfl
@[simp] theorem Trydp.type42 : (cutP Go.Proofs.Tryd.prog).types[42]? = Option.some Go.Proofs.Tryd.t42 := by kernel_rfl
@[simp] theorem Trydp.type43 : (cutP Go.Proofs.Tryd.prog).types[43]? = Option.some Go.Proofs.Tryd.t43 := by kernel_rfl
@[simp] theorem Trydp.type44 : (cutP Go.Proofs.Tryd.prog).types[44]? = Option.some Go.Proofs.Tryd.t44 := by kernel_rfl
@[simp] theorem Trydp.type45 : (cutP Go.Proofs.Tryd.prog).types[45]? = Option.some Go.Proofs.Tryd.t45 := by kernel_rfl
@[simp] theorem Trydp.type46 : (cutP Go.Proofs.Tryd.prog).types[46]? = Option.some Go.Proofs.Tryd.t46 := by kernel_rfl
@[simp] theorem Trydp.type47 : (cutP Go.Proofs.Tryd.prog).types[47]? = Option.some Go.Proofs.Tryd.t47 := by kernel_rfl
@[simp] theorem Trydp.type48 : (cutP Go.Proofs.Tryd.prog).types[48]? = Option.some Go.Proofs.Tryd.t48 := by kernel_rfl
@[simp] theorem Trydp.type49 : (cutP Go.Proofs.Tryd.prog).types[49]? = Option.some Go.Proofs.Tryd.t49 := by kernel_rfl
@[simp] theorem Trydp.type5 : (cutP Go.Proofs.Tryd.prog).types[5]? = Option.some Go.Proofs.Tryd.t5 := by kernel_rfl
@[simp] theorem Trydp.type50 : (cutP Go.Proofs.Tryd.prog).types[50]? = Option.some Go.Proofs.Tryd.t50 := by kernel_rfl
@[simp] theorem Trydp.type51 : (cutP Go.Proofs.Tryd.prog).types[51]? = Option.some Go.Proofs.Tryd.t51 := by kernel_rfl
@[simp] theorem Trydp.type52 : (cutP Go.Proofs.Tryd.prog).types[52]? = Option.some Go.Proofs.Tryd.t52 := by kernel_rfl
@[simp] theorem Trydp.type53 : (cutP Go.Proofs.Tryd.prog).types[53]? = Option.some Go.Proofs.Tryd.t53 := by kernel_rfl
@[simp] theorem Trydp.type54 : (cutP Go.Proofs.Tryd.prog).types[54]? = Option.some Go.Proofs.Tryd.t54 := by kernel_rfl
@[simp] theorem Trydp.type55 : (cutP Go.Proofs.Tryd.prog).types[55]? = Option.some Go.Proofs.Tryd.t55 := by kernel_rfl
@[simp] theorem Trydp.type56 : (cutP Go.Proofs.Tryd.prog).types[56]? = Option.some Go.Proofs.Tryd.t56 := by kernel_rfl
@[simp] theorem Trydp.type57 : (cutP Go.Proofs.Tryd.prog).types[57]? = Option.some Go.Proofs.Tryd.t57 := by kernel_rfl
@[simp] theorem Trydp.type58 : (cutP Go.Proofs.Tryd.prog).types[58]? = Option.some Go.Proofs.Tryd.t58 := by kernel_rfl
@[simp] theorem Trydp.type59 : (cutP Go.Proofs.Tryd.prog).types[59]? = Option.some Go.Proofs.Tryd.t59 := by kernel_rfl
@[simp] theorem Trydp.type6 : (cutP Go.Proofs.Tryd.prog).types[6]? = Option.some Go.Proofs.Tryd.t6 := by kernel_rfl
@[simp] theorem Trydp.type60 : (cutP Go.Proofs.Tryd.prog).types[60]? = Option.some Go.Proofs.Tryd.t60 := by kernel_rfl
@[simp] theorem Trydp.type61 : (cutP Go.Proofs.Tryd.prog).types[61]? = Option.some Go.Proofs.Tryd.t61 := by kernel_rfl
@[simp] theorem Trydp.type62 : (cutP Go.Proofs.Tryd.prog).types[62]? = Option.some Go.Proofs.Tryd.t62 := by kernel_rfl
@[simp] theorem Trydp.type63 : (cutP Go.Proofs.Tryd.prog).types[63]? = Option.some Go.Proofs.Tryd.t63 := by kernel_rfl
@[simp] theorem Trydp.type64 : (cutP Go.Proofs.Tryd.prog).types[64]? = Option.some Go.Proofs.Tryd.t64 := by kernel_rfl
@[simp] theorem Trydp.type65 : (cutP Go.Proofs.Tryd.prog).types[65]? = Option.some Go.Proofs.Tryd.t65 := by kernel_rfl
@[simp] theorem Trydp.type66 : (cutP Go.Proofs.Tryd.prog).types[66]? = Option.some Go.Proofs.Tryd.t66 := by kernel_rfl
@[simp] theorem Trydp.type67 : (cutP Go.Proofs.Tryd.prog).types[67]? = Option.some Go.Proofs.Tryd.t67 := by kernel_rfl
@[simp] theorem Trydp.type68 : (cutP Go.Proofs.Tryd.prog).types[68]? = Option.some Go.Proofs.Tryd.t68 := by kernel_rfl
@[simp] theorem Trydp.type69 : (cutP Go.Proofs.Tryd.prog).types[69]? = Option.some Go.Proofs.Tryd.t69 := by kernel_rfl
@[simp] theorem Trydp.type7 : (cutP Go.Proofs.Tryd.prog).types[7]? = Option.some Go.Proofs.Tryd.t7 := by kernel_rfl
@[simp] theorem Trydp.type70 : (cutP Go.Proofs.Tryd.prog).types[70]? = Option.some Go.Proofs.Tryd.t70 := by kernel_rfl
@[simp] theorem Trydp.type71 : (cutP Go.Proofs.Tryd.prog).types[71]? = Option.some Go.Proofs.Tryd.t71 := by kernel_rfl
@[simp] theorem Trydp.type72 : (cutP Go.Proofs.Tryd.prog).types[72]? = Option.some Go.Proofs.Tryd.t72 := by kernel_rfl
@[simp] theorem Trydp.type73 : (cutP Go.Proofs.Tryd.prog).types[73]? = Option.some Go.Proofs.Tryd.t73 := by kernel_rfl
@[simp] theorem Trydp.type74 : (cutP Go.Proofs.Tryd.prog).types[74]? = Option.some Go.Proofs.Tryd.t74 := by kernel_rfl
@[simp] theorem Trydp.type75 : (cutP Go.Proofs.Tryd.prog).types[75]? = Option.some Go.Proofs.Tryd.t75 := by kernel_rfl
@[simp] theorem Trydp.type76 : (cutP Go.Proofs.Tryd.prog).types[76]? = Option.some Go.Proofs.Tryd.t76 := by kernel_rfl
@[simp] theorem Trydp.type77 : (cutP Go.Proofs.Tryd.prog).types[77]? = Option.some Go.Proofs.Tryd.t77 := by kernel_rfl
@[simp] theorem Trydp.type78 : (cutP Go.Proofs.Tryd.prog).types[78]? = Option.some Go.Proofs.Tryd.t78 := by kernel_rfl
@[simp] theorem Trydp.type79 : (cutP Go.Proofs.Tryd.prog).types[79]? = Option.some Go.Proofs.Tryd.t79 := by kernel_rfl
@[simp] theorem Trydp.type8 : (cutP Go.Proofs.Tryd.prog).types[8]? = Option.some Go.Proofs.Tryd.t8 := by kernel_rfl
@[simp] theorem Trydp.type80 : (cutP Go.Proofs.Tryd.prog).types[80]? = Option.some Go.Proofs.Tryd.t80 := by kernel_rfl
@[simp] theorem Trydp.type81 : (cutP Go.Proofs.Tryd.prog).types[81]? = Option.some Go.Proofs.Tryd.t81 := by kernel_rfl
@[simp] theorem Trydp.type82 : (cutP Go.Proofs.Tryd.prog).types[82]? = Option.some Go.Proofs.Tryd.t82 := by kernel_rfl
@[simp] theorem Trydp.type83 : (cutP Go.Proofs.Tryd.prog).types[83]? = Option.some Go.Proofs.Tryd.t83 := by kernel_rfl
@[simp] theorem Trydp.type84 : (cutP Go.Proofs.Tryd.prog).types[84]? = Option.some Go.Proofs.Tryd.t84 := by kernel_rfl
@[simp] theorem Trydp.type85 : (cutP Go.Proofs.Tryd.prog).types[85]? = Option.some Go.Proofs.Tryd.t85 := by kernel_rfl
@[simp] theorem Trydp.type86 : (cutP Go.Proofs.Tryd.prog).types[86]? = Option.some Go.Proofs.Tryd.t86 := by kernel_rfl
@[simp] theorem Trydp.type87 : (cutP Go.Proofs.Tryd.prog).types[87]? = Option.some Go.Proofs.Tryd.t87 := by kernel_rfl
@[simp] theorem Trydp.type88 : (cutP Go.Proofs.Tryd.prog).types[88]? = Option.some Go.Proofs.Tryd.t88 := by kernel_rfl
@[simp] theorem Trydp.type89 : (cutP Go.Proofs.Tryd.prog).types[89]? = Option.some Go.Proofs.Tryd.t89 := by kernel_rfl
@[simp] theorem Trydp.type9 : (cutP Go.Proofs.Tryd.prog).types[9]? = Option.some Go.Proofs.Tryd.t9 := by kernel_rfl
@[simp] theorem Trydp.type90 : (cutP Go.Proofs.Tryd.prog).types[90]? = Option.some Go.Proofs.Tryd.t90 := by kernel_rfl
@[simp] theorem Trydp.type91 : (cutP Go.Proofs.Tryd.prog).types[91]? = Option.some Go.Proofs.Tryd.t91 := by kernel_rfl
@[simp] theorem Trydp.type92 : (cutP Go.Proofs.Tryd.prog).types[92]? = Option.some Go.Proofs.Tryd.t92 := by kernel_rfl
@[simp] theorem Trydp.type93 : (cutP Go.Proofs.Tryd.prog).types[93]? = Option.some Go.Proofs.Tryd.t93 := by kernel_rfl
@[simp] theorem Trydp.type94 : (cutP Go.Proofs.Tryd.prog).types[94]? = Option.some Go.Proofs.Tryd.t94 := by kernel_rfl
@[simp] theorem Trydp.type95 : (cutP Go.Proofs.Tryd.prog).types[95]? = Option.some Go.Proofs.Tryd.t95 := by kernel_rfl
@[simp] theorem Trydp.type96 : (cutP Go.Proofs.Tryd.prog).types[96]? = Option.some Go.Proofs.Tryd.t96 := by kernel_rfl
@[simp] theorem Trydp.type97 : (cutP Go.Proofs.Tryd.prog).types[97]? = Option.some Go.Proofs.Tryd.t97 := by kernel_rfl
@[simp] theorem Trydp.type98 : (cutP Go.Proofs.Tryd.prog).types[98]? = Option.some Go.Proofs.Tryd.t98 := by kernel_rfl
@[simp] theorem Trydp.type99 : (cutP Go.Proofs.Tryd.prog).types[99]? = Option.some Go.Proofs.Tryd.t99 := by kernel_rfl
@[simp] theorem Trydp.typeInfo0 : ∀ (w : Go.World), Go.Sem.run (cutP Go.Proofs.Tryd.prog) (Go.typeInfo 0) w = Go.Result.ok Go.Proofs.Tryd.t0 w := by intros; kernel_rfl
@[simp] theorem Trydp.typeInfo1 : ∀ (w : Go.World), Go.Sem.run (cutP Go.Proofs.Tryd.prog) (Go.typeInfo 1) w = Go.Result.ok Go.Proofs.Tryd.t1 w := by intros; kernel_rfl
@[simp] theorem Trydp.typeInfo10 : ∀ (w : Go.World), Go.Sem.run (cutP Go.Proofs.Tryd.prog) (Go.typeInfo 10) w = Go.Result.ok Go.Proofs.Tryd.t10 w := by intros; kernel_rfl
@[simp] theorem Trydp.typeInfo100 : ∀ (w : Go.World), Go.Sem.run (cutP Go.Proofs.Tryd.prog) (Go.typeInfo 100) w = Go.Result.ok Go.Proofs.Tryd.t100 w := by intros; kernel_rfl
@[simp] theorem Trydp.typeInfo101 : ∀ (w : Go.World), Go.Sem.run (cutP Go.Proofs.Tryd.prog) (Go.typeInfo 101) w = Go.Result.ok Go.Proofs.Tryd.t101 w := by intros; kernel_rfl
@[simp] theorem Trydp.typeInfo102 : ∀ (w : Go.World), Go.Sem.run (cutP Go.Proofs.Tryd.prog) (Go.typeInfo 102) w = Go.Result.ok Go.Proofs.Tryd.t102 w := by intros; kernel_rfl
@[simp] theorem Trydp.typeInfo103 : ∀ (w : Go.World), Go.Sem.run (cutP Go.Proofs.Tryd.prog) (Go.typeInfo 103) w = Go.Result.ok Go.Proofs.Tryd.t103 w := by intros; kernel_rfl
@[simp] theorem Trydp.typeInfo104 : ∀ (w : Go.World), Go.Sem.run (cutP Go.Proofs.Tryd.prog) (Go.typeInfo 104) w = Go.Result.ok Go.Proofs.Tryd.t104 w := by intros; kernel_rfl
@[simp] theorem Trydp.typeInfo105 : ∀ (w : Go.World), Go.Sem.run (cutP Go.Proofs.Tryd.prog) (Go.typeInfo 105) w = Go.Result.ok Go.Proofs.Tryd.t105 w := by intros; kernel_rfl
@[simp] theorem Trydp.typeInfo106 : ∀ (w : Go.World), Go.Sem.run (cutP Go.Proofs.Tryd.prog) (Go.typeInfo 106) w = Go.Result.ok Go.Proofs.Tryd.t106 w := by intros; kernel_rfl
@[simp] theorem Trydp.typeInfo107 : ∀ (w : Go.World), Go.Sem.run (cutP Go.Proofs.Tryd.prog) (Go.typeInfo 107) w = Go.Result.ok Go.Proofs.Tryd.t107 w := by intros; kernel_rfl
@[simp] theorem Trydp.typeInfo108 : ∀ (w : Go.World), Go.Sem.run (cutP Go.Proofs.Tryd.prog) (Go.typeInfo 108) w = Go.Result.ok Go.Proofs.Tryd.t108 w := by intros; kernel_rfl
@[simp] theorem Trydp.typeInfo109 : ∀ (w : Go.World), Go.Sem.run (cutP Go.Proofs.Tryd.prog) (Go.typeInfo 109) w = Go.Result.ok Go.Proofs.Tryd.t109 w := by intros; kernel_rfl
@[simp] theorem Trydp.typeInfo11 : ∀ (w : Go.World), Go.Sem.run (cutP Go.Proofs.Tryd.prog) (Go.typeInfo 11) w = Go.Result.ok Go.Proofs.Tryd.t11 w := by intros; kernel_rfl
@[simp] theorem Trydp.typeInfo110 : ∀ (w : Go.World), Go.Sem.run (cutP Go.Proofs.Tryd.prog) (Go.typeInfo 110) w = Go.Result.ok Go.Proofs.Tryd.t110 w := by intros; kernel_rfl
@[simp] theorem Trydp.typeInfo111 : ∀ (w : Go.World), Go.Sem.run (cutP Go.Proofs.Tryd.prog) (Go.typeInfo 111) w = Go.Result.ok Go.Proofs.Tryd.t111 w := by intros; kernel_rfl
@[simp] theorem Trydp.typeInfo112 : ∀ (w : Go.World), Go.Sem.run (cutP Go.Proofs.Tryd.prog) (Go.typeInfo 112) w = Go.Result.ok Go.Proofs.Tryd.t112 w := by intros; kernel_rfl
@[simp] theorem Trydp.typeInfo113 : ∀ (w : Go.World), Go.Sem.run (cutP Go.Proofs.Tryd.prog) (Go.typeInfo 113) w = Go.Result.ok Go.Proofs.Tryd.t113 w := by intros; kernel_rfl
@[simp] theorem Trydp.typeInfo114 : ∀ (w : Go.World), Go.Sem.run (cutP Go.Proofs.Tryd.prog) (Go.typeInfo 114) w = Go.Result.ok Go.Proofs.Tryd.t114 w := by intros; kernel_rfl
@[simp] theorem Trydp.typeInfo115 : ∀ (w : Go.World), Go.Sem.run (cutP Go.Proofs.Tryd.prog) (Go.typeInfo 115) w = Go.Result.ok Go.Proofs.Tryd.t115 w := by intros; kernel_rfl
@[simp] theorem Trydp.typeInfo116 : ∀ (w : Go.World), Go.Sem.run (cutP Go.Proofs.Tryd.prog) (Go.typeInfo 116) w = Go.Result.ok Go.Proofs.Tryd.t116 w := by intros; kernel_rfl
@[simp] theorem Trydp.typeInfo117 : ∀ (w : Go.World), Go.Sem.run (cutP Go.Proofs.Tryd.prog) (Go.typeInfo 117) w = Go.Result.ok Go.Proofs.Tryd.t117 w := by intros; kernel_rfl
@[simp] theorem Trydp.typeInfo118 : ∀ (w : Go.World), Go.Sem.run (cutP Go.Proofs.Tryd.prog) (Go.typeInfo 118) w = Go.Result.ok Go.Proofs.Tryd.t118 w := by intros; kernel_rfl
@[simp] theorem Trydp.typeInfo119 : ∀ (w : Go.World), Go.Sem.run (cutP Go.Proofs.Tryd.prog) (Go.typeInfo 119) w = Go.Result.ok Go.Proofs.Tryd.t119 w := by intros; kernel_rfl
@[simp] theorem Trydp.typeInfo12 : ∀ (w : Go.World), Go.Sem.run (cutP Go.Proofs.Tryd.prog) (Go.typeInfo 12) w = Go.Result.ok Go.Proofs.Tryd.t12 w := by intros; kernel_rfl
@[simp] theorem Trydp.typeInfo120 : ∀ (w : Go.World), Go.Sem.run (cutP Go.Proofs.Tryd.prog) (Go.typeInfo 120) w = Go.Result.ok Go.Proofs.Tryd.t120 w := by intros; kernel_rfl
@[simp] theorem Trydp.typeInfo121 : ∀ (w : Go.World), Go.Sem.run (cutP Go.Proofs.Tryd.prog) (Go.typeInfo 121) w = Go.Result.ok Go.Proofs.Tryd.t121 w := by intros; kernel_rfl
@[simp] theorem Trydp.typeInfo122 : ∀ (w : Go.World), Go.Sem.run (cutP Go.Proofs.Tryd.prog) (Go.typeInfo 122) w = Go.Result.ok Go.Proofs.Tryd.t122 w := by intros; kernel_rfl
@[simp] theorem Trydp.typeInfo123 : ∀ (w : Go.World), Go.Sem.run (cutP Go.Proofs.Tryd.prog) (Go.typeInfo 123) w = Go.Result.ok Go.Proofs.Tryd.t123 w := by intros; kernel_rfl
@[simp] theorem Trydp.typeInfo124 : ∀ (w : Go.World), Go.Sem.run (cutP Go.Proofs.Tryd.prog) (Go.typeInfo 124) w = Go.Result.ok Go.Proofs.Tryd.t124 w := by intros; kernel_rfl
@[simp] theorem Trydp.typeInfo125 : ∀ (w : Go.World), Go.Sem.run (cutP Go.Proofs.Tryd.prog) (Go.typeInfo 125) w = Go.Result.ok Go.Proofs.Tryd.t125 w := by intros; kernel_rfl
@[simp] theorem Trydp.typeInfo126 : ∀ (w : Go.World), Go.Sem.run (cutP Go.Proofs.Tryd.prog) (Go.typeInfo 126) w = Go.Result.ok Go.Proofs.Tryd.t126 w := by intros; kernel_rfl
@[simp] theorem Trydp.typeInfo127 : ∀ (w : Go.World), Go.Sem.run (cutP Go.Proofs.Tryd.prog) (Go.typeInfo 127) w = Go.Result.ok Go.Proofs.Tryd.t127 w := by intros; kernel_rfl
@[simp] theorem Trydp.typeInfo128 : ∀ (w : Go.World), Go.Sem.run (cutP Go.Proofs.Tryd.prog) (Go.typeInfo 128) w = Go.Result.ok Go.Proofs.Tryd.t128 w := by intros; kernel_rfl
@[simp] theorem Trydp.typeInfo129 : ∀ (w : Go.World), Go.Sem.run (cutP Go.Proofs.Tryd.prog) (Go.typeInfo 129) w = Go.Result.ok Go.Proofs.Tryd.t129 w := by intros; kernel_rfl
@[simp] theorem Trydp.typeInfo13 : ∀ (w : Go.World), Go.Sem.run (cutP Go.Proofs.Tryd.prog) (Go.typeInfo 13) w = Go.Result.ok Go.Proofs.Tryd.t13 w := by intros; kernel_rfl
@[simp] theorem Trydp.typeInfo130 : ∀ (w : Go.World), Go.Sem.run (cutP Go.Proofs.Tryd.prog) (Go.typeInfo 130) w = Go.Result.ok Go.Proofs.Tryd.t130 w := by intros; kernel_rfl
@[simp] theorem Trydp.typeInfo131 : ∀ (w : Go.World), Go.Sem.run (cutP Go.Proofs.Tryd.prog) (Go.typeInfo 131) w = Go.Result.ok Go.Proofs.Tryd.t131 w := by intros; kernel_rfl
@[simp] theorem Trydp.typeInfo132 : ∀ (w : Go.World), Go.Sem.run (cutP Go.Proofs.Tryd.prog) (Go.typeInfo 132) w = Go.Result.ok Go.Proofs.Tryd.t132 w := by intros; kernel_rfl
@[simp] theorem Trydp.typeInfo14 : ∀ (w : Go.World), Go.Sem.run (cutP Go.Proofs.Tryd.prog) (Go.typeInfo 14) w = Go.Result.ok Go.Proofs.Tryd.t14 w := by intros; kernel_rfl
@[simp] theorem Trydp.typeInfo15 : ∀ (w : Go.World), Go.Sem.run (cutP Go.Proofs.Tryd.prog) (Go.typeInfo 15) w = Go.Result.ok Go.Proofs.Tryd.t15 w := by intros; kernel_rfl
@[simp] theorem Trydp.typeInfo16 : ∀ (w : Go.World), Go.Sem.run (cutP Go.Proofs.Tryd.prog) (Go.typeInfo 16) w = Go.Result.ok Go.Proofs.Tryd.t16 w := by intros; kernel_rfl
@[simp] theorem Trydp.typeInfo17 : ∀ (w : Go.World), Go.Sem.run (cutP Go.Proofs.Tryd.prog) (Go.typeInfo 17) w = Go.Result.ok Go.Proofs.Tryd.t17 w := by intros; kernel_rfl
@[simp] theorem Trydp.typeInfo18 : ∀ (w : Go.World), Go.Sem.run (cutP Go.Proofs.Tryd.prog) (Go.typeInfo 18) w = Go.Result.ok Go.Proofs.Tryd.t18 w := by intros; kernel_rfl
@[simp] theorem Trydp.typeInfo19 : ∀ (w : Go.World), Go.Sem.run (cutP Go.Proofs.Tryd.prog) (Go.typeInfo 19) w = Go.Result.ok Go.Proofs.Tryd.t19 w := by intros; kernel_rfl
@[simp] theorem Trydp.typeInfo2 : ∀ (w : Go.World), Go.Sem.run (cutP Go.Proofs.Tryd.prog) (Go.typeInfo 2) w = Go.Result.ok Go.Proofs.Tryd.t2 w := by intros; kernel_rfl
@[simp] theorem Trydp.typeInfo20 : ∀ (w : Go.World), Go.Sem.run (cutP Go.Proofs.Tryd.prog) (Go.typeInfo 20) w = Go.Result.ok Go.Proofs.Tryd.t20 w := by intros; kernel_rfl
@[simp] theorem Trydp.typeInfo21 : ∀ (w : Go.World), Go.Sem.run (cutP Go.Proofs.Tryd.prog) (Go.typeInfo 21) w = Go.Result.ok Go.Proofs.Tryd.t21 w := by intros; kernel_rfl
@[simp] theorem Trydp.typeInfo22 : ∀ (w : Go.World), Go.Sem.run (cutP Go.Proofs.Tryd.prog) (Go.typeInfo 22) w = Go.Result.ok Go.Proofs.Tryd.t22 w := by intros; kernel_rfl
@[simp] theorem Trydp.typeInfo23 : ∀ (w : Go.World), Go.Sem.run (cutP Go.Proofs.Tryd.prog) (Go.typeInfo 23) w = Go.Result.ok Go.Proofs.Tryd.t23 w := by intros; kernel_rfl
@[simp] theorem Trydp.typeInfo24 : ∀ (w : Go.World), Go.Sem.run (cutP Go.Proofs.Tryd.prog) (Go.typeInfo 24) w = Go.Result.ok Go.Proofs.Tryd.t24 w := by intros; kernel_rfl
@[simp] theorem Trydp.typeInfo25 : ∀ (w : Go.World), Go.Sem.run (cutP Go.Proofs.Tryd.prog) (Go.typeInfo 25) w = Go.Result.ok Go.Proofs.Tryd.t25 w := by intros; kernel_rfl
@[simp] theorem Trydp.typeInfo26 : ∀ (w : Go.World), Go.Sem.run (cutP Go.Proofs.Tryd.prog) (Go.typeInfo 26) w = Go.Result.ok Go.Proofs.Tryd.t26 w := by intros; kernel_rfl
@[simp] theorem Trydp.typeInfo27 : ∀ (w : Go.World), Go.Sem.run (cutP Go.Proofs.Tryd.prog) (Go.typeInfo 27) w = Go.Result.ok Go.Proofs.Tryd.t27 w := by intros; kernel_rfl
@[simp] theorem Trydp.typeInfo28 : ∀ (w : Go.World), Go.Sem.run (cutP Go.Proofs.Tryd.prog) (Go.typeInfo 28) w = Go.Result.ok Go.Proofs.Tryd.t28 w := by intros; kernel_rfl
@[simp] theorem Trydp.typeInfo29 : ∀ (w : Go.World), Go.Sem.run (cutP Go.Proofs.Tryd.prog) (Go.typeInfo 29) w = Go.Result.ok Go.Proofs.Tryd.t29 w := by intros; kernel_rfl
@[simp] theorem Trydp.typeInfo3 : ∀ (w : Go.World), Go.Sem.run (cutP Go.Proofs.Tryd.prog) (Go.typeInfo 3) w = Go.Result.ok Go.Proofs.Tryd.t3 w := by intros; kernel_rfl
@[simp] theorem Trydp.typeInfo30 : ∀ (w : Go.World), Go.Sem.run (cutP Go.Proofs.Tryd.prog) (Go.typeInfo 30) w = Go.Result.ok Go.Proofs.Tryd.t30 w := by intros; kernel_rfl
@[simp] theorem Trydp.typeInfo31 : ∀ (w : Go.World), Go.Sem.run (cutP Go.Proofs.Tryd.prog) (Go.typeInfo 31) w = Go.Result.ok Go.Proofs.Tryd.t31 w := by intros; kernel_rfl
@[simp] theorem Trydp.typeInfo32 : ∀ (w : Go.World), Go.Sem.run (cutP Go.Proofs.Tryd.prog) (Go.typeInfo 32) w = Go.Result.ok Go.Proofs.Tryd.t32 w := by intros; kernel_rfl
@[simp] theorem Trydp.typeInfo33 : ∀ (w : Go.World), Go.Sem.run (cutP Go.Proofs.Tryd.prog) (Go.typeInfo 33) w = Go.Result.ok Go.Proofs.Tryd.t33 w := by intros; kernel_rfl
@[simp] theorem Trydp.typeInfo34 : ∀ (w : Go.World), Go.Sem.run (cutP Go.Proofs.Tryd.prog) (Go.typeInfo 34) w = Go.Result.ok Go.Proofs.Tryd.t34 w := by intros; kernel_rfl
@[simp] theorem Trydp.typeInfo35 : ∀ (w : Go.World), Go.Sem.run (cutP Go.Proofs.Tryd.prog) (Go.typeInfo 35) w = Go.Result.ok Go.Proofs.Tryd.t35 w := by intros; kernel_rfl
@[simp] theorem Trydp.typeInfo36 : ∀ (w : Go.World), Go.Sem.run (cutP Go.Proofs.Tryd.prog) (Go.typeInfo 36) w = Go.Result.ok Go.Proofs.Tryd.t36 w := by intros; kernel_rfl
@[simp] theorem Trydp.typeInfo37 : ∀ (w : Go.World), Go.Sem.run (cutP Go.Proofs.Tryd.prog) (Go.typeInfo 37) w = Go.Result.ok Go.Proofs.Tryd.t37 w := by intros; kernel_rfl
@[simp] theorem Trydp.typeInfo38 : ∀ (w : Go.World), Go.Sem.run (cutP Go.Proofs.Tryd.prog) (Go.typeInfo 38) w = Go.Result.ok Go.Proofs.Tryd.t38 w := by intros; kernel_rfl
@[simp] theorem Trydp.typeInfo39 : ∀ (w : Go.World), Go.Sem.run (cutP Go.Proofs.Tryd.prog) (Go.typeInfo 39) w = Go.Result.ok Go.Proofs.Tryd.t39 w := by intros; kernel_rfl
@[simp] theorem Trydp.typeInfo4 : ∀ (w : Go.World), Go.Sem.run (cutP Go.Proofs.Tryd.prog) (Go.typeInfo 4) w = Go.Result.ok Go.Proofs.Tryd.t4 w := by intros; kernel_rfl
@[simp] theorem Trydp.typeInfo40 : ∀ (w : Go.World), Go.Sem.run (cutP Go.Proofs.Tryd.prog) (Go.typeInfo 40) w = Go.Result.ok Go.Proofs.Tryd.t40 w := by intros; kernel_rfl
@[simp] theorem Trydp.typeInfo41 : ∀ (w : Go.World), Go.Sem.run (cutP Go.Proofs.Tryd.prog) (Go.typeInfo 41) w = Go.Result.ok Go.Proofs.Tryd.t41 w := by intros; kernel_rfl
@[simp] theorem Trydp.typeInfo42 : ∀ (w : Go.World), Go.Sem.run (cutP Go.Proofs.Tryd.prog) (Go.typeInfo 42) w = Go.Result.ok Go.Proofs.Tryd.t42 w := by intros; kernel_rfl
@[simp] theorem Trydp.typeInfo43 : ∀ (w : Go.World), Go.Sem.run (cutP Go.Proofs.Tryd.prog) (Go.typeInfo 43) w = Go.Result.ok Go.Proofs.Tryd.t43 w := by intros; kernel_rfl
@[simp] theorem Trydp.typeInfo44 : ∀ (w : Go.World), Go.Sem.run (cutP Go.Proofs.Tryd.prog) (Go.typeInfo 44) w = Go.Result.ok Go.Proofs.Tryd.t44 w := by intros; kernel_rfl
@[simp] theorem Trydp.typeInfo45 : ∀ (w : Go.World), Go.Sem.run (cutP Go.Proofs.Tryd.prog) (Go.typeInfo 45) w = Go.Result.ok Go.Proofs.Tryd.t45 w := by intros; kernel_rfl
@[simp] theorem Trydp.typeInfo46 : ∀ (w : Go.World), Go.Sem.run (cutP Go.Proofs.Tryd.prog) (Go.typeInfo 46) w = Go.Result.ok Go.Proofs.Tryd.t46 w := by intros; kernel_rfl
@[simp] theorem Trydp.typeInfo47 : ∀ (w : Go.World), Go.Sem.run (cutP Go.Proofs.Tryd.prog) (Go.typeInfo 47) w = Go.Result.ok Go.Proofs.Tryd.t47 w := by intros; kernel_rfl
@[simp] theorem Trydp.typeInfo48 : ∀ (w : Go.World), Go.Sem.run (cutP Go.Proofs.Tryd.prog) (Go.typeInfo 48) w = Go.Result.ok Go.Proofs.Tryd.t48 w := by intros; kernel_rfl
@[simp] theorem Trydp.typeInfo49 : ∀ (w : Go.World), Go.Sem.run (cutP Go.Proofs.Tryd.prog) (Go.typeInfo 49) w = Go.Result.ok Go.Proofs.Tryd.t49 w := by intros; kernel_rfl
@[simp] theorem Trydp.typeInfo5 : ∀ (w : Go.World), Go.Sem.run (cutP Go.Proofs.Tryd.prog) (Go.typeInfo 5) w = Go.Result.ok Go.Proofs.Tryd.t5 w := by intros; kernel_rfl
@[simp] theorem Trydp.typeInfo50 : ∀ (w : Go.World), Go.Sem.run (cutP Go.Proofs.Tryd.prog) (Go.typeInfo 50) w = Go.Result.ok Go.Proofs.Tryd.t50 w := by intros; kernel_rfl
@[simp] theorem Trydp.typeInfo51 : ∀ (w : Go.World), Go.Sem.run (cutP Go.Proofs.Tryd.prog) (Go.typeInfo 51) w = Go.Result.ok Go.Proofs.Tryd.t51 w := by intros; kernel_rfl
@[simp] theorem Trydp.typeInfo52 : ∀ (w : Go.World), Go.Sem.run (cutP Go.Proofs.Tryd.prog) (Go.typeInfo 52) w = Go.Result.ok Go.Proofs.Tryd.t52 w := by intros; kernel_rfl
@[simp] theorem Trydp.typeInfo53 : ∀ (w : Go.World), Go.Sem.run (cutP Go.Proofs.Tryd.prog) (Go.typeInfo 53) w = Go.Result.ok Go.Proofs.Tryd.t53 w := by intros; kernel_rfl
@[simp] theorem Trydp.typeInfo54 : ∀ (w : Go.World), Go.Sem.run (cutP Go.Proofs.Tryd.prog) (Go.typeInfo 54) w = Go.Result.ok Go.Proofs.Tryd.t54 w := by intros; kernel_rfl
@[simp] theorem Trydp.typeInfo55 : ∀ (w : Go.World), Go.Sem.run (cutP Go.Proofs.Tryd.prog) (Go.typeInfo 55) w = Go.Result.ok Go.Proofs.Tryd.t55 w := by intros; kernel_rfl
@[simp] theorem Trydp.typeInfo56 : ∀ (w : Go.World), Go.Sem.run (cutP Go.Proofs.Tryd.prog) (Go.typeInfo 56) w = Go.Result.ok Go.Proofs.Tryd.t56 w := by intros; kernel_rfl
@[simp] theorem Trydp.typeInfo57 : ∀ (w : Go.World), Go.Sem.run (cutP Go.Proofs.Tryd.prog) (Go.typeInfo 57) w = Go.Result.ok Go.Proofs.Tryd.t57 w := by intros; kernel_rfl
@[simp] theorem Trydp.typeInfo58 : ∀ (w : Go.World), Go.Sem.run (cutP Go.Proofs.Tryd.prog) (Go.typeInfo 58) w = Go.Result.ok Go.Proofs.Tryd.t58 w := by intros; kernel_rfl
@[simp] theorem Trydp.typeInfo59 : ∀ (w : Go.World), Go.Sem.run (cutP Go.Proofs.Tryd.prog) (Go.typeInfo 59) w = Go.Result.ok Go.Proofs.Tryd.t59 w := by intros; kernel_rfl
@[simp] theorem Trydp.typeInfo6 : ∀ (w : Go.World), Go.Sem.run (cutP Go.Proofs.Tryd.prog) (Go.typeInfo 6) w = Go.Result.ok Go.Proofs.Tryd.t6 w := by intros; kernel_rfl
@[simp] theorem Trydp.typeInfo60 : ∀ (w : Go.World), Go.Sem.run (cutP Go.Proofs.Tryd.prog) (Go.typeInfo 60) w = Go.Result.ok Go.Proofs.Tryd.t60 w := by intros; kernel_rfl
@[simp] theorem Trydp.typeInfo61 : ∀ (w : Go.World), Go.Sem.run (cutP Go.Proofs.Tryd.prog) (Go.typeInfo 61) w = Go.Result.ok Go.Proofs.Tryd.t61 w := by intros; kernel_rfl
@[simp] theorem Trydp.typeInfo62 : ∀ (w : Go.World), Go.Sem.run (cutP Go.Proofs.Tryd.prog) (Go.typeInfo 62) w = Go.Result.ok Go.Proofs.Tryd.t62 w := by intros; kernel_rfl
@[simp] theorem Trydp.typeInfo63 : ∀ (w : Go.World), Go.Sem.run (cutP Go.Proofs.Tryd.prog) (Go.typeInfo 63) w = Go.Result.ok Go.Proofs.Tryd.t63 w := by intros; kernel_rfl
@[simp] theorem Trydp.typeInfo64 : ∀ (w : Go.World), Go.Sem.run (cutP Go.Proofs.Tryd.prog) (Go.typeInfo 64) w = Go.Result.ok Go.Proofs.Tryd.t64 w := by intros; kernel_rfl
@[simp] theorem Trydp.typeInfo65 : ∀ (w : Go.World), Go.Sem.run (cutP Go.Proofs.Tryd.prog) (Go.typeInfo 65) w = Go.Result.ok Go.Proofs.Tryd.t65 w := by intros; kernel_rfl
@[simp] theorem Trydp.typeInfo66 : ∀ (w : Go.World), Go.Sem.run (cutP Go.Proofs.Tryd.prog) (Go.typeInfo 66) w = Go.Result.ok Go.Proofs.Tryd.t66 w := by intros; kernel_rfl
@[simp] theorem Trydp.typeInfo67 : ∀ (w : Go.World), Go.Sem.run (cutP Go.Proofs.Tryd.prog) (Go.typeInfo 67) w = Go.Result.ok Go.Proofs.Tryd.t67 w := by intros; kernel_rfl
@[simp] theorem Trydp.typeInfo68 : ∀ (w : Go.World), Go.Sem.run (cutP Go.Proofs.Tryd.prog) (Go.typeInfo 68) w = Go.Result.ok Go.Proofs.Tryd.t68 w := by intros; kernel_rfl
@[simp] theorem Trydp.typeInfo69 : ∀ (w : Go.World), Go.Sem.run (cutP Go.Proofs.Tryd.prog) (Go.typeInfo 69) w = Go.Result.ok Go.Proofs.Tryd.t69 w := by intros; kernel_rfl
@[simp] theorem Trydp.typeInfo7 : ∀ (w : Go.World), Go.Sem.run (cutP Go.Proofs.Tryd.prog) (Go.typeInfo 7) w = Go.Result.ok Go.Proofs.Tryd.t7 w := by intros; kernel_rfl
@[simp] theorem Trydp.typeInfo70 : ∀ (w : Go.World), Go.Sem.run (cutP Go.Proofs.Tryd.prog) (Go.typeInfo 70) w = Go.Result.ok Go.Proofs.Tryd.t70 w := by intros; kernel_rfl
@[simp] theorem Trydp.typeInfo71 : ∀ (w : Go.World), Go.Sem.run (cutP Go.Proofs.Tryd.prog) (Go.typeInfo 71) w = Go.Result.ok Go.Proofs.Tryd.t71 w := by intros; kernel_rfl
@[simp] theorem Trydp.typeInfo72 : ∀ (w : Go.World), Go.Sem.run (cutP Go.Proofs.Tryd.prog) (Go.typeInfo 72) w = Go.Result.ok Go.Proofs.Tryd.t72 w := by intros; kernel_rfl
@[simp] theorem Trydp.typeInfo73 : ∀ (w : Go.World), Go.Sem.run (cutP Go.Proofs.Tryd.prog) (Go.typeInfo 73) w = Go.Result.ok Go.Proofs.Tryd.t73 w := by intros; kernel_rfl
@[simp] theorem Trydp.typeInfo74 : ∀ (w : Go.World), Go.Sem.run (cutP Go.Proofs.Tryd.prog) (Go.typeInfo 74) w = Go.Result.ok Go.Proofs.Tryd.t74 w := by intros; kernel_rfl
@[simp] theorem Trydp.typeInfo75 : ∀ (w : Go.World), Go.Sem.run (cutP Go.Proofs.Tryd.prog) (Go.typeInfo 75) w = Go.Result.ok Go.Proofs.Tryd.t75 w := by intros; kernel_rfl
@[simp] theorem Trydp.typeInfo76 : ∀ (w : Go.World), Go.Sem.run (cutP Go.Proofs.Tryd.prog) (Go.typeInfo 76) w = Go.Result.ok Go.Proofs.Tryd.t76 w := by intros; kernel_rfl
@[simp] theorem Trydp.typeInfo77 : ∀ (w : Go.World), Go.Sem.run (cutP Go.Proofs.Tryd.prog) (Go.typeInfo 77) w = Go.Result.ok Go.Proofs.Tryd.t77 w := by intros; kernel_rfl
@[simp] theorem Trydp.typeInfo78 : ∀ (w : Go.World), Go.Sem.run (cutP Go.Proofs.Tryd.prog) (Go.typeInfo 78) w = Go.Result.ok Go.Proofs.Tryd.t78 w := by intros; kernel_rfl
@[simp] theorem Trydp.typeInfo79 : ∀ (w : Go.World), Go.Sem.run (cutP Go.Proofs.Tryd.prog) (Go.typeInfo 79) w = Go.Result.ok Go.Proofs.Tryd.t79 w := by intros; kernel_rfl
@[simp] theorem Trydp.typeInfo8 : ∀ (w : Go.World), Go.Sem.run (cutP Go.Proofs.Tryd.prog) (Go.typeInfo 8) w = Go.Result.ok Go.Proofs.Tryd.t8 w := by intros; kernel_rfl
@[simp] theorem Trydp.typeInfo80 : ∀ (w : Go.World), Go.Sem.run (cutP Go.Proofs.Tryd.prog) (Go.typeInfo 80) w = Go.Result.ok Go.Proofs.Tryd.t80 w := by intros; kernel_rfl
@[simp] theorem Trydp.typeInfo81 : ∀ (w : Go.World), Go.Sem.run (cutP Go.Proofs.Tryd.prog) (Go.typeInfo 81) w = Go.Result.ok Go.Proofs.Tryd.t81 w := by intros; kernel_rfl
@[simp] theorem Trydp.typeInfo82 : ∀ (w : Go.World), Go.Sem.run (cutP Go.Proofs.Tryd.prog) (Go.typeInfo 82) w = Go.Result.ok Go.Proofs.Tryd.t82 w := by intros; kernel_rfl
@[simp] theorem Trydp.typeInfo83 : ∀ (w : Go.World), Go.Sem.run (cutP Go.Proofs.Tryd.prog) (Go.typeInfo 83) w = Go.Result.ok Go.Proofs.Tryd.t83 w := by intros; kernel_rfl
@[simp] theorem Trydp.typeInfo84 : ∀ (w : Go.World), Go.Sem.run (cutP Go.Proofs.Tryd.prog) (Go.typeInfo 84) w = Go.Result.ok Go.Proofs.Tryd.t84 w := by intros; kernel_rfl
@[simp] theorem Trydp.typeInfo85 : ∀ (w : Go.World), Go.Sem.run (cutP Go.Proofs.Tryd.prog) (Go.typeInfo 85) w = Go.Result.ok Go.Proofs.Tryd.t85 w := by intros; kernel_rfl
@[simp] theorem Trydp.typeInfo86 : ∀ (w : Go.World), Go.Sem.run (cutP Go.Proofs.Tryd.prog) (Go.typeInfo 86) w = Go.Result.ok Go.Proofs.Tryd.t86 w := by intros; kernel_rfl
@[simp] theorem Trydp.typeInfo87 : ∀ (w : Go.World), Go.Sem.run (cutP Go.Proofs.Tryd.prog) (Go.typeInfo 87) w = Go.Result.ok Go.Proofs.Tryd.t87 w := by intros; kernel_rfl
@[simp] theorem Trydp.typeInfo88 : ∀ (w : Go.World), Go.Sem.run (cutP Go.Proofs.Tryd.prog) (Go.typeInfo 88) w = Go.Result.ok Go.Proofs.Tryd.t88 w := by intros; kernel_rfl
@[simp] theorem Trydp.typeInfo89 : ∀ (w : Go.World), Go.Sem.run (cutP Go.Proofs.Tryd.prog) (Go.typeInfo 89) w = Go.Result.ok Go.Proofs.Tryd.t89 w := by intros; kernel_rfl
@[simp] theorem Trydp.typeInfo9 : ∀ (w : Go.World), Go.Sem.run (cutP Go.Proofs.Tryd.prog) (Go.typeInfo 9) w = Go.Result.ok Go.Proofs.Tryd.t9 w := by intros; kernel_rfl
@[simp] theorem Trydp.typeInfo90 : ∀ (w : Go.World), Go.Sem.run (cutP Go.Proofs.Tryd.prog) (Go.typeInfo 90) w = Go.Result.ok Go.Proofs.Tryd.t90 w := by intros; kernel_rfl
@[simp] theorem Trydp.typeInfo91 : ∀ (w : Go.World), Go.Sem.run (cutP Go.Proofs.Tryd.prog) (Go.typeInfo 91) w = Go.Result.ok Go.Proofs.Tryd.t91 w := by intros; kernel_rfl
@[simp] theorem Trydp.typeInfo92 : ∀ (w : Go.World), Go.Sem.run (cutP Go.Proofs.Tryd.prog) (Go.typeInfo 92) w = Go.Result.ok Go.Proofs.Tryd.t92 w := by intros; kernel_rfl
@[simp] theorem Trydp.typeInfo93 : ∀ (w : Go.World), Go.Sem.run (cutP Go.Proofs.Tryd.prog) (Go.typeInfo 93) w = Go.Result.ok Go.Proofs.Tryd.t93 w := by intros; kernel_rfl
@[simp] theorem Trydp.typeInfo94 : ∀ (w : Go.World), Go.Sem.run (cutP Go.Proofs.Tryd.prog) (Go.typeInfo 94) w = Go.Result.ok Go.Proofs.Tryd.t94 w := by intros; kernel_rfl
@[simp] theorem Trydp.typeInfo95 : ∀ (w : Go.World), Go.Sem.run (cutP Go.Proofs.Tryd.prog) (Go.typeInfo 95) w = Go.Result.ok Go.Proofs.Tryd.t95 w := by intros; kernel_rfl
@[simp] theorem Trydp.typeInfo96 : ∀ (w : Go.World), Go.Sem.run (cutP Go.Proofs.Tryd.prog) (Go.typeInfo 96) w = Go.Result.ok Go.Proofs.Tryd.t96 w := by intros; kernel_rfl
@[simp] theorem Trydp.typeInfo97 : ∀ (w : Go.World), Go.Sem.run (cutP Go.Proofs.Tryd.prog) (Go.typeInfo 97) w = Go.Result.ok Go.Proofs.Tryd.t97 w := by intros; kernel_rfl
@[simp] theorem Trydp.typeInfo98 : ∀ (w : Go.World), Go.Sem.run (cutP Go.Proofs.Tryd.prog) (Go.typeInfo 98) w = Go.Result.ok Go.Proofs.Tryd.t98 w := by intros; kernel_rfl
@[simp] theorem Trydp.typeInfo99 : ∀ (w : Go.World), Go.Sem.run (cutP Go.Proofs.Tryd.prog) (Go.typeInfo 99) w = Go.Result.ok Go.Proofs.Tryd.t99 w := by intros; kernel_rfl
@[simp] theorem Trydp.types_size : (cutP Go.Proofs.Tryd.prog).types.size = 133 := by kernel_rfl
@[simp] theorem Trydp.underlying0 : (cutP Go.Proofs.Tryd.prog).underlying 0 = Option.some (Go.TypeDesc.tuple #[]) := by kernel_rfl
@[simp] theorem Trydp.underlying1 : (cutP Go.Proofs.Tryd.prog).underlying 1 = Option.some (Go.TypeDesc.func #[] #[] Bool.false) := by kernel_rfl
@[simp] theorem Trydp.underlying10 : (cutP Go.Proofs.Tryd.prog).underlying 10 = Option.some Go.TypeDesc.string := by kernel_rfl
@[simp] theorem Trydp.underlying100 : (cutP Go.Proofs.Tryd.prog).underlying 100 = Option.some (Go.TypeDesc.func #[9] #[] Bool.false) := by kernel_rfl
@[simp] theorem Trydp.underlying101 : (cutP Go.Proofs.Tryd.prog).underlying 101 = Option.some (Go.TypeDesc.func #[78] #[78] Bool.false) := by kernel_rfl
@[simp] theorem Trydp.underlying102 : (cutP Go.Proofs.Tryd.prog).underlying 102 = Option.some (Go.TypeDesc.pointer 81) := by kernel_rfl
@[simp] theorem Trydp.underlying103 : (cutP Go.Proofs.Tryd.prog).underlying 103 = Option.some (Go.TypeDesc.func #[] #[78] Bool.false) := by kernel_rfl
@[simp] theorem Trydp.underlying104 : (cutP Go.Proofs.Tryd.prog).underlying 104 = Option.some (Go.TypeDesc.func #[78] #[] Bool.false) := by kernel_rfl
@[simp] theorem Trydp.underlying105 : (cutP Go.Proofs.Tryd.prog).underlying 105 = Option.some (Go.TypeDesc.func #[94] #[] Bool.false) := by kernel_rfl
@[simp] theorem Trydp.underlying106 : (cutP Go.Proofs.Tryd.prog).underlying 106 = Option.some (Go.TypeDesc.func #[102, 4, 3] #[] Bool.false) := by kernel_rfl
@[simp] theorem Trydp.underlying107 : (cutP Go.Proofs.Tryd.prog).underlying 107 = Option.some (Go.TypeDesc.func #[94] #[4] Bool.false) := by kernel_rfl
@[simp] theorem Trydp.underlying108 : (cutP Go.Proofs.Tryd.prog).underlying 108 = Option.some (Go.TypeDesc.func #[78, 78] #[4] Bool.false) := by kernel_rfl
@[simp] theorem Trydp.underlying109 : (cutP Go.Proofs.Tryd.prog).underlying 109 = Option.some (Go.TypeDesc.func #[102, 4] #[] Bool.false) := by kernel_rfl
@[simp] theorem Trydp.underlying11 : (cutP Go.Proofs.Tryd.prog).underlying 11 = Option.some Go.TypeDesc.string := by kernel_rfl
@[simp] theorem Trydp.underlying110 : (cutP Go.Proofs.Tryd.prog).underlying 110 = Option.some (Go.TypeDesc.array 32 5) := by kernel_rfl
@[simp] theorem Trydp.underlying111 : (cutP Go.Proofs.Tryd.prog).underlying 111 = Option.some (Go.TypeDesc.array 64 5) := by kernel_rfl
@[simp] theorem Trydp.underlying112 : (cutP Go.Proofs.Tryd.prog).underlying 112 = Option.some (Go.TypeDesc.func #[26] #[66] Bool.false) := by kernel_rfl
@[simp] theorem Trydp.underlying113 : (cutP Go.Proofs.Tryd.prog).underlying 113 = Option.some (Go.TypeDesc.pointer 80) := by kernel_rfl
@[simp] theorem Trydp.underlying114 : (cutP Go.Proofs.Tryd.prog).underlying 114 = Option.some (Go.TypeDesc.func #[115, 78] #[78] Bool.false) := by kernel_rfl
@[simp] theorem Trydp.underlying115 : (cutP Go.Proofs.Tryd.prog).underlying 115 = Option.some (Go.TypeDesc.pointer 78) := by kernel_rfl
@[simp] theorem Trydp.underlying116 : (cutP Go.Proofs.Tryd.prog).underlying 116 = Option.some (Go.TypeDesc.func #[115] #[78] Bool.false) := by kernel_rfl
@[simp] theorem Trydp.underlying117 : (cutP Go.Proofs.Tryd.prog).underlying 117 = Option.some (Go.TypeDesc.func #[115, 78] #[] Bool.false) := by kernel_rfl
@[simp] theorem Trydp.underlying118 : (cutP Go.Proofs.Tryd.prog).underlying 118 = Option.some (Go.TypeDesc.func #[115, 78, 78] #[4] Bool.false) := by kernel_rfl
@[simp] theorem Trydp.underlying119 : (cutP Go.Proofs.Tryd.prog).underlying 119 = Option.some (Go.TypeDesc.func #[] #[9] Bool.false) := by kernel_rfl
@[simp] theorem Trydp.underlying12 : (cutP Go.Proofs.Tryd.prog).underlying 12 = Option.some (Go.TypeDesc.int Go.IntKind.u64) := by kernel_rfl
@[simp] theorem Trydp.underlying120 : (cutP Go.Proofs.Tryd.prog).underlying 120 = Option.some (Go.TypeDesc.struct #[{ name := "_interface", type := 17, offset := 0, embedded := Bool.false, tag := "", pkgPath := "runtime", byteOffset := 0 }, { name := "concrete", type := 17, offset := 1, embedded := Bool.false, tag := "", pkgPath := "runtime", byteOffset := 8 }, { name := "asserted", type := 17, offset := 2, embedded := Bool.false, tag := "", pkgPath := "runtime", byteOffset := 16 }, { name := "missingMethod", type := 9, offset := 3, embedded := Bool.false, tag := "", pkgPath := "runtime", byteOffset := 24 }]) := by kernel_rfl
@[simp] theorem Trydp.underlying121 : (cutP Go.Proofs.Tryd.prog).underlying 121 = Option.some (Go.TypeDesc.struct #[{ name := "_interface", type := 17, offset := 0, embedded := Bool.false, tag := "", pkgPath := "runtime", byteOffset := 0 }, { name := "concrete", type := 17, offset := 1, embedded := Bool.false, tag := "", pkgPath := "runtime", byteOffset := 8 }, { name := "asserted", type := 17, offset := 2, embedded := Bool.false, tag := "", pkgPath := "runtime", byteOffset := 16 }, { name := "missingMethod", type := 9, offset := 3, embedded := Bool.false, tag := "", pkgPath := "runtime", byteOffset := 24 }]) := by kernel_rfl
@[simp] theorem Trydp.underlying122 : (cutP Go.Proofs.Tryd.prog).underlying 122 = Option.some (Go.TypeDesc.array 0 16) := by kernel_rfl
@[simp] theorem Trydp.underlying123 : (cutP Go.Proofs.Tryd.prog).underlying 123 = Option.some (Go.TypeDesc.struct #[{ name := "_", type := 122, offset := 0, embedded := Bool.false, tag := "", pkgPath := "runtime", byteOffset := 0 }]) := by kernel_rfl
@[simp] theorem Trydp.underlying124 : (cutP Go.Proofs.Tryd.prog).underlying 124 = Option.some (Go.TypeDesc.struct #[{ name := "_", type := 122, offset := 0, embedded := Bool.false, tag := "", pkgPath := "runtime", byteOffset := 0 }]) := by kernel_rfl
@[simp] theorem Trydp.underlying125 : (cutP Go.Proofs.Tryd.prog).underlying 125 = Option.some (Go.TypeDesc.int Go.IntKind.u8) := by kernel_rfl
@[simp] theorem Trydp.underlying126 : (cutP Go.Proofs.Tryd.prog).underlying 126 = Option.some (Go.TypeDesc.int Go.IntKind.u8) := by kernel_rfl
@[simp] theorem Trydp.underlying127 : (cutP Go.Proofs.Tryd.prog).underlying 127 = Option.some (Go.TypeDesc.func #[96, 96] #[4] Bool.false) := by kernel_rfl
@[simp] theorem Trydp.underlying128 : (cutP Go.Proofs.Tryd.prog).underlying 128 = Option.some (Go.TypeDesc.pointer 5) := by kernel_rfl
@[simp] theorem Trydp.underlying129 : (cutP Go.Proofs.Tryd.prog).underlying 129 = Option.some (Go.TypeDesc.int Go.IntKind.i32) := by kernel_rfl
@[simp] theorem Trydp.underlying13 : (cutP Go.Proofs.Tryd.prog).underlying 13 = Option.some (Go.TypeDesc.struct #[{ name := "msg", type := 9, offset := 0, embedded := Bool.false, tag := "", pkgPath := "runtime", byteOffset := 0 }, { name := "addr", type := 12, offset := 1, embedded := Bool.false, tag := "", pkgPath := "runtime", byteOffset := 16 }]) := by kernel_rfl
@[simp] theorem Trydp.underlying130 : (cutP Go.Proofs.Tryd.prog).underlying 130 = Option.some (Go.TypeDesc.int Go.IntKind.i32) := by kernel_rfl
@[simp] theorem Trydp.underlying131 : (cutP Go.Proofs.Tryd.prog).underlying 131 = Option.some (Go.TypeDesc.struct #[{ name := "Size_", type := 12, offset := 0, embedded := Bool.false, tag := "", pkgPath := "", byteOffset := 0 }, { name := "PtrBytes", type := 12, offset := 1, embedded := Bool.false, tag := "", pkgPath := "", byteOffset := 8 }, { name := "Hash", type := 81, offset := 2, embedded := Bool.false, tag := "", pkgPath := "", byteOffset := 16 }, { name := "TFlag", type := 125, offset := 3, embedded := Bool.false, tag := "", pkgPath := "", byteOffset := 20 }, { name := "Align_", type := 5, offset := 4, embedded := Bool.false, tag := "", pkgPath := "", byteOffset := 21 }, { name := "FieldAlign_", type := 5, offset := 5, embedded := Bool.false, tag := "", pkgPath := "", byteOffset := 22 }, { name := "Kind_", type := 126, offset := 6, embedded := Bool.false, tag := "", pkgPath := "", byteOffset := 23 }, { name := "Equal", type := 127, offset := 7, embedded := Bool.false, tag := "", pkgPath := "", byteOffset := 24 }, { name := "GCData", type := 128, offset := 8, embedded := Bool.false, tag := "", pkgPath := "", byteOffset := 32 }, { name := "Str", type := 129, offset := 9, embedded := Bool.false, tag := "", pkgPath := "", byteOffset := 40 }, { name := "PtrToThis", type := 130, offset := 10, embedded := Bool.false, tag := "", pkgPath := "", byteOffset := 44 }]) := by kernel_rfl
@[simp] theorem Trydp.underlying132 : (cutP Go.Proofs.Tryd.prog).underlying 132 = Option.some (Go.TypeDesc.struct #[{ name := "Size_", type := 12, offset := 0, embedded := Bool.false, tag := "", pkgPath := "", byteOffset := 0 }, { name := "PtrBytes", type := 12, offset := 1, embedded := Bool.false, tag := "", pkgPath := "", byteOffset := 8 }, { name := "Hash", type := 81, offset := 2, embedded := Bool.false, tag := "", pkgPath := "", byteOffset := 16 }, { name := "TFlag", type := 125, offset := 3, embedded := Bool.false, tag := "", pkgPath := "", byteOffset := 20 }, { name := "Align_", type := 5, offset := 4, embedded := Bool.false, tag := "", pkgPath := "", byteOffset := 21 }, { name := "FieldAlign_", type := 5, offset := 5, embedded := Bool.false, tag := "", pkgPath := "", byteOffset := 22 }, { name := "Kind_", type := 126, offset := 6, embedded := Bool.false, tag := "", pkgPath := "", byteOffset := 23 }, { name := "Equal", type := 127, offset := 7, embedded := Bool.false, tag := "", pkgPath := "", byteOffset := 24 }, { name := "GCData", type := 128, offset := 8, embedded := Bool.false, tag := "", pkgPath := "", byteOffset := 32 }, { name := "Str", type := 129, offset := 9, embedded := Bool.false, tag := "", pkgPath := "", byteOffset := 40 }, { name := "PtrToThis", type := 130, offset := 10, embedded := Bool.false, tag := "", pkgPath := "", byteOffset := 44 }]) := by kernel_rfl
@[simp] theorem Trydp.underlying14 : (cutP Go.Proofs.Tryd.prog).underlying 14 = Option.some (Go.TypeDesc.struct #[{ name := "msg", type := 9, offset := 0, embedded := Bool.false, tag := "", pkgPath := "runtime", byteOffset := 0 }, { name := "addr", type := 12, offset := 1, embedded := Bool.false, tag := "", pkgPath := "runtime", byteOffset := 16 }]) := by kernel_rfl
@[simp] theorem Trydp.underlying15 : (cutP Go.Proofs.Tryd.prog).underlying 15 = Option.some (Go.TypeDesc.pointer 121) := by kernel_rfl
@[simp] theorem Trydp.underlying16 : (cutP Go.Proofs.Tryd.prog).underlying 16 = Option.some (Go.TypeDesc.pointer 124) := by kernel_rfl
@[simp] theorem Trydp.underlying17 : (cutP Go.Proofs.Tryd.prog).underlying 17 = Option.some (Go.TypeDesc.pointer 132) := by kernel_rfl
@[simp] theorem Trydp.underlying18 : (cutP Go.Proofs.Tryd.prog).underlying 18 = Option.some (Go.TypeDesc.struct #[{ name := "typ", type := 17, offset := 0, embedded := Bool.false, tag := "", pkgPath := "internal/runtime/maps", byteOffset := 0 }]) := by kernel_rfl
@[simp] theorem Trydp.underlying19 : (cutP Go.Proofs.Tryd.prog).underlying 19 = Option.some (Go.TypeDesc.struct #[{ name := "typ", type := 17, offset := 0, embedded := Bool.false, tag := "", pkgPath := "internal/runtime/maps", byteOffset := 0 }]) := by kernel_rfl
@[simp] theorem Trydp.underlying2 : (cutP Go.Proofs.Tryd.prog).underlying 2 = Option.some (Go.TypeDesc.int Go.IntKind.i64) := by kernel_rfl
@[simp] theorem Trydp.underlying20 : (cutP Go.Proofs.Tryd.prog).underlying 20 = Option.some (Go.TypeDesc.interface #[]) := by kernel_rfl
@[simp] theorem Trydp.underlying21 : (cutP Go.Proofs.Tryd.prog).underlying 21 = Option.some (Go.TypeDesc.int Go.IntKind.i32) := by kernel_rfl
@[simp] theorem Trydp.underlying22 : (cutP Go.Proofs.Tryd.prog).underlying 22 = Option.some (Go.TypeDesc.slice 5) := by kernel_rfl
@[simp] theorem Trydp.underlying23 : (cutP Go.Proofs.Tryd.prog).underlying 23 = Option.some (Go.TypeDesc.slice 26) := by kernel_rfl
@[simp] theorem Trydp.underlying24 : (cutP Go.Proofs.Tryd.prog).underlying 24 = Option.some (Go.TypeDesc.func #[22] #[23] Bool.false) := by kernel_rfl
@[simp] theorem Trydp.underlying25 : (cutP Go.Proofs.Tryd.prog).underlying 25 = Option.some (Go.TypeDesc.func #[23] #[4] Bool.false) := by kernel_rfl
@[simp] theorem Trydp.underlying26 : (cutP Go.Proofs.Tryd.prog).underlying 26 = Option.some (Go.TypeDesc.slice 3) := by kernel_rfl
@[simp] theorem Trydp.underlying27 : (cutP Go.Proofs.Tryd.prog).underlying 27 = Option.some (Go.TypeDesc.tuple #[26, 4]) := by kernel_rfl
@[simp] theorem Trydp.underlying28 : (cutP Go.Proofs.Tryd.prog).underlying 28 = Option.some (Go.TypeDesc.func #[23] #[26, 4] Bool.false) := by kernel_rfl
@[simp] theorem Trydp.underlying29 : (cutP Go.Proofs.Tryd.prog).underlying 29 = Option.some (Go.TypeDesc.tuple #[3, 4]) := by kernel_rfl
@[simp] theorem Trydp.underlying3 : (cutP Go.Proofs.Tryd.prog).underlying 3 = Option.some (Go.TypeDesc.int Go.IntKind.i64) := by kernel_rfl
@[simp] theorem Trydp.underlying30 : (cutP Go.Proofs.Tryd.prog).underlying 30 = Option.some (Go.TypeDesc.func #[26, 23] #[3, 4] Bool.false) := by kernel_rfl
@[simp] theorem Trydp.underlying31 : (cutP Go.Proofs.Tryd.prog).underlying 31 = Option.some (Go.TypeDesc.func #[26] #[26, 4] Bool.false) := by kernel_rfl
@[simp] theorem Trydp.underlying32 : (cutP Go.Proofs.Tryd.prog).underlying 32 = Option.some (Go.TypeDesc.func #[22] #[4] Bool.false) := by kernel_rfl
@[simp] theorem Trydp.underlying33 : (cutP Go.Proofs.Tryd.prog).underlying 33 = Option.some (Go.TypeDesc.func #[23, 3] #[3] Bool.false) := by kernel_rfl
@[simp] theorem Trydp.underlying34 : (cutP Go.Proofs.Tryd.prog).underlying 34 = Option.some (Go.TypeDesc.func #[23] #[23] Bool.false) := by kernel_rfl
@[simp] theorem Trydp.underlying35 : (cutP Go.Proofs.Tryd.prog).underlying 35 = Option.some (Go.TypeDesc.func #[23, 23] #[4] Bool.false) := by kernel_rfl
@[simp] theorem Trydp.underlying36 : (cutP Go.Proofs.Tryd.prog).underlying 36 = Option.some (Go.TypeDesc.slice 39) := by kernel_rfl
@[simp] theorem Trydp.underlying37 : (cutP Go.Proofs.Tryd.prog).underlying 37 = Option.some (Go.TypeDesc.func #[23, 3] #[36] Bool.false) := by kernel_rfl
@[simp] theorem Trydp.underlying38 : (cutP Go.Proofs.Tryd.prog).underlying 38 = Option.some (Go.TypeDesc.int Go.IntKind.u64) := by kernel_rfl
@[simp] theorem Trydp.underlying39 : (cutP Go.Proofs.Tryd.prog).underlying 39 = Option.some (Go.TypeDesc.int Go.IntKind.u64) := by kernel_rfl
@[simp] theorem Trydp.underlying4 : (cutP Go.Proofs.Tryd.prog).underlying 4 = Option.some Go.TypeDesc.bool := by kernel_rfl
@[simp] theorem Trydp.underlying40 : (cutP Go.Proofs.Tryd.prog).underlying 40 = Option.some (Go.TypeDesc.func #[51] #[] Bool.false) := by kernel_rfl
@[simp] theorem Trydp.underlying41 : (cutP Go.Proofs.Tryd.prog).underlying 41 = Option.some (Go.TypeDesc.func #[51] #[] Bool.false) := by kernel_rfl
@[simp] theorem Trydp.underlying42 : (cutP Go.Proofs.Tryd.prog).underlying 42 = Option.some (Go.TypeDesc.func #[] #[41] Bool.false) := by kernel_rfl
@[simp] theorem Trydp.underlying43 : (cutP Go.Proofs.Tryd.prog).underlying 43 = Option.some (Go.TypeDesc.slice 44) := by kernel_rfl
@[simp] theorem Trydp.underlying44 : (cutP Go.Proofs.Tryd.prog).underlying 44 = Option.some (Go.TypeDesc.slice 4) := by kernel_rfl
@[simp] theorem Trydp.underlying45 : (cutP Go.Proofs.Tryd.prog).underlying 45 = Option.some (Go.TypeDesc.tuple #[23, 4]) := by kernel_rfl
@[simp] theorem Trydp.underlying46 : (cutP Go.Proofs.Tryd.prog).underlying 46 = Option.some (Go.TypeDesc.func #[3] #[23, 4] Bool.false) := by kernel_rfl
@[simp] theorem Trydp.underlying47 : (cutP Go.Proofs.Tryd.prog).underlying 47 = Option.some (Go.TypeDesc.func #[23, 23] #[26] Bool.false) := by kernel_rfl
@[simp] theorem Trydp.underlying48 : (cutP Go.Proofs.Tryd.prog).underlying 48 = Option.some (Go.TypeDesc.func #[26, 3] #[3] Bool.false) := by kernel_rfl
@[simp] theorem Trydp.underlying49 : (cutP Go.Proofs.Tryd.prog).underlying 49 = Option.some (Go.TypeDesc.func #[26] #[3] Bool.false) := by kernel_rfl
@[simp] theorem Trydp.underlying5 : (cutP Go.Proofs.Tryd.prog).underlying 5 = Option.some (Go.TypeDesc.int Go.IntKind.u8) := by kernel_rfl
@[simp] theorem Trydp.underlying50 : (cutP Go.Proofs.Tryd.prog).underlying 50 = Option.some (Go.TypeDesc.func #[26, 26] #[4] Bool.false) := by kernel_rfl
@[simp] theorem Trydp.underlying51 : (cutP Go.Proofs.Tryd.prog).underlying 51 = Option.some (Go.TypeDesc.func #[3] #[4] Bool.false) := by kernel_rfl
@[simp] theorem Trydp.underlying52 : (cutP Go.Proofs.Tryd.prog).underlying 52 = Option.some (Go.TypeDesc.func #[26] #[26] Bool.false) := by kernel_rfl
@[simp] theorem Trydp.underlying53 : (cutP Go.Proofs.Tryd.prog).underlying 53 = Option.some (Go.TypeDesc.func #[54] #[23] Bool.false) := by kernel_rfl
@[simp] theorem Trydp.underlying54 : (cutP Go.Proofs.Tryd.prog).underlying 54 = Option.some (Go.TypeDesc.pointer 72) := by kernel_rfl
@[simp] theorem Trydp.underlying55 : (cutP Go.Proofs.Tryd.prog).underlying 55 = Option.some (Go.TypeDesc.func #[22] #[54] Bool.false) := by kernel_rfl
@[simp] theorem Trydp.underlying56 : (cutP Go.Proofs.Tryd.prog).underlying 56 = Option.some (Go.TypeDesc.func #[23, 3, 48] #[26] Bool.false) := by kernel_rfl
@[simp] theorem Trydp.underlying57 : (cutP Go.Proofs.Tryd.prog).underlying 57 = Option.some (Go.TypeDesc.func #[3] #[39] Bool.false) := by kernel_rfl
@[simp] theorem Trydp.underlying58 : (cutP Go.Proofs.Tryd.prog).underlying 58 = Option.some (Go.TypeDesc.func #[38] #[3] Bool.false) := by kernel_rfl
@[simp] theorem Trydp.underlying59 : (cutP Go.Proofs.Tryd.prog).underlying 59 = Option.some (Go.TypeDesc.func #[26] #[4] Bool.false) := by kernel_rfl
@[simp] theorem Trydp.underlying6 : (cutP Go.Proofs.Tryd.prog).underlying 6 = Option.some (Go.TypeDesc.int Go.IntKind.u8) := by kernel_rfl
@[simp] theorem Trydp.underlying60 : (cutP Go.Proofs.Tryd.prog).underlying 60 = Option.some (Go.TypeDesc.func #[3, 3, 3] #[4] Bool.false) := by kernel_rfl
@[simp] theorem Trydp.underlying61 : (cutP Go.Proofs.Tryd.prog).underlying 61 = Option.some (Go.TypeDesc.func #[3, 3] #[3] Bool.false) := by kernel_rfl
@[simp] theorem Trydp.underlying62 : (cutP Go.Proofs.Tryd.prog).underlying 62 = Option.some (Go.TypeDesc.func #[88] #[] Bool.false) := by kernel_rfl
@[simp] theorem Trydp.underlying63 : (cutP Go.Proofs.Tryd.prog).underlying 63 = Option.some (Go.TypeDesc.func #[88] #[] Bool.false) := by kernel_rfl
@[simp] theorem Trydp.underlying64 : (cutP Go.Proofs.Tryd.prog).underlying 64 = Option.some (Go.TypeDesc.func #[3] #[63] Bool.false) := by kernel_rfl
@[simp] theorem Trydp.underlying65 : (cutP Go.Proofs.Tryd.prog).underlying 65 = Option.some (Go.TypeDesc.array 8 3) := by kernel_rfl
@[simp] theorem Trydp.underlying66 : (cutP Go.Proofs.Tryd.prog).underlying 66 = Option.some (Go.TypeDesc.array 8 3) := by kernel_rfl
@[simp] theorem Trydp.underlying67 : (cutP Go.Proofs.Tryd.prog).underlying 67 = Option.some (Go.TypeDesc.func #[] #[26] Bool.false) := by kernel_rfl
@[simp] theorem Trydp.underlying68 : (cutP Go.Proofs.Tryd.prog).underlying 68 = Option.some (Go.TypeDesc.func #[26, 26] #[3] Bool.false) := by kernel_rfl
@[simp] theorem Trydp.underlying69 : (cutP Go.Proofs.Tryd.prog).underlying 69 = Option.some (Go.TypeDesc.func #[3] #[3] Bool.false) := by kernel_rfl
@[simp] theorem Trydp.underlying7 : (cutP Go.Proofs.Tryd.prog).underlying 7 = Option.some (Go.TypeDesc.struct #[{ name := "x", type := 2, offset := 0, embedded := Bool.false, tag := "", pkgPath := "runtime", byteOffset := 0 }, { name := "y", type := 3, offset := 1, embedded := Bool.false, tag := "", pkgPath := "runtime", byteOffset := 8 }, { name := "signed", type := 4, offset := 2, embedded := Bool.false, tag := "", pkgPath := "runtime", byteOffset := 16 }, { name := "code", type := 6, offset := 3, embedded := Bool.false, tag := "", pkgPath := "runtime", byteOffset := 17 }]) := by kernel_rfl
@[simp] theorem Trydp.underlying70 : (cutP Go.Proofs.Tryd.prog).underlying 70 = Option.some (Go.TypeDesc.func #[54, 3] #[26] Bool.false) := by kernel_rfl
@[simp] theorem Trydp.underlying71 : (cutP Go.Proofs.Tryd.prog).underlying 71 = Option.some (Go.TypeDesc.struct #[{ name := "b", type := 22, offset := 0, embedded := Bool.false, tag := "", pkgPath := "loop.example/setparts/spec", byteOffset := 0 }, { name := "p", type := 3, offset := 1, embedded := Bool.false, tag := "", pkgPath := "loop.example/setparts/spec", byteOffset := 24 }]) := by kernel_rfl
@[simp] theorem Trydp.underlying72 : (cutP Go.Proofs.Tryd.prog).underlying 72 = Option.some (Go.TypeDesc.struct #[{ name := "b", type := 22, offset := 0, embedded := Bool.false, tag := "", pkgPath := "loop.example/setparts/spec", byteOffset := 0 }, { name := "p", type := 3, offset := 1, embedded := Bool.false, tag := "", pkgPath := "loop.example/setparts/spec", byteOffset := 24 }]) := by kernel_rfl
@[simp] theorem Trydp.underlying73 : (cutP Go.Proofs.Tryd.prog).underlying 73 = Option.some (Go.TypeDesc.slice 84) := by kernel_rfl
@[simp] theorem Trydp.underlying74 : (cutP Go.Proofs.Tryd.prog).underlying 74 = Option.some (Go.TypeDesc.struct #[]) := by kernel_rfl
@[simp] theorem Trydp.underlying75 : (cutP Go.Proofs.Tryd.prog).underlying 75 = Option.some (Go.TypeDesc.struct #[]) := by kernel_rfl
@[simp] theorem Trydp.underlying76 : (cutP Go.Proofs.Tryd.prog).underlying 76 = Option.some (Go.TypeDesc.struct #[]) := by kernel_rfl
@[simp] theorem Trydp.underlying77 : (cutP Go.Proofs.Tryd.prog).underlying 77 = Option.some (Go.TypeDesc.struct #[]) := by kernel_rfl
@[simp] theorem Trydp.underlying78 : (cutP Go.Proofs.Tryd.prog).underlying 78 = Option.some (Go.TypeDesc.int Go.IntKind.u64) := by kernel_rfl
@[simp] theorem Trydp.underlying79 : (cutP Go.Proofs.Tryd.prog).underlying 79 = Option.some (Go.TypeDesc.struct #[{ name := "_", type := 76, offset := 0, embedded := Bool.false, tag := "", pkgPath := "sync/atomic", byteOffset := 0 }, { name := "_", type := 77, offset := 0, embedded := Bool.false, tag := "", pkgPath := "sync/atomic", byteOffset := 0 }, { name := "v", type := 78, offset := 0, embedded := Bool.false, tag := "", pkgPath := "sync/atomic", byteOffset := 0 }]) := by kernel_rfl
@[simp] theorem Trydp.underlying8 : (cutP Go.Proofs.Tryd.prog).underlying 8 = Option.some (Go.TypeDesc.struct #[{ name := "x", type := 2, offset := 0, embedded := Bool.false, tag := "", pkgPath := "runtime", byteOffset := 0 }, { name := "y", type := 3, offset := 1, embedded := Bool.false, tag := "", pkgPath := "runtime", byteOffset := 8 }, { name := "signed", type := 4, offset := 2, embedded := Bool.false, tag := "", pkgPath := "runtime", byteOffset := 16 }, { name := "code", type := 6, offset := 3, embedded := Bool.false, tag := "", pkgPath := "runtime", byteOffset := 17 }]) := by kernel_rfl
@[simp] theorem Trydp.underlying80 : (cutP Go.Proofs.Tryd.prog).underlying 80 = Option.some (Go.TypeDesc.struct #[{ name := "_", type := 76, offset := 0, embedded := Bool.false, tag := "", pkgPath := "sync/atomic", byteOffset := 0 }, { name := "_", type := 77, offset := 0, embedded := Bool.false, tag := "", pkgPath := "sync/atomic", byteOffset := 0 }, { name := "v", type := 78, offset := 0, embedded := Bool.false, tag := "", pkgPath := "sync/atomic", byteOffset := 0 }]) := by kernel_rfl
@[simp] theorem Trydp.underlying81 : (cutP Go.Proofs.Tryd.prog).underlying 81 = Option.some (Go.TypeDesc.int Go.IntKind.u32) := by kernel_rfl
@[simp] theorem Trydp.underlying82 : (cutP Go.Proofs.Tryd.prog).underlying 82 = Option.some (Go.TypeDesc.struct #[{ name := "noCopy", type := 75, offset := 0, embedded := Bool.false, tag := "", pkgPath := "sync", byteOffset := 0 }, { name := "state", type := 80, offset := 0, embedded := Bool.false, tag := "", pkgPath := "sync", byteOffset := 0 }, { name := "sema", type := 81, offset := 1, embedded := Bool.false, tag := "", pkgPath := "sync", byteOffset := 8 }]) := by kernel_rfl
@[simp] theorem Trydp.underlying83 : (cutP Go.Proofs.Tryd.prog).underlying 83 = Option.some (Go.TypeDesc.struct #[{ name := "noCopy", type := 75, offset := 0, embedded := Bool.false, tag := "", pkgPath := "sync", byteOffset := 0 }, { name := "state", type := 80, offset := 0, embedded := Bool.false, tag := "", pkgPath := "sync", byteOffset := 0 }, { name := "sema", type := 81, offset := 1, embedded := Bool.false, tag := "", pkgPath := "sync", byteOffset := 8 }]) := by kernel_rfl
@[simp] theorem Trydp.underlying84 : (cutP Go.Proofs.Tryd.prog).underlying 84 = Option.some (Go.TypeDesc.chan Go.ChanDir.both 3) := by kernel_rfl
@[simp] theorem Trydp.underlying85 : (cutP Go.Proofs.Tryd.prog).underlying 85 = Option.some (Go.TypeDesc.func #[3] #[] Bool.false) := by kernel_rfl
@[simp] theorem Trydp.underlying86 : (cutP Go.Proofs.Tryd.prog).underlying 86 = Option.some (Go.TypeDesc.func #[81] #[3] Bool.false) := by kernel_rfl
@[simp] theorem Trydp.underlying87 : (cutP Go.Proofs.Tryd.prog).underlying 87 = Option.some (Go.TypeDesc.func #[78] #[3] Bool.false) := by kernel_rfl
@[simp] theorem Trydp.underlying88 : (cutP Go.Proofs.Tryd.prog).underlying 88 = Option.some (Go.TypeDesc.func #[66] #[4] Bool.false) := by kernel_rfl
@[simp] theorem Trydp.underlying89 : (cutP Go.Proofs.Tryd.prog).underlying 89 = Option.some (Go.TypeDesc.func #[3] #[66] Bool.false) := by kernel_rfl
@[simp] theorem Trydp.underlying9 : (cutP Go.Proofs.Tryd.prog).underlying 9 = Option.some Go.TypeDesc.string := by kernel_rfl
@[simp] theorem Trydp.underlying90 : (cutP Go.Proofs.Tryd.prog).underlying 90 = Option.some (Go.TypeDesc.tuple #[66, 4]) := by kernel_rfl
@[simp] theorem Trydp.underlying91 : (cutP Go.Proofs.Tryd.prog).underlying 91 = Option.some (Go.TypeDesc.func #[] #[66, 4] Bool.false) := by kernel_rfl
@[simp] theorem Trydp.underlying92 : (cutP Go.Proofs.Tryd.prog).underlying 92 = Option.some (Go.TypeDesc.func #[] #[3] Bool.false) := by kernel_rfl
@[simp] theorem Trydp.underlying93 : (cutP Go.Proofs.Tryd.prog).underlying 93 = Option.some (Go.TypeDesc.func #[26, 26, 3, 3] #[4] Bool.false) := by kernel_rfl
@[simp] theorem Trydp.underlying94 : (cutP Go.Proofs.Tryd.prog).underlying 94 = Option.some (Go.TypeDesc.pointer 83) := by kernel_rfl
@[simp] theorem Trydp.underlying95 : (cutP Go.Proofs.Tryd.prog).underlying 95 = Option.some (Go.TypeDesc.func #[96] #[] Bool.false) := by kernel_rfl
@[simp] theorem Trydp.underlying96 : (cutP Go.Proofs.Tryd.prog).underlying 96 = Option.some Go.TypeDesc.unsafePointer := by kernel_rfl
@[simp] theorem Trydp.underlying97 : (cutP Go.Proofs.Tryd.prog).underlying 97 = Option.some (Go.TypeDesc.func #[] #[4] Bool.false) := by kernel_rfl
@[simp] theorem Trydp.underlying98 : (cutP Go.Proofs.Tryd.prog).underlying 98 = Option.some (Go.TypeDesc.int Go.IntKind.i64) := by kernel_rfl
@[simp] theorem Trydp.underlying99 : (cutP Go.Proofs.Tryd.prog).underlying 99 = Option.some (Go.TypeDesc.func #[94] #[98] Bool.false) := by kernel_rfl
@[simp] theorem Trydp.zeroValue0 : ∀ (w : Go.World), Go.Sem.run (cutP Go.Proofs.Tryd.prog) (Go.zeroValue 0) w = Go.Result.ok (Go.Value.tuple #[]) w := by intros; kernel_rfl
@[simp] theorem Trydp.zeroValue1 : ∀ (w : Go.World), Go.Sem.run (cutP Go.Proofs.Tryd.prog) (Go.zeroValue 1) w = Go.Result.ok Go.Value.nilFunc w := by intros; kernel_rfl
@[simp] theorem Trydp.zeroValue10 : ∀ (w : Go.World), Go.Sem.run (cutP Go.Proofs.Tryd.prog) (Go.zeroValue 10) w = Go.Result.ok (Go.Value.string { data := #[] }) w := by intros; kernel_rfl
@[simp] theorem Trydp.zeroValue100 : ∀ (w : Go.World), Go.Sem.run (cutP Go.Proofs.Tryd.prog) (Go.zeroValue 100) w = Go.Result.ok Go.Value.nilFunc w := by intros; kernel_rfl
@[simp] theorem Trydp.zeroValue101 : ∀ (w : Go.World), Go.Sem.run (cutP Go.Proofs.Tryd.prog) (Go.zeroValue 101) w = Go.Result.ok Go.Value.nilFunc w := by intros; kernel_rfl
@[simp] theorem Trydp.zeroValue102 : ∀ (w : Go.World), Go.Sem.run (cutP Go.Proofs.Tryd.prog) (Go.zeroValue 102) w = Go.Result.ok (Go.Value.pointer Option.none) w := by intros; kernel_rfl
@[simp] theorem Trydp.zeroValue103 : ∀ (w : Go.World), Go.Sem.run (cutP Go.Proofs.Tryd.prog) (Go.zeroValue 103) w = Go.Result.ok Go.Value.nilFunc w := by intros; kernel_rfl
@[simp] theorem Trydp.zeroValue104 : ∀ (w : Go.World), Go.Sem.run (cutP Go.Proofs.Tryd.prog) (Go.zeroValue 104) w = Go.Result.ok Go.Value.nilFunc w := by intros; kernel_rfl
@[simp] theorem Trydp.zeroValue105 : ∀ (w : Go.World), Go.Sem.run (cutP Go.Proofs.Tryd.prog) (Go.zeroValue 105) w = Go.Result.ok Go.Value.nilFunc w := by intros; kernel_rfl
@[simp] theorem Trydp.zeroValue106 : ∀ (w : Go.World), Go.Sem.run (cutP Go.Proofs.Tryd.prog) (Go.zeroValue 106) w = Go.Result.ok Go.Value.nilFunc w := by intros; kernel_rfl
@[simp] theorem Trydp.zeroValue107 : ∀ (w : Go.World), Go.Sem.run (cutP Go.Proofs.Tryd.prog) (Go.zeroValue 107) w = Go.Result.ok Go.Value.nilFunc w := by intros; kernel_rfl
@[simp] theorem Trydp.zeroValue108 : ∀ (w : Go.World), Go.Sem.run (cutP Go.Proofs.Tryd.prog) (Go.zeroValue 108) w = Go.Result.ok Go.Value.nilFunc w := by intros; kernel_rfl
@[simp] theorem Trydp.zeroValue109 : ∀ (w : Go.World), Go.Sem.run (cutP Go.Proofs.Tryd.prog) (Go.zeroValue 109) w = Go.Result.ok Go.Value.nilFunc w := by intros; kernel_rfl
@[simp] theorem Trydp.zeroValue11 : ∀ (w : Go.World), Go.Sem.run (cutP Go.Proofs.Tryd.prog) (Go.zeroValue 11) w = Go.Result.ok (Go.Value.string { data := #[] }) w := by intros; kernel_rfl
@[simp] theorem Trydp.zeroValue110 : ∀ (w : Go.World), Go.Sem.run (cutP Go.Proofs.Tryd.prog) (Go.zeroValue 110) w = Go.Result.ok (Go.Value.agg #[Go.Value.int Go.IntKind.u8 0, Go.Value.int Go.IntKind.u8 0, Go.Value.int Go.IntKind.u8 0, Go.Value.int Go.IntKind.u8 0, Go.Value.int Go.IntKind.u8 0, Go.Value.int Go.IntKind.u8 0, Go.Value.int Go.IntKind.u8 0, Go.Value.int Go.IntKind.u8 0, Go.Value.int Go.IntKind.u8 0, Go.Value.int Go.IntKind.u8 0, Go.Value.int Go.IntKind.u8 0, Go.Value.int Go.IntKind.u8 0, Go.Value.int Go.IntKind.u8 0, Go.Value.int Go.IntKind.u8 0, Go.Value.int Go.IntKind.u8 0, Go.Value.int Go.IntKind.u8 0, Go.Value.int Go.IntKind.u8 0, Go.Value.int Go.IntKind.u8 0, Go.Value.int Go.IntKind.u8 0, Go.Value.int Go.IntKind.u8 0, Go.Value.int Go.IntKind.u8 0, Go.Value.int Go.IntKind.u8 0, Go.Value.int Go.IntKind.u8 0, Go.Value.int Go.IntKind.u8 0, Go.Value.int Go.IntKind.u8 0, Go.Value.int Go.IntKind.u8 0, Go.Value.int Go.IntKind.u8 0, Go.Value.int Go.IntKind.u8 0, Go.Value.int Go.IntKind.u8 0, Go.Value.int Go.IntKind.u8 0, Go.Value.int Go.IntKind.u8 0, Go.Value.int Go.IntKind.u8 0]) w := by intros; kernel_rfl
@[simp] theorem Trydp.zeroValue111 : ∀ (w : Go.World), Go.Sem.run (cutP Go.Proofs.Tryd.prog) (Go.zeroValue 111) w = Go.Result.ok (Go.Value.agg #[Go.Value.int Go.IntKind.u8 0, Go.Value.int Go.IntKind.u8 0, Go.Value.int Go.IntKind.u8 0, Go.Value.int Go.IntKind.u8 0, Go.Value.int Go.IntKind.u8 0, Go.Value.int Go.IntKind.u8 0, Go.Value.int Go.IntKind.u8 0, Go.Value.int Go.IntKind.u8 0, Go.Value.int Go.IntKind.u8 0, Go.Value.int Go.IntKind.u8 0, Go.Value.int Go.IntKind.u8 0, Go.Value.int Go.IntKind.u8 0, Go.Value.int Go.IntKind.u8 0, Go.Value.int Go.IntKind.u8 0, Go.Value.int Go.IntKind.u8 0, Go.Value.int Go.IntKind.u8 0, Go.Value.int Go.IntKind.u8 0, Go.Value.int Go.IntKind.u8 0, Go.Value.int Go.IntKind.u8 0, Go.Value.int Go.IntKind.u8 0, Go.Value.int Go.IntKind.u8 0, Go.Value.int Go.IntKind.u8 0, Go.Value.int Go.IntKind.u8 0, Go.Value.int Go.IntKind.u8 0, Go.Value.int Go.IntKind.u8 0, Go.Value.int Go.IntKind.u8 0, Go.Value.int Go.IntKind.u8 0, Go.Value.int Go.IntKind.u8 0, Go.Value.int Go.IntKind.u8 0, Go.Value.int Go.IntKind.u8 0, Go.Value.int Go.IntKind.u8 0, Go.Value.int Go.IntKind.u8 0, Go.Value.int Go.IntKind.u8 0, Go.Value.int Go.IntKind.u8 0, Go.Value.int Go.IntKind.u8 0, Go.Value.int Go.IntKind.u8 0, Go.Value.int Go.IntKind.u8 0, Go.Value.int Go.IntKind.u8 0, Go.Value.int Go.IntKind.u8 0, Go.Value.int Go.IntKind.u8 0, Go.Value.int Go.IntKind.u8 0, Go.Value.int Go.IntKind.u8 0, Go.Value.int Go.IntKind.u8 0, Go.Value.int Go.IntKind.u8 0, Go.Value.int Go.IntKind.u8 0, Go.Value.int Go.IntKind.u8 0, Go.Value.int Go.IntKind.u8 0, Go.Value.int Go.IntKind.u8 0, Go.Value.int Go.IntKind.u8 0, Go.Value.int Go.IntKind.u8 0, Go.Value.int Go.IntKind.u8 0, Go.Value.int Go.IntKind.u8 0, Go.Value.int Go.IntKind.u8 0, Go.Value.int Go.IntKind.u8 0, Go.Value.int Go.IntKind.u8 0, Go.Value.int Go.IntKind.u8 0, Go.Value.int Go.IntKind.u8 0, Go.Value.int Go.IntKind.u8 0, Go.Value.int Go.IntKind.u8 0, Go.Value.int Go.IntKind.u8 0, Go.Value.int Go.IntKind.u8 0, Go.Value.int Go.IntKind.u8 0, Go.Value.int Go.IntKind.u8 0, Go.Value.int Go.IntKind.u8 0]) w := by intros; kernel_rfl
@[simp] theorem Trydp.zeroValue112 : ∀ (w : Go.World), Go.Sem.run (cutP Go.Proofs.Tryd.prog) (Go.zeroValue 112) w = Go.Result.ok Go.Value.nilFunc w := by intros; kernel_rfl
@[simp] theorem Trydp.zeroValue113 : ∀ (w : Go.World), Go.Sem.run (cutP Go.Proofs.Tryd.prog) (Go.zeroValue 113) w = Go.Result.ok (Go.Value.pointer Option.none) w := by intros; kernel_rfl
@[simp] theorem Trydp.zeroValue114 : ∀ (w : Go.World), Go.Sem.run (cutP Go.Proofs.Tryd.prog) (Go.zeroValue 114) w = Go.Result.ok Go.Value.nilFunc w := by intros; kernel_rfl
@[simp] theorem Trydp.zeroValue115 : ∀ (w : Go.World), Go.Sem.run (cutP Go.Proofs.Tryd.prog) (Go.zeroValue 115) w = Go.Result.ok (Go.Value.pointer Option.none) w := by intros; kernel_rfl
@[simp] theorem Trydp.zeroValue116 : ∀ (w : Go.World), Go.Sem.run (cutP Go.Proofs.Tryd.prog) (Go.zeroValue 116) w = Go.Result.ok Go.Value.nilFunc w := by intros; kernel_rfl
@[simp] theorem Trydp.zeroValue117 : ∀ (w : Go.World), Go.Sem.run (cutP Go.Proofs.Tryd.prog) (Go.zeroValue 117) w = Go.Result.ok Go.Value.nilFunc w := by intros; kernel_rfl
@[simp] theorem Trydp.zeroValue118 : ∀ (w : Go.World), Go.Sem.run (cutP Go.Proofs.Tryd.prog) (Go.zeroValue 118) w = Go.Result.ok Go.Value.nilFunc w := by intros; kernel_rfl
@[simp] theorem Trydp.zeroValue119 : ∀ (w : Go.World), Go.Sem.run (cutP Go.Proofs.Tryd.prog) (Go.zeroValue 119) w = Go.Result.ok Go.Value.nilFunc w := by intros; kernel_rfl
@[simp] theorem Trydp.zeroValue12 : ∀ (w : Go.World), Go.Sem.run (cutP Go.Proofs.Tryd.prog) (Go.zeroValue 12) w = Go.Result.ok (Go.Value.int Go.IntKind.u64 0) w := by intros; kernel_rfl
@[simp] theorem Trydp.zeroValue120 : ∀ (w : Go.World), Go.Sem.run (cutP Go.Proofs.Tryd.prog) (Go.zeroValue 120) w = Go.Result.ok (Go.Value.agg #[Go.Value.pointer Option.none, Go.Value.pointer Option.none, Go.Value.pointer Option.none, Go.Value.string { data := #[] }]) w := by intros; kernel_rfl
@[simp] theorem Trydp.zeroValue121 : ∀ (w : Go.World), Go.Sem.run (cutP Go.Proofs.Tryd.prog) (Go.zeroValue 121) w = Go.Result.ok (Go.Value.agg #[Go.Value.pointer Option.none, Go.Value.pointer Option.none, Go.Value.pointer Option.none, Go.Value.string { data := #[] }]) w := by intros; kernel_rfl
@[simp] theorem Trydp.zeroValue122 : ∀ (w : Go.World), Go.Sem.run (cutP Go.Proofs.Tryd.prog) (Go.zeroValue 122) w = Go.Result.ok (Go.Value.agg #[]) w := by intros; kernel_rfl
@[simp] theorem Trydp.zeroValue123 : ∀ (w : Go.World), Go.Sem.run (cutP Go.Proofs.Tryd.prog) (Go.zeroValue 123) w = Go.Result.ok (Go.Value.agg #[]) w := by intros; kernel_rfl
@[simp] theorem Trydp.zeroValue124 : ∀ (w : Go.World), Go.Sem.run (cutP Go.Proofs.Tryd.prog) (Go.zeroValue 124) w = Go.Result.ok (Go.Value.agg #[]) w := by intros; kernel_rfl
@[simp] theorem Trydp.zeroValue125 : ∀ (w : Go.World), Go.Sem.run (cutP Go.Proofs.Tryd.prog) (Go.zeroValue 125) w = Go.Result.ok (Go.Value.int Go.IntKind.u8 0) w := by intros; kernel_rfl
@[simp] theorem Trydp.zeroValue126 : ∀ (w : Go.World), Go.Sem.run (cutP Go.Proofs.Tryd.prog) (Go.zeroValue 126) w = Go.Result.ok (Go.Value.int Go.IntKind.u8 0) w := by intros; kernel_rfl
@[simp] theorem Trydp.zeroValue127 : ∀ (w : Go.World), Go.Sem.run (cutP Go.Proofs.Tryd.prog) (Go.zeroValue 127) w = Go.Result.ok Go.Value.nilFunc w := by intros; kernel_rfl
@[simp] theorem Trydp.zeroValue128 : ∀ (w : Go.World), Go.Sem.run (cutP Go.Proofs.Tryd.prog) (Go.zeroValue 128) w = Go.Result.ok (Go.Value.pointer Option.none) w := by intros; kernel_rfl
@[simp] theorem Trydp.zeroValue129 : ∀ (w : Go.World), Go.Sem.run (cutP Go.Proofs.Tryd.prog) (Go.zeroValue 129) w = Go.Result.ok (Go.Value.int Go.IntKind.i32 0) w := by intros; kernel_rfl
@[simp] theorem Trydp.zeroValue13 : ∀ (w : Go.World), Go.Sem.run (cutP Go.Proofs.Tryd.prog) (Go.zeroValue 13) w = Go.Result.ok (Go.Value.agg #[Go.Value.string { data := #[] }, Go.Value.int Go.IntKind.u64 0]) w := by intros; kernel_rfl
@[simp] theorem Trydp.zeroValue130 : ∀ (w : Go.World), Go.Sem.run (cutP Go.Proofs.Tryd.prog) (Go.zeroValue 130) w = Go.Result.ok (Go.Value.int Go.IntKind.i32 0) w := by intros; kernel_rfl
@[simp] theorem Trydp.zeroValue131 : ∀ (w : Go.World), Go.Sem.run (cutP Go.Proofs.Tryd.prog) (Go.zeroValue 131) w = Go.Result.ok (Go.Value.agg #[Go.Value.int Go.IntKind.u64 0, Go.Value.int Go.IntKind.u64 0, Go.Value.int Go.IntKind.u32 0, Go.Value.int Go.IntKind.u8 0, Go.Value.int Go.IntKind.u8 0, Go.Value.int Go.IntKind.u8 0, Go.Value.int Go.IntKind.u8 0, Go.Value.nilFunc, Go.Value.pointer Option.none, Go.Value.int Go.IntKind.i32 0, Go.Value.int Go.IntKind.i32 0]) w := by intros; kernel_rfl
@[simp] theorem Trydp.zeroValue132 : ∀ (w : Go.World), Go.Sem.run (cutP Go.Proofs.Tryd.prog) (Go.zeroValue 132) w = Go.Result.ok (Go.Value.agg #[Go.Value.int Go.IntKind.u64 0, Go.Value.int Go.IntKind.u64 0, Go.Value.int Go.IntKind.u32 0, Go.Value.int Go.IntKind.u8 0, Go.Value.int Go.IntKind.u8 0, Go.Value.int Go.IntKind.u8 0, Go.Value.int Go.IntKind.u8 0, Go.Value.nilFunc, Go.Value.pointer Option.none, Go.Value.int Go.IntKind.i32 0, Go.Value.int Go.IntKind.i32 0]) w := by intros; kernel_rfl
@[simp] theorem Trydp.zeroValue14 : ∀ (w : Go.World), Go.Sem.run (cutP Go.Proofs.Tryd.prog) (Go.zeroValue 14) w = Go.Result.ok (Go.Value.agg #[Go.Value.string { data := #[] }, Go.Value.int Go.IntKind.u64 0]) w := by intros; kernel_rfl
@[simp] theorem Trydp.zeroValue15 : ∀ (w : Go.World), Go.Sem.run (cutP Go.Proofs.Tryd.prog) (Go.zeroValue 15) w = Go.Result.ok (Go.Value.pointer Option.none) w := by intros; kernel_rfl
@[simp] theorem Trydp.zeroValue16 : ∀ (w : Go.World), Go.Sem.run (cutP Go.Proofs.Tryd.prog) (Go.zeroValue 16) w = Go.Result.ok (Go.Value.pointer Option.none) w := by intros; kernel_rfl
@[simp] theorem Trydp.zeroValue17 : ∀ (w : Go.World), Go.Sem.run (cutP Go.Proofs.Tryd.prog) (Go.zeroValue 17) w = Go.Result.ok (Go.Value.pointer Option.none) w := by intros; kernel_rfl
@[simp] theorem Trydp.zeroValue18 : ∀ (w : Go.World), Go.Sem.run (cutP Go.Proofs.Tryd.prog) (Go.zeroValue 18) w = Go.Result.ok (Go.Value.agg #[Go.Value.pointer Option.none]) w := by intros; kernel_rfl
@[simp] theorem Trydp.zeroValue19 : ∀ (w : Go.World), Go.Sem.run (cutP Go.Proofs.Tryd.prog) (Go.zeroValue 19) w = Go.Result.ok (Go.Value.agg #[Go.Value.pointer Option.none]) w := by intros; kernel_rfl
@[simp] theorem Trydp.zeroValue2 : ∀ (w : Go.World), Go.Sem.run (cutP Go.Proofs.Tryd.prog) (Go.zeroValue 2) w = Go.Result.ok (Go.Value.int Go.IntKind.i64 0) w := by intros; kernel_rfl
@[simp] theorem Trydp.zeroValue20 : ∀ (w : Go.World), Go.Sem.run (cutP Go.Proofs.Tryd.prog) (Go.zeroValue 20) w = Go.Result.ok Go.Value.nilIface w := by intros; kernel_rfl
@[simp] theorem Trydp.zeroValue21 : ∀ (w : Go.World), Go.Sem.run (cutP Go.Proofs.Tryd.prog) (Go.zeroValue 21) w = Go.Result.ok (Go.Value.int Go.IntKind.i32 0) w := by intros; kernel_rfl
@[simp] theorem Trydp.zeroValue22 : ∀ (w : Go.World), Go.Sem.run (cutP Go.Proofs.Tryd.prog) (Go.zeroValue 22) w = Go.Result.ok (Go.Value.slice Option.none 0 0) w := by intros; kernel_rfl
@[simp] theorem Trydp.zeroValue23 : ∀ (w : Go.World), Go.Sem.run (cutP Go.Proofs.Tryd.prog) (Go.zeroValue 23) w = Go.Result.ok (Go.Value.slice Option.none 0 0) w := by intros; kernel_rfl
@[simp] theorem Trydp.zeroValue24 : ∀ (w : Go.World), Go.Sem.run (cutP Go.Proofs.Tryd.prog) (Go.zeroValue 24) w = Go.Result.ok Go.Value.nilFunc w := by intros; kernel_rfl
@[simp] theorem Trydp.zeroValue25 : ∀ (w : Go.World), Go.Sem.run (cutP Go.Proofs.Tryd.prog) (Go.zeroValue 25) w = Go.Result.ok Go.Value.nilFunc w := by intros; kernel_rfl
@[simp] theorem Trydp.zeroValue26 : ∀ (w : Go.World), Go.Sem.run (cutP Go.Proofs.Tryd.prog) (Go.zeroValue 26) w = Go.Result.ok (Go.Value.slice Option.none 0 0) w := by intros; kernel_rfl
@[simp] theorem Trydp.zeroValue27 : ∀ (w : Go.World), Go.Sem.run (cutP Go.Proofs.Tryd.prog) (Go.zeroValue 27) w = Go.Result.ok (Go.Value.tuple #[Go.Value.slice Option.none 0 0, Go.Value.bool Bool.false]) w := by intros; kernel_rfl
@[simp] theorem Trydp.zeroValue28 : ∀ (w : Go.World), Go.Sem.run (cutP Go.Proofs.Tryd.prog) (Go.zeroValue 28) w = Go.Result.ok Go.Value.nilFunc w := by intros; kernel_rfl
@[simp] theorem Trydp.zeroValue29 : ∀ (w : Go.World), Go.Sem.run (cutP Go.Proofs.Tryd.prog) (Go.zeroValue 29) w = Go.Result.ok (Go.Value.tuple #[Go.Value.int Go.IntKind.i64 0, Go.Value.bool Bool.false]) w := by intros; kernel_rfl
@[simp] theorem Trydp.zeroValue3 : ∀ (w : Go.World), Go.Sem.run (cutP Go.Proofs.Tryd.prog) (Go.zeroValue 3) w = Go.Result.ok (Go.Value.int Go.IntKind.i64 0) w := by intros; kernel_rfl
@[simp] theorem Trydp.zeroValue30 : ∀ (w : Go.World), Go.Sem.run (cutP Go.Proofs.Tryd.prog) (Go.zeroValue 30) w = Go.Result.ok Go.Value.nilFunc w := by intros; kernel_rfl
@[simp] theorem Trydp.zeroValue31 : ∀ (w : Go.World), Go.Sem.run (cutP Go.Proofs.Tryd.prog) (Go.zeroValue 31) w = Go.Result.ok Go.Value.nilFunc w := by intros; kernel_rfl
@[simp] theorem Trydp.zeroValue32 : ∀ (w : Go.World), Go.Sem.run (cutP Go.Proofs.Tryd.prog) (Go.zeroValue 32) w = Go.Result.ok Go.Value.nilFunc w := by intros; kernel_rfl
@[simp] theorem Trydp.zeroValue33 : ∀ (w : Go.World), Go.Sem.run (cutP Go.Proofs.Tryd.prog) (Go.zeroValue 33) w = Go.Result.ok Go.Value.nilFunc w := by intros; kernel_rfl
@[simp] theorem Trydp.zeroValue34 : ∀ (w : Go.World), Go.Sem.run (cutP Go.Proofs.Tryd.prog) (Go.zeroValue 34) w = Go.Result.ok Go.Value.nilFunc w := by intros; kernel_rfl
@[simp] theorem Trydp.zeroValue35 : ∀ (w : Go.World), Go.Sem.run (cutP Go.Proofs.Tryd.prog) (Go.zeroValue 35) w = Go.Result.ok Go.Value.nilFunc w := by intros; kernel_rfl
@[simp] theorem Trydp.zeroValue36 : ∀ (w : Go.World), Go.Sem.run (cutP Go.Proofs.Tryd.prog) (Go.zeroValue 36) w = Go.Result.ok (Go.Value.slice Option.none 0 0) w := by intros; kernel_rfl
@[simp] theorem Trydp.zeroValue37 : ∀ (w : Go.World), Go.Sem.run (cutP Go.Proofs.Tryd.prog) (Go.zeroValue 37) w = Go.Result.ok Go.Value.nilFunc w := by intros; kernel_rfl
@[simp] theorem Trydp.zeroValue38 : ∀ (w : Go.World), Go.Sem.run (cutP Go.Proofs.Tryd.prog) (Go.zeroValue 38) w = Go.Result.ok (Go.Value.int Go.IntKind.u64 0) w := by intros; kernel_rfl
@[simp] theorem Trydp.zeroValue39 : ∀ (w : Go.World), Go.Sem.run (cutP Go.Proofs.Tryd.prog) (Go.zeroValue 39) w = Go.Result.ok (Go.Value.int Go.IntKind.u64 0) w := by intros; kernel_rfl
@[simp] theorem Trydp.zeroValue4 : ∀ (w : Go.World), Go.Sem.run (cutP Go.Proofs.Tryd.prog) (Go.zeroValue 4) w = Go.Result.ok (Go.Value.bool Bool.false) w := by intros; kernel_rfl
@[simp] theorem Trydp.zeroValue40 : ∀ (w : Go.World), Go.Sem.run (cutP Go.Proofs.Tryd.prog) (Go.zeroValue 40) w = Go.Result.ok Go.Value.nilFunc w := by intros; kernel_rfl
@[simp] theorem Trydp.zeroValue41 : ∀ (w : Go.World), Go.Sem.run (cutP Go.Proofs.Tryd.prog) (Go.zeroValue 41) w = Go.Result.ok Go.Value.nilFunc w := by intros; kernel_rfl
@[simp] theorem Trydp.zeroValue42 : ∀ (w : Go.World), Go.Sem.run (cutP Go.Proofs.Tryd.prog) (Go.zeroValue 42) w = Go.Result.ok Go.Value.nilFunc w := by intros; kernel_rfl
@[simp] theorem Trydp.zeroValue43 : ∀ (w : Go.World), Go.Sem.run (cutP Go.Proofs.Tryd.prog) (Go.zeroValue 43) w = Go.Result.ok (Go.Value.slice Option.none 0 0) w := by intros; kernel_rfl
@[simp] theorem Trydp.zeroValue44 : ∀ (w : Go.World), Go.Sem.run (cutP Go.Proofs.Tryd.prog) (Go.zeroValue 44) w = Go.Result.ok (Go.Value.slice Option.none 0 0) w := by intros; kernel_rfl
@[simp] theorem Trydp.zeroValue45 : ∀ (w : Go.World), Go.Sem.run (cutP Go.Proofs.Tryd.prog) (Go.zeroValue 45) w = Go.Result.ok (Go.Value.tuple #[Go.Value.slice Option.none 0 0, Go.Value.bool Bool.false]) w := by intros; kernel_rfl
@[simp] theorem Trydp.zeroValue46 : ∀ (w : Go.World), Go.Sem.run (cutP Go.Proofs.Tryd.prog) (Go.zeroValue 46) w = Go.Result.ok Go.Value.nilFunc w := by intros; kernel_rfl
@[simp] theorem Trydp.zeroValue47 : ∀ (w : Go.World), Go.Sem.run (cutP Go.Proofs.Tryd.prog) (Go.zeroValue 47) w = Go.Result.ok Go.Value.nilFunc w := by intros; kernel_rfl
@[simp] theorem Trydp.zeroValue48 : ∀ (w : Go.World), Go.Sem.run (cutP Go.Proofs.Tryd.prog) (Go.zeroValue 48) w = Go.Result.ok Go.Value.nilFunc w := by intros; kernel_rfl
@[simp] theorem Trydp.zeroValue49 : ∀ (w : Go.World), Go.Sem.run (cutP Go.Proofs.Tryd.prog) (Go.zeroValue 49) w = Go.Result.ok Go.Value.nilFunc w := by intros; kernel_rfl
@[simp] theorem Trydp.zeroValue5 : ∀ (w : Go.World), Go.Sem.run (cutP Go.Proofs.Tryd.prog) (Go.zeroValue 5) w = Go.Result.ok (Go.Value.int Go.IntKind.u8 0) w := by intros; kernel_rfl
@[simp] theorem Trydp.zeroValue50 : ∀ (w : Go.World), Go.Sem.run (cutP Go.Proofs.Tryd.prog) (Go.zeroValue 50) w = Go.Result.ok Go.Value.nilFunc w := by intros; kernel_rfl
@[simp] theorem Trydp.zeroValue51 : ∀ (w : Go.World), Go.Sem.run (cutP Go.Proofs.Tryd.prog) (Go.zeroValue 51) w = Go.Result.ok Go.Value.nilFunc w := by intros; kernel_rfl
@[simp] theorem Trydp.zeroValue52 : ∀ (w : Go.World), Go.Sem.run (cutP Go.Proofs.Tryd.prog) (Go.zeroValue 52) w = Go.Result.ok Go.Value.nilFunc w := by intros; kernel_rfl
@[simp] theorem Trydp.zeroValue53 : ∀ (w : Go.World), Go.Sem.run (cutP Go.Proofs.Tryd.prog) (Go.zeroValue 53) w = Go.Result.ok Go.Value.nilFunc w := by intros; kernel_rfl
@[simp] theorem Trydp.zeroValue54 : ∀ (w : Go.World), Go.Sem.run (cutP Go.Proofs.Tryd.prog) (Go.zeroValue 54) w = Go.Result.ok (Go.Value.pointer Option.none) w := by intros; kernel_rfl
@[simp] theorem Trydp.zeroValue55 : ∀ (w : Go.World), Go.Sem.run (cutP Go.Proofs.Tryd.prog) (Go.zeroValue 55) w = Go.Result.ok Go.Value.nilFunc w := by intros; kernel_rfl
@[simp] theorem Trydp.zeroValue56 : ∀ (w : Go.World), Go.Sem.run (cutP Go.Proofs.Tryd.prog) (Go.zeroValue 56) w = Go.Result.ok Go.Value.nilFunc w := by intros; kernel_rfl
@[simp] theorem Trydp.zeroValue57 : ∀ (w : Go.World), Go.Sem.run (cutP Go.Proofs.Tryd.prog) (Go.zeroValue 57) w = Go.Result.ok Go.Value.nilFunc w := by intros; kernel_rfl
@[simp] theorem Trydp.zeroValue58 : ∀ (w : Go.World), Go.Sem.run (cutP Go.Proofs.Tryd.prog) (Go.zeroValue 58) w = Go.Result.ok Go.Value.nilFunc w := by intros; kernel_rfl
@[simp] theorem Trydp.zeroValue59 : ∀ (w : Go.World), Go.Sem.run (cutP Go.Proofs.Tryd.prog) (Go.zeroValue 59) w = Go.Result.ok Go.Value.nilFunc w := by intros; kernel_rfl
@[simp] theorem Trydp.zeroValue6 : ∀ (w : Go.World), Go.Sem.run (cutP Go.Proofs.Tryd.prog) (Go.zeroValue 6) w = Go.Result.ok (Go.Value.int Go.IntKind.u8 0) w := by intros; kernel_rfl
@[simp] theorem Trydp.zeroValue60 : ∀ (w : Go.World), Go.Sem.run (cutP Go.Proofs.Tryd.prog) (Go.zeroValue 60) w = Go.Result.ok Go.Value.nilFunc w := by intros; kernel_rfl
@[simp] theorem Trydp.zeroValue61 : ∀ (w : Go.World), Go.Sem.run (cutP Go.Proofs.Tryd.prog) (Go.zeroValue 61) w = Go.Result.ok Go.Value.nilFunc w := by intros; kernel_rfl
@[simp] theorem Trydp.zeroValue62 : ∀ (w : Go.World), Go.Sem.run (cutP Go.Proofs.Tryd.prog) (Go.zeroValue 62) w = Go.Result.ok Go.Value.nilFunc w := by intros; kernel_rfl
@[simp] theorem Trydp.zeroValue63 : ∀ (w : Go.World), Go.Sem.run (cutP Go.Proofs.Tryd.prog) (Go.zeroValue 63) w = Go.Result.ok Go.Value.nilFunc w := by intros; kernel_rfl
@[simp] theorem Trydp.zeroValue64 : ∀ (w : Go.World), Go.Sem.run (cutP Go.Proofs.Tryd.prog) (Go.zeroValue 64) w = Go.Result.ok Go.Value.nilFunc w := by intros; kernel_rfl
@[simp] theorem Trydp.zeroValue65 : ∀ (w : Go.World), Go.Sem.run (cutP Go.Proofs.Tryd.prog) (Go.zeroValue 65) w = Go.Result.ok (Go.Value.agg #[Go.Value.int Go.IntKind.i64 0, Go.Value.int Go.IntKind.i64 0, Go.Value.int Go.IntKind.i64 0, Go.Value.int Go.IntKind.i64 0, Go.Value.int Go.IntKind.i64 0, Go.Value.int Go.IntKind.i64 0, Go.Value.int Go.IntKind.i64 0, Go.Value.int Go.IntKind.i64 0]) w := by intros; kernel_rfl
@[simp] theorem Trydp.zeroValue66 : ∀ (w : Go.World), Go.Sem.run (cutP Go.Proofs.Tryd.prog) (Go.zeroValue 66) w = Go.Result.ok (Go.Value.agg #[Go.Value.int Go.IntKind.i64 0, Go.Value.int Go.IntKind.i64 0, Go.Value.int Go.IntKind.i64 0, Go.Value.int Go.IntKind.i64 0, Go.Value.int Go.IntKind.i64 0, Go.Value.int Go.IntKind.i64 0, Go.Value.int Go.IntKind.i64 0, Go.Value.int Go.IntKind.i64 0]) w := by intros; kernel_rfl
@[simp] theorem Trydp.zeroValue67 : ∀ (w : Go.World), Go.Sem.run (cutP Go.Proofs.Tryd.prog) (Go.zeroValue 67) w = Go.Result.ok Go.Value.nilFunc w := by intros; kernel_rfl
@[simp] theorem Trydp.zeroValue68 : ∀ (w : Go.World), Go.Sem.run (cutP Go.Proofs.Tryd.prog) (Go.zeroValue 68) w = Go.Result.ok Go.Value.nilFunc w := by intros; kernel_rfl
@[simp] theorem Trydp.zeroValue69 : ∀ (w : Go.World), Go.Sem.run (cutP Go.Proofs.Tryd.prog) (Go.zeroValue 69) w = Go.Result.ok Go.Value.nilFunc w := by intros; kernel_rfl
@[simp] theorem Trydp.zeroValue7 : ∀ (w : Go.World), Go.Sem.run (cutP Go.Proofs.Tryd.prog) (Go.zeroValue 7) w = Go.Result.ok (Go.Value.agg #[Go.Value.int Go.IntKind.i64 0, Go.Value.int Go.IntKind.i64 0, Go.Value.bool Bool.false, Go.Value.int Go.IntKind.u8 0]) w := by intros; kernel_rfl
@[simp] theorem Trydp.zeroValue70 : ∀ (w : Go.World), Go.Sem.run (cutP Go.Proofs.Tryd.prog) (Go.zeroValue 70) w = Go.Result.ok Go.Value.nilFunc w := by intros; kernel_rfl
@[simp] theorem Trydp.zeroValue71 : ∀ (w : Go.World), Go.Sem.run (cutP Go.Proofs.Tryd.prog) (Go.zeroValue 71) w = Go.Result.ok (Go.Value.agg #[Go.Value.slice Option.none 0 0, Go.Value.int Go.IntKind.i64 0]) w := by intros; kernel_rfl
@[simp] theorem Trydp.zeroValue72 : ∀ (w : Go.World), Go.Sem.run (cutP Go.Proofs.Tryd.prog) (Go.zeroValue 72) w = Go.Result.ok (Go.Value.agg #[Go.Value.slice Option.none 0 0, Go.Value.int Go.IntKind.i64 0]) w := by intros; kernel_rfl
@[simp] theorem Trydp.zeroValue73 : ∀ (w : Go.World), Go.Sem.run (cutP Go.Proofs.Tryd.prog) (Go.zeroValue 73) w = Go.Result.ok (Go.Value.slice Option.none 0 0) w := by intros; kernel_rfl
@[simp] theorem Trydp.zeroValue74 : ∀ (w : Go.World), Go.Sem.run (cutP Go.Proofs.Tryd.prog) (Go.zeroValue 74) w = Go.Result.ok (Go.Value.agg #[]) w := by intros; kernel_rfl
@[simp] theorem Trydp.zeroValue75 : ∀ (w : Go.World), Go.Sem.run (cutP Go.Proofs.Tryd.prog) (Go.zeroValue 75) w = Go.Result.ok (Go.Value.agg #[]) w := by intros; kernel_rfl
@[simp] theorem Trydp.zeroValue76 : ∀ (w : Go.World), Go.Sem.run (cutP Go.Proofs.Tryd.prog) (Go.zeroValue 76) w = Go.Result.ok (Go.Value.agg #[]) w := by intros; kernel_rfl
@[simp] theorem Trydp.zeroValue77 : ∀ (w : Go.World), Go.Sem.run (cutP Go.Proofs.Tryd.prog) (Go.zeroValue 77) w = Go.Result.ok (Go.Value.agg #[]) w := by intros; kernel_rfl
@[simp] theorem Trydp.zeroValue78 : ∀ (w : Go.World), Go.Sem.run (cutP Go.Proofs.Tryd.prog) (Go.zeroValue 78) w = Go.Result.ok (Go.Value.int Go.IntKind.u64 0) w := by intros; kernel_rfl
@[simp] theorem Trydp.zeroValue79 : ∀ (w : Go.World), Go.Sem.run (cutP Go.Proofs.Tryd.prog) (Go.zeroValue 79) w = Go.Result.ok (Go.Value.agg #[Go.Value.int Go.IntKind.u64 0]) w := by intros; kernel_rfl
@[simp] theorem Trydp.zeroValue8 : ∀ (w : Go.World), Go.Sem.run (cutP Go.Proofs.Tryd.prog) (Go.zeroValue 8) w = Go.Result.ok (Go.Value.agg #[Go.Value.int Go.IntKind.i64 0, Go.Value.int Go.IntKind.i64 0, Go.Value.bool Bool.false, Go.Value.int Go.IntKind.u8 0]) w := by intros; kernel_rfl
@[simp] theorem Trydp.zeroValue80 : ∀ (w : Go.World), Go.Sem.run (cutP Go.Proofs.Tryd.prog) (Go.zeroValue 80) w = Go.Result.ok (Go.Value.agg #[Go.Value.int Go.IntKind.u64 0]) w := by intros; kernel_rfl
@[simp] theorem Trydp.zeroValue81 : ∀ (w : Go.World), Go.Sem.run (cutP Go.Proofs.Tryd.prog) (Go.zeroValue 81) w = Go.Result.ok (Go.Value.int Go.IntKind.u32 0) w := by intros; kernel_rfl
@[simp] theorem Trydp.zeroValue82 : ∀ (w : Go.World), Go.Sem.run (cutP Go.Proofs.Tryd.prog) (Go.zeroValue 82) w = Go.Result.ok (Go.Value.agg #[Go.Value.int Go.IntKind.u64 0, Go.Value.int Go.IntKind.u32 0]) w := by intros; kernel_rfl
@[simp] theorem Trydp.zeroValue83 : ∀ (w : Go.World), Go.Sem.run (cutP Go.Proofs.Tryd.prog) (Go.zeroValue 83) w = Go.Result.ok (Go.Value.agg #[Go.Value.int Go.IntKind.u64 0, Go.Value.int Go.IntKind.u32 0]) w := by intros; kernel_rfl
@[simp] theorem Trydp.zeroValue84 : ∀ (w : Go.World), Go.Sem.run (cutP Go.Proofs.Tryd.prog) (Go.zeroValue 84) w = Go.Result.ok (Go.Value.chan Option.none) w := by intros; kernel_rfl
@[simp] theorem Trydp.zeroValue85 : ∀ (w : Go.World), Go.Sem.run (cutP Go.Proofs.Tryd.prog) (Go.zeroValue 85) w = Go.Result.ok Go.Value.nilFunc w := by intros; kernel_rfl
@[simp] theorem Trydp.zeroValue86 : ∀ (w : Go.World), Go.Sem.run (cutP Go.Proofs.Tryd.prog) (Go.zeroValue 86) w = Go.Result.ok Go.Value.nilFunc w := by intros; kernel_rfl
@[simp] theorem Trydp.zeroValue87 : ∀ (w : Go.World), Go.Sem.run (cutP Go.Proofs.Tryd.prog) (Go.zeroValue 87) w = Go.Result.ok Go.Value.nilFunc w := by intros; kernel_rfl
@[simp] theorem Trydp.zeroValue88 : ∀ (w : Go.World), Go.Sem.run (cutP Go.Proofs.Tryd.prog) (Go.zeroValue 88) w = Go.Result.ok Go.Value.nilFunc w := by intros; kernel_rfl
@[simp] theorem Trydp.zeroValue89 : ∀ (w : Go.World), Go.Sem.run (cutP Go.Proofs.Tryd.prog) (Go.zeroValue 89) w = Go.Result.ok Go.Value.nilFunc w := by intros; kernel_rfl
@[simp] theorem Trydp.zeroValue9 : ∀ (w : Go.World), Go.Sem.run (cutP Go.Proofs.Tryd.prog) (Go.zeroValue 9) w = Go.Result.ok (Go.Value.string { data := #[] }) w := by intros; kernel_rfl
@[simp] theorem Trydp.zeroValue90 : ∀ (w : Go.World), Go.Sem.run (cutP Go.Proofs.Tryd.prog) (Go.zeroValue 90) w = Go.Result.ok (Go.Value.tuple #[Go.Value.agg #[Go.Value.int Go.IntKind.i64 0, Go.Value.int Go.IntKind.i64 0, Go.Value.int Go.IntKind.i64 0, Go.Value.int Go.IntKind.i64 0, Go.Value.int Go.IntKind.i64 0, Go.Value.int Go.IntKind.i64 0, Go.Value.int Go.IntKind.i64 0, Go.Value.int Go.IntKind.i64 0], Go.Value.bool Bool.false]) w := by intros; kernel_rfl
@[simp] theorem Trydp.zeroValue91 : ∀ (w : Go.World), Go.Sem.run (cutP Go.Proofs.Tryd.prog) (Go.zeroValue 91) w = Go.Result.ok Go.Value.nilFunc w := by intros; kernel_rfl
@[simp] theorem Trydp.zeroValue92 : ∀ (w : Go.World), Go.Sem.run (cutP Go.Proofs.Tryd.prog) (Go.zeroValue 92) w = Go.Result.ok Go.Value.nilFunc w := by intros; kernel_rfl
@[simp] theorem Trydp.zeroValue93 : ∀ (w : Go.World), Go.Sem.run (cutP Go.Proofs.Tryd.prog) (Go.zeroValue 93) w = Go.Result.ok Go.Value.nilFunc w := by intros; kernel_rfl
@[simp] theorem Trydp.zeroValue94 : ∀ (w : Go.World), Go.Sem.run (cutP Go.Proofs.Tryd.prog) (Go.zeroValue 94) w = Go.Result.ok (Go.Value.pointer Option.none) w := by intros; kernel_rfl
@[simp] theorem Trydp.zeroValue95 : ∀ (w : Go.World), Go.Sem.run (cutP Go.Proofs.Tryd.prog) (Go.zeroValue 95) w = Go.Result.ok Go.Value.nilFunc w := by intros; kernel_rfl
@[simp] theorem Trydp.zeroValue96 : ∀ (w : Go.World), Go.Sem.run (cutP Go.Proofs.Tryd.prog) (Go.zeroValue 96) w = Go.Result.ok (Go.Value.pointer Option.none) w := by intros; kernel_rfl
@[simp] theorem Trydp.zeroValue97 : ∀ (w : Go.World), Go.Sem.run (cutP Go.Proofs.Tryd.prog) (Go.zeroValue 97) w = Go.Result.ok Go.Value.nilFunc w := by intros; kernel_rfl
@[simp] theorem Trydp.zeroValue98 : ∀ (w : Go.World), Go.Sem.run (cutP Go.Proofs.Tryd.prog) (Go.zeroValue 98) w = Go.Result.ok (Go.Value.int Go.IntKind.i64 0) w := by intros; kernel_rfl
@[simp] theorem Trydp.zeroValue99 : ∀ (w : Go.World), Go.Sem.run (cutP Go.Proofs.Tryd.prog) (Go.zeroValue 99) w = Go.Result.ok Go.Value.nilFunc w := by intros; kernel_rfl

end Go.Proofs.YtfiaiephbemdoaaDoor
