/-
  The closed facts of the row of FnExecuteNone, one at a time.
-/
import Derived.Test.YtmflecemkodklaaGreatDoorMhH
namespace Go.Proofs.YtmflecemkodklaaGreatDoor.fnExecuteNone
set_option maxRecDepth 100000
theorem f1 : Rows.fnExecuteNoneRow.wf (OpenSpec.ofChange Rows.fnExecuteNoneSpec) = true := by kernel_rfl
theorem f4 : Tryz.f3.params.all (Tryz.prog.readableRec ·) = true := by kernel_rfl
theorem f5 : namedTie Tryz.prog Rows.fnExecuteNoneRow.named Rows.fnExecuteNoneSpec.vars = true := by kernel_rfl
theorem f7 : (Rows.fnExecuteNoneRow.inPlace == Tryz.prog.inPlace 3) = true := by kernel_rfl
theorem f8 : (Rows.fnExecuteNoneRow.unfollowed == Tryz.prog.unfollowed 3) = true := by kernel_rfl
theorem f9 : (Rows.fnExecuteNoneRow.recurses == Tryz.prog.recurses 3) = true := by kernel_rfl
theorem f10 : (Rows.fnExecuteNoneRow.named == Tryz.prog.varsNamed 3) = true := by kernel_rfl
theorem f11 : ((Rows.fnExecuteNoneRow.maps == (Tryz.f3.params.toList ++ Rows.fnExecuteNoneSpec.plain.varTypes Tryz.prog).any (Tryz.prog.mapsRec ·)) && (Rows.fnExecuteNoneRow.ifaces == (Tryz.f3.params.toList ++ Rows.fnExecuteNoneSpec.plain.varTypes Tryz.prog).any (Tryz.prog.ifacesRec ·)) && (Rows.fnExecuteNoneRow.mapsOut == Tryz.prog.mapsAmong Tryz.f3.resultTypes.toList)) = true := by kernel_rfl
theorem f12 : ((Rows.fnExecuteNoneRow.loops == (Tryz.f3.params.toList ++ Rows.fnExecuteNoneSpec.plain.varTypes Tryz.prog).any (Tryz.prog.loopsFrom ·)) && (Rows.fnExecuteNoneRow.wideKeys == (Tryz.f3.params.toList ++ Rows.fnExecuteNoneSpec.plain.varTypes Tryz.prog ++ Tryz.f3.resultTypes.toList).any (Tryz.prog.wideKeysFrom ·))) = true := by kernel_rfl
theorem f13 : (Rows.fnExecuteNoneSpec.vars.all (Tryz.prog.varReadable ·) && Tryz.f3.resultTypes.all (fun t => Tryz.prog.readableRec t && decide (t < Tryz.prog.types.size)) && (Rows.fnExecuteNoneRow.ifacesOut == Tryz.f3.resultTypes.toList.any (Tryz.prog.ifacesRec ·)) && (Rows.fnExecuteNoneRow.loopsOut == Tryz.f3.resultTypes.toList.any (Tryz.prog.loopsFrom ·))) = true := by kernel_rfl
theorem f14 : (Rows.fnExecuteNoneRow.plainKeys == Tryz.prog.plainKeys) = true := by kernel_rfl
theorem f18 : (Rows.fnExecuteNoneRow.lifted == Tryz.prog.liftsFinal) = true := by kernel_rfl
theorem f19 : (Tryz.prog.make == some Rows.fnExecuteNoneRow.make) = true := by kernel_rfl
theorem f20 : (Rows.fnExecuteNoneRow.kinds == (if Rows.fnExecuteNoneRow.domain.isEmpty then [] else Tryz.f3.params.toList.map fun t => match Tryz.prog.underlying t with | some (.int k) => some k | _ => none)) = true := by kernel_rfl
theorem f21 : (Rows.fnExecuteNoneRow.pinned == Rows.fnExecuteNoneRow.pinnedBy) = true := by kernel_rfl
theorem f22 : (Rows.fnExecuteNoneRow.veiled == (Tryz.f3.params.toList ++ Rows.fnExecuteNoneSpec.plain.varTypes Tryz.prog ++ Tryz.f3.resultTypes.toList).any (Tryz.prog.veiledRec ·)) = true := by kernel_rfl
theorem f23 : Rows.fnExecuteNoneRow.veiledFits Tryz.prog Tryz.f3.params.toList (Tryz.f3.params.toList ++ Rows.fnExecuteNoneSpec.plain.varTypes Tryz.prog ++ Tryz.f3.resultTypes.toList) = true := by kernel_rfl
theorem f6 : ((Rows.fnExecuteNoneRow.stops == []) && (Tryz.prog.stops == []) && (Rows.fnExecuteNoneRow.knobs == []) && (Tryz.prog.stopKnobs == [])) = true := by
  rw [seat_stops, seat_knobs]; rfl
theorem closed : joinedFacts Tryz.prog 3 Tryz.f3 Rows.fnExecuteNoneSpec Rows.fnExecuteNoneRow = true :=
  joined_split f1 seat_laidOut seat_mapsRowed f4 f5 f6 f7 f8 f9 f10 f11 f12 f13 f14 rfl seat_heard seat_enter f18 f19 f20 f21 f22 f23
theorem goesBy : false = Rows.fnExecuteNoneRow.goesBy Tryz.prog := by kernel_rfl
theorem byText : Rows.fnExecuteNoneRow.wfByText (OpenSpec.ofChange Rows.fnExecuteNoneSpec) = true := by kernel_rfl
theorem looks : Rows.fnExecuteNoneCard.stood.looks = Tryz.prog.looks [] := by kernel_rfl
theorem mainIs : Tryz.prog.mainIs = some (Rows.fnExecuteNoneCard.stood.harness.1, Rows.fnExecuteNoneCard.stood.harness.2.toList) := by kernel_rfl
theorem funcOf : Tryz.prog.funcNamed "loop.example/setparts/laws.FnExecuteNone" = some 3 := by kernel_rfl
theorem noInit : Tryz.prog.inits.idxOf? 3 = none := by kernel_rfl

end Go.Proofs.YtmflecemkodklaaGreatDoor.fnExecuteNone
