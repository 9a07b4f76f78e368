/-
  The closed facts of the row of FnExecuteCross, one at a time.
-/
import Derived.Test.YtmflecemkodklaaGreatDoorMjF
namespace Go.Proofs.YtmflecemkodklaaGreatDoor.fnExecuteCross
set_option maxRecDepth 100000
theorem f1 : Rows.fnExecuteCrossRow.wf (OpenSpec.ofChange Rows.fnExecuteCrossSpec) = true := by kernel_rfl
theorem f4 : Tryz.f7.params.all (Tryz.prog.readableRec ·) = true := by kernel_rfl
theorem f5 : namedTie Tryz.prog Rows.fnExecuteCrossRow.named Rows.fnExecuteCrossSpec.vars = true := by kernel_rfl
theorem f7 : (Rows.fnExecuteCrossRow.inPlace == Tryz.prog.inPlace 7) = true := by kernel_rfl
theorem f8 : (Rows.fnExecuteCrossRow.unfollowed == Tryz.prog.unfollowed 7) = true := by kernel_rfl
theorem f9 : (Rows.fnExecuteCrossRow.recurses == Tryz.prog.recurses 7) = true := by kernel_rfl
theorem f10 : (Rows.fnExecuteCrossRow.named == Tryz.prog.varsNamed 7) = true := by kernel_rfl
theorem f11 : ((Rows.fnExecuteCrossRow.maps == (Tryz.f7.params.toList ++ Rows.fnExecuteCrossSpec.plain.varTypes Tryz.prog).any (Tryz.prog.mapsRec ·)) && (Rows.fnExecuteCrossRow.ifaces == (Tryz.f7.params.toList ++ Rows.fnExecuteCrossSpec.plain.varTypes Tryz.prog).any (Tryz.prog.ifacesRec ·)) && (Rows.fnExecuteCrossRow.mapsOut == Tryz.prog.mapsAmong Tryz.f7.resultTypes.toList)) = true := by kernel_rfl
theorem f12 : ((Rows.fnExecuteCrossRow.loops == (Tryz.f7.params.toList ++ Rows.fnExecuteCrossSpec.plain.varTypes Tryz.prog).any (Tryz.prog.loopsFrom ·)) && (Rows.fnExecuteCrossRow.wideKeys == (Tryz.f7.params.toList ++ Rows.fnExecuteCrossSpec.plain.varTypes Tryz.prog ++ Tryz.f7.resultTypes.toList).any (Tryz.prog.wideKeysFrom ·))) = true := by kernel_rfl
theorem f13 : (Rows.fnExecuteCrossSpec.vars.all (Tryz.prog.varReadable ·) && Tryz.f7.resultTypes.all (fun t => Tryz.prog.readableRec t && decide (t < Tryz.prog.types.size)) && (Rows.fnExecuteCrossRow.ifacesOut == Tryz.f7.resultTypes.toList.any (Tryz.prog.ifacesRec ·)) && (Rows.fnExecuteCrossRow.loopsOut == Tryz.f7.resultTypes.toList.any (Tryz.prog.loopsFrom ·))) = true := by kernel_rfl
theorem f14 : (Rows.fnExecuteCrossRow.plainKeys == Tryz.prog.plainKeys) = true := by kernel_rfl
theorem f18 : (Rows.fnExecuteCrossRow.lifted == Tryz.prog.liftsFinal) = true := by kernel_rfl
theorem f19 : (Tryz.prog.make == some Rows.fnExecuteCrossRow.make) = true := by kernel_rfl
theorem f20 : (Rows.fnExecuteCrossRow.kinds == (if Rows.fnExecuteCrossRow.domain.isEmpty then [] else Tryz.f7.params.toList.map fun t => match Tryz.prog.underlying t with | some (.int k) => some k | _ => none)) = true := by kernel_rfl
theorem f21 : (Rows.fnExecuteCrossRow.pinned == Rows.fnExecuteCrossRow.pinnedBy) = true := by kernel_rfl
theorem f22 : (Rows.fnExecuteCrossRow.veiled == (Tryz.f7.params.toList ++ Rows.fnExecuteCrossSpec.plain.varTypes Tryz.prog ++ Tryz.f7.resultTypes.toList).any (Tryz.prog.veiledRec ·)) = true := by kernel_rfl
theorem f23 : Rows.fnExecuteCrossRow.veiledFits Tryz.prog Tryz.f7.params.toList (Tryz.f7.params.toList ++ Rows.fnExecuteCrossSpec.plain.varTypes Tryz.prog ++ Tryz.f7.resultTypes.toList) = true := by kernel_rfl
theorem f6 : ((Rows.fnExecuteCrossRow.stops == []) && (Tryz.prog.stops == []) && (Rows.fnExecuteCrossRow.knobs == []) && (Tryz.prog.stopKnobs == [])) = true := by
  rw [seat_stops, seat_knobs]; rfl
theorem closed : joinedFacts Tryz.prog 7 Tryz.f7 Rows.fnExecuteCrossSpec Rows.fnExecuteCrossRow = true :=
  joined_split f1 seat_laidOut seat_mapsRowed f4 f5 f6 f7 f8 f9 f10 f11 f12 f13 f14 rfl seat_heard seat_enter f18 f19 f20 f21 f22 f23
theorem goesBy : false = Rows.fnExecuteCrossRow.goesBy Tryz.prog := by kernel_rfl
theorem byText : Rows.fnExecuteCrossRow.wfByText (OpenSpec.ofChange Rows.fnExecuteCrossSpec) = true := by kernel_rfl
theorem looks : Rows.fnExecuteCrossCard.stood.looks = Tryz.prog.looks [] := by kernel_rfl
theorem mainIs : Tryz.prog.mainIs = some (Rows.fnExecuteCrossCard.stood.harness.1, Rows.fnExecuteCrossCard.stood.harness.2.toList) := by kernel_rfl
theorem funcOf : Tryz.prog.funcNamed "loop.example/setparts/laws.FnExecuteCross" = some 7 := by kernel_rfl
theorem noInit : Tryz.prog.inits.idxOf? 7 = none := by kernel_rfl

end Go.Proofs.YtmflecemkodklaaGreatDoor.fnExecuteCross
