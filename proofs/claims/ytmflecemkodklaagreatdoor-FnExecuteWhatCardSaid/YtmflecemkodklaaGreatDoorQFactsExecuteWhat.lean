/-
  The closed facts of the row of FnExecuteWhat, one at a time.
-/
import Derived.Test.YtmflecemkodklaaGreatDoorMhH
namespace Go.Proofs.YtmflecemkodklaaGreatDoor.fnExecuteWhat
set_option maxRecDepth 100000
theorem f1 : Rows.fnExecuteWhatRow.wf (OpenSpec.ofChange Rows.fnExecuteWhatSpec) = true := by kernel_rfl
theorem f4 : Tryz.f4.params.all (Tryz.prog.readableRec ·) = true := by kernel_rfl
theorem f5 : namedTie Tryz.prog Rows.fnExecuteWhatRow.named Rows.fnExecuteWhatSpec.vars = true := by kernel_rfl
theorem f7 : (Rows.fnExecuteWhatRow.inPlace == Tryz.prog.inPlace 4) = true := by kernel_rfl
theorem f8 : (Rows.fnExecuteWhatRow.unfollowed == Tryz.prog.unfollowed 4) = true := by kernel_rfl
theorem f9 : (Rows.fnExecuteWhatRow.recurses == Tryz.prog.recurses 4) = true := by kernel_rfl
theorem f10 : (Rows.fnExecuteWhatRow.named == Tryz.prog.varsNamed 4) = true := by kernel_rfl
theorem f11 : ((Rows.fnExecuteWhatRow.maps == (Tryz.f4.params.toList ++ Rows.fnExecuteWhatSpec.plain.varTypes Tryz.prog).any (Tryz.prog.mapsRec ·)) && (Rows.fnExecuteWhatRow.ifaces == (Tryz.f4.params.toList ++ Rows.fnExecuteWhatSpec.plain.varTypes Tryz.prog).any (Tryz.prog.ifacesRec ·)) && (Rows.fnExecuteWhatRow.mapsOut == Tryz.prog.mapsAmong Tryz.f4.resultTypes.toList)) = true := by kernel_rfl
theorem f12 : ((Rows.fnExecuteWhatRow.loops == (Tryz.f4.params.toList ++ Rows.fnExecuteWhatSpec.plain.varTypes Tryz.prog).any (Tryz.prog.loopsFrom ·)) && (Rows.fnExecuteWhatRow.wideKeys == (Tryz.f4.params.toList ++ Rows.fnExecuteWhatSpec.plain.varTypes Tryz.prog ++ Tryz.f4.resultTypes.toList).any (Tryz.prog.wideKeysFrom ·))) = true := by kernel_rfl
theorem f13 : (Rows.fnExecuteWhatSpec.vars.all (Tryz.prog.varReadable ·) && Tryz.f4.resultTypes.all (fun t => Tryz.prog.readableRec t && decide (t < Tryz.prog.types.size)) && (Rows.fnExecuteWhatRow.ifacesOut == Tryz.f4.resultTypes.toList.any (Tryz.prog.ifacesRec ·)) && (Rows.fnExecuteWhatRow.loopsOut == Tryz.f4.resultTypes.toList.any (Tryz.prog.loopsFrom ·))) = true := by kernel_rfl
theorem f14 : (Rows.fnExecuteWhatRow.plainKeys == Tryz.prog.plainKeys) = true := by kernel_rfl
theorem f18 : (Rows.fnExecuteWhatRow.lifted == Tryz.prog.liftsFinal) = true := by kernel_rfl
theorem f19 : (Tryz.prog.make == some Rows.fnExecuteWhatRow.make) = true := by kernel_rfl
theorem f20 : (Rows.fnExecuteWhatRow.kinds == (if Rows.fnExecuteWhatRow.domain.isEmpty then [] else Tryz.f4.params.toList.map fun t => match Tryz.prog.underlying t with | some (.int k) => some k | _ => none)) = true := by kernel_rfl
theorem f21 : (Rows.fnExecuteWhatRow.pinned == Rows.fnExecuteWhatRow.pinnedBy) = true := by kernel_rfl
theorem f22 : (Rows.fnExecuteWhatRow.veiled == (Tryz.f4.params.toList ++ Rows.fnExecuteWhatSpec.plain.varTypes Tryz.prog ++ Tryz.f4.resultTypes.toList).any (Tryz.prog.veiledRec ·)) = true := by kernel_rfl
theorem f23 : Rows.fnExecuteWhatRow.veiledFits Tryz.prog Tryz.f4.params.toList (Tryz.f4.params.toList ++ Rows.fnExecuteWhatSpec.plain.varTypes Tryz.prog ++ Tryz.f4.resultTypes.toList) = true := by kernel_rfl
theorem f6 : ((Rows.fnExecuteWhatRow.stops == []) && (Tryz.prog.stops == []) && (Rows.fnExecuteWhatRow.knobs == []) && (Tryz.prog.stopKnobs == [])) = true := by
  rw [seat_stops, seat_knobs]; rfl
theorem closed : joinedFacts Tryz.prog 4 Tryz.f4 Rows.fnExecuteWhatSpec Rows.fnExecuteWhatRow = true :=
  joined_split f1 seat_laidOut seat_mapsRowed f4 f5 f6 f7 f8 f9 f10 f11 f12 f13 f14 rfl seat_heard seat_enter f18 f19 f20 f21 f22 f23
theorem goesBy : false = Rows.fnExecuteWhatRow.goesBy Tryz.prog := by kernel_rfl
theorem byText : Rows.fnExecuteWhatRow.wfByText (OpenSpec.ofChange Rows.fnExecuteWhatSpec) = true := by kernel_rfl
theorem looks : Rows.fnExecuteWhatCard.stood.looks = Tryz.prog.looks [] := by kernel_rfl
theorem mainIs : Tryz.prog.mainIs = some (Rows.fnExecuteWhatCard.stood.harness.1, Rows.fnExecuteWhatCard.stood.harness.2.toList) := by kernel_rfl
theorem funcOf : Tryz.prog.funcNamed "loop.example/setparts/laws.FnExecuteWhat" = some 4 := by kernel_rfl
theorem noInit : Tryz.prog.inits.idxOf? 4 = none := by kernel_rfl

end Go.Proofs.YtmflecemkodklaaGreatDoor.fnExecuteWhat
