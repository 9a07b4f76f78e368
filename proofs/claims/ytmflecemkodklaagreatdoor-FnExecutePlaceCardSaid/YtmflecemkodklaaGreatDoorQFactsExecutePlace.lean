/-
  The closed facts of the row of FnExecutePlace, one at a time.
-/
import Derived.Test.YtmflecemkodklaaGreatDoorMjF
namespace Go.Proofs.YtmflecemkodklaaGreatDoor.fnExecutePlace
set_option maxRecDepth 100000
theorem f1 : Rows.fnExecutePlaceRow.wf (OpenSpec.ofChange Rows.fnExecutePlaceSpec) = true := by kernel_rfl
theorem f4 : Tryz.f6.params.all (Tryz.prog.readableRec ·) = true := by kernel_rfl
theorem f5 : namedTie Tryz.prog Rows.fnExecutePlaceRow.named Rows.fnExecutePlaceSpec.vars = true := by kernel_rfl
theorem f7 : (Rows.fnExecutePlaceRow.inPlace == Tryz.prog.inPlace 6) = true := by kernel_rfl
theorem f8 : (Rows.fnExecutePlaceRow.unfollowed == Tryz.prog.unfollowed 6) = true := by kernel_rfl
theorem f9 : (Rows.fnExecutePlaceRow.recurses == Tryz.prog.recurses 6) = true := by kernel_rfl
theorem f10 : (Rows.fnExecutePlaceRow.named == Tryz.prog.varsNamed 6) = true := by kernel_rfl
theorem f11 : ((Rows.fnExecutePlaceRow.maps == (Tryz.f6.params.toList ++ Rows.fnExecutePlaceSpec.plain.varTypes Tryz.prog).any (Tryz.prog.mapsRec ·)) && (Rows.fnExecutePlaceRow.ifaces == (Tryz.f6.params.toList ++ Rows.fnExecutePlaceSpec.plain.varTypes Tryz.prog).any (Tryz.prog.ifacesRec ·)) && (Rows.fnExecutePlaceRow.mapsOut == Tryz.prog.mapsAmong Tryz.f6.resultTypes.toList)) = true := by kernel_rfl
theorem f12 : ((Rows.fnExecutePlaceRow.loops == (Tryz.f6.params.toList ++ Rows.fnExecutePlaceSpec.plain.varTypes Tryz.prog).any (Tryz.prog.loopsFrom ·)) && (Rows.fnExecutePlaceRow.wideKeys == (Tryz.f6.params.toList ++ Rows.fnExecutePlaceSpec.plain.varTypes Tryz.prog ++ Tryz.f6.resultTypes.toList).any (Tryz.prog.wideKeysFrom ·))) = true := by kernel_rfl
theorem f13 : (Rows.fnExecutePlaceSpec.vars.all (Tryz.prog.varReadable ·) && Tryz.f6.resultTypes.all (fun t => Tryz.prog.readableRec t && decide (t < Tryz.prog.types.size)) && (Rows.fnExecutePlaceRow.ifacesOut == Tryz.f6.resultTypes.toList.any (Tryz.prog.ifacesRec ·)) && (Rows.fnExecutePlaceRow.loopsOut == Tryz.f6.resultTypes.toList.any (Tryz.prog.loopsFrom ·))) = true := by kernel_rfl
theorem f14 : (Rows.fnExecutePlaceRow.plainKeys == Tryz.prog.plainKeys) = true := by kernel_rfl
theorem f18 : (Rows.fnExecutePlaceRow.lifted == Tryz.prog.liftsFinal) = true := by kernel_rfl
theorem f19 : (Tryz.prog.make == some Rows.fnExecutePlaceRow.make) = true := by kernel_rfl
theorem f20 : (Rows.fnExecutePlaceRow.kinds == (if Rows.fnExecutePlaceRow.domain.isEmpty then [] else Tryz.f6.params.toList.map fun t => match Tryz.prog.underlying t with | some (.int k) => some k | _ => none)) = true := by kernel_rfl
theorem f21 : (Rows.fnExecutePlaceRow.pinned == Rows.fnExecutePlaceRow.pinnedBy) = true := by kernel_rfl
theorem f22 : (Rows.fnExecutePlaceRow.veiled == (Tryz.f6.params.toList ++ Rows.fnExecutePlaceSpec.plain.varTypes Tryz.prog ++ Tryz.f6.resultTypes.toList).any (Tryz.prog.veiledRec ·)) = true := by kernel_rfl
theorem f23 : Rows.fnExecutePlaceRow.veiledFits Tryz.prog Tryz.f6.params.toList (Tryz.f6.params.toList ++ Rows.fnExecutePlaceSpec.plain.varTypes Tryz.prog ++ Tryz.f6.resultTypes.toList) = true := by kernel_rfl
theorem f6 : ((Rows.fnExecutePlaceRow.stops == []) && (Tryz.prog.stops == []) && (Rows.fnExecutePlaceRow.knobs == []) && (Tryz.prog.stopKnobs == [])) = true := by
  rw [seat_stops, seat_knobs]; rfl
theorem closed : joinedFacts Tryz.prog 6 Tryz.f6 Rows.fnExecutePlaceSpec Rows.fnExecutePlaceRow = true :=
  joined_split f1 seat_laidOut seat_mapsRowed f4 f5 f6 f7 f8 f9 f10 f11 f12 f13 f14 rfl seat_heard seat_enter f18 f19 f20 f21 f22 f23
theorem goesBy : false = Rows.fnExecutePlaceRow.goesBy Tryz.prog := by kernel_rfl
theorem byText : Rows.fnExecutePlaceRow.wfByText (OpenSpec.ofChange Rows.fnExecutePlaceSpec) = true := by kernel_rfl
theorem looks : Rows.fnExecutePlaceCard.stood.looks = Tryz.prog.looks [] := by kernel_rfl
theorem mainIs : Tryz.prog.mainIs = some (Rows.fnExecutePlaceCard.stood.harness.1, Rows.fnExecutePlaceCard.stood.harness.2.toList) := by kernel_rfl
theorem funcOf : Tryz.prog.funcNamed "loop.example/setparts/laws.FnExecutePlace" = some 6 := by kernel_rfl
theorem noInit : Tryz.prog.inits.idxOf? 6 = none := by kernel_rfl

end Go.Proofs.YtmflecemkodklaaGreatDoor.fnExecutePlace
