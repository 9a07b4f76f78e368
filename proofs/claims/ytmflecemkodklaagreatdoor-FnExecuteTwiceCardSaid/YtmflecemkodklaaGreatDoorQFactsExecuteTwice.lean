/-
  The closed facts of the row of FnExecuteTwice, one at a time.
-/
import Derived.Test.YtmflecemkodklaaGreatDoorMhH
namespace Go.Proofs.YtmflecemkodklaaGreatDoor.fnExecuteTwice
set_option maxRecDepth 100000
theorem f1 : Rows.fnExecuteTwiceRow.wf (OpenSpec.ofChange Rows.fnExecuteTwiceSpec) = true := by kernel_rfl
theorem f4 : Tryz.f5.params.all (Tryz.prog.readableRec ·) = true := by kernel_rfl
theorem f5 : namedTie Tryz.prog Rows.fnExecuteTwiceRow.named Rows.fnExecuteTwiceSpec.vars = true := by kernel_rfl
theorem f7 : (Rows.fnExecuteTwiceRow.inPlace == Tryz.prog.inPlace 5) = true := by kernel_rfl
theorem f8 : (Rows.fnExecuteTwiceRow.unfollowed == Tryz.prog.unfollowed 5) = true := by kernel_rfl
theorem f9 : (Rows.fnExecuteTwiceRow.recurses == Tryz.prog.recurses 5) = true := by kernel_rfl
theorem f10 : (Rows.fnExecuteTwiceRow.named == Tryz.prog.varsNamed 5) = true := by kernel_rfl
theorem f11 : ((Rows.fnExecuteTwiceRow.maps == (Tryz.f5.params.toList ++ Rows.fnExecuteTwiceSpec.plain.varTypes Tryz.prog).any (Tryz.prog.mapsRec ·)) && (Rows.fnExecuteTwiceRow.ifaces == (Tryz.f5.params.toList ++ Rows.fnExecuteTwiceSpec.plain.varTypes Tryz.prog).any (Tryz.prog.ifacesRec ·)) && (Rows.fnExecuteTwiceRow.mapsOut == Tryz.prog.mapsAmong Tryz.f5.resultTypes.toList)) = true := by kernel_rfl
theorem f12 : ((Rows.fnExecuteTwiceRow.loops == (Tryz.f5.params.toList ++ Rows.fnExecuteTwiceSpec.plain.varTypes Tryz.prog).any (Tryz.prog.loopsFrom ·)) && (Rows.fnExecuteTwiceRow.wideKeys == (Tryz.f5.params.toList ++ Rows.fnExecuteTwiceSpec.plain.varTypes Tryz.prog ++ Tryz.f5.resultTypes.toList).any (Tryz.prog.wideKeysFrom ·))) = true := by kernel_rfl
theorem f13 : (Rows.fnExecuteTwiceSpec.vars.all (Tryz.prog.varReadable ·) && Tryz.f5.resultTypes.all (fun t => Tryz.prog.readableRec t && decide (t < Tryz.prog.types.size)) && (Rows.fnExecuteTwiceRow.ifacesOut == Tryz.f5.resultTypes.toList.any (Tryz.prog.ifacesRec ·)) && (Rows.fnExecuteTwiceRow.loopsOut == Tryz.f5.resultTypes.toList.any (Tryz.prog.loopsFrom ·))) = true := by kernel_rfl
theorem f14 : (Rows.fnExecuteTwiceRow.plainKeys == Tryz.prog.plainKeys) = true := by kernel_rfl
theorem f18 : (Rows.fnExecuteTwiceRow.lifted == Tryz.prog.liftsFinal) = true := by kernel_rfl
theorem f19 : (Tryz.prog.make == some Rows.fnExecuteTwiceRow.make) = true := by kernel_rfl
theorem f20 : (Rows.fnExecuteTwiceRow.kinds == (if Rows.fnExecuteTwiceRow.domain.isEmpty then [] else Tryz.f5.params.toList.map fun t => match Tryz.prog.underlying t with | some (.int k) => some k | _ => none)) = true := by kernel_rfl
theorem f21 : (Rows.fnExecuteTwiceRow.pinned == Rows.fnExecuteTwiceRow.pinnedBy) = true := by kernel_rfl
theorem f22 : (Rows.fnExecuteTwiceRow.veiled == (Tryz.f5.params.toList ++ Rows.fnExecuteTwiceSpec.plain.varTypes Tryz.prog ++ Tryz.f5.resultTypes.toList).any (Tryz.prog.veiledRec ·)) = true := by kernel_rfl
theorem f23 : Rows.fnExecuteTwiceRow.veiledFits Tryz.prog Tryz.f5.params.toList (Tryz.f5.params.toList ++ Rows.fnExecuteTwiceSpec.plain.varTypes Tryz.prog ++ Tryz.f5.resultTypes.toList) = true := by kernel_rfl
theorem f6 : ((Rows.fnExecuteTwiceRow.stops == []) && (Tryz.prog.stops == []) && (Rows.fnExecuteTwiceRow.knobs == []) && (Tryz.prog.stopKnobs == [])) = true := by
  rw [seat_stops, seat_knobs]; rfl
theorem closed : joinedFacts Tryz.prog 5 Tryz.f5 Rows.fnExecuteTwiceSpec Rows.fnExecuteTwiceRow = true :=
  joined_split f1 seat_laidOut seat_mapsRowed f4 f5 f6 f7 f8 f9 f10 f11 f12 f13 f14 rfl seat_heard seat_enter f18 f19 f20 f21 f22 f23
theorem goesBy : false = Rows.fnExecuteTwiceRow.goesBy Tryz.prog := by kernel_rfl
theorem byText : Rows.fnExecuteTwiceRow.wfByText (OpenSpec.ofChange Rows.fnExecuteTwiceSpec) = true := by kernel_rfl
theorem looks : Rows.fnExecuteTwiceCard.stood.looks = Tryz.prog.looks [] := by kernel_rfl
theorem mainIs : Tryz.prog.mainIs = some (Rows.fnExecuteTwiceCard.stood.harness.1, Rows.fnExecuteTwiceCard.stood.harness.2.toList) := by kernel_rfl
theorem funcOf : Tryz.prog.funcNamed "loop.example/setparts/laws.FnExecuteTwice" = some 5 := by kernel_rfl
theorem noInit : Tryz.prog.inits.idxOf? 5 = none := by kernel_rfl

end Go.Proofs.YtmflecemkodklaaGreatDoor.fnExecuteTwice
