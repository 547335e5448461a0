import Derived.Test.YtcplmkhclckagaaGreatDoorPR50
open Go.Proofs.Tryz
namespace Go.Proofs.YtcplmkhclckagaaGreatDoor
open Go.ChangeShapes Go.WideShapes Go.ChangeAt Go.WideMaps Go.WideElems Go.RowKit
theorem Zaf{a b:Bool}(ha:a=true)(hb:b=true):(a&&b)=true:=by rw[ha,hb];rfl
theorem Zwi:(Rows.playRunsRow.inPlace==prog.inPlace 3)=true:=by kernel_rfl
theorem Zwh:(Rows.playRunsRow.unfollowed==prog.unfollowed 3)=true:=by kernel_rfl
theorem Zwg:(Rows.playRunsRow.recurses==prog.recurses 3)=true:=by kernel_rfl
theorem Zwf:(Rows.playRunsRow.named==prog.varsNamed 3)=true:=by kernel_rfl
