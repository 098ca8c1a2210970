import Derived.Test.YtgmfjninimebmaaGreatDoorMgWalkG

import Derived.Conc.RwLib
import Derived.Conc.MuData
import Derived.KernelRfl
namespace Go.Proofs.YtgmfjninimebmaaGreatDoor
abbrev rwLink : Go.Conc.Locks.RwLink := { lock := 195, unlock := 0, ilock := 0, iunlock := 0, lockSlow := 0, unlockSlow := 0, disable := 93, enable := 96, acquire := 97, relMerge := 98, cas32 := 0, add32 := 137, tMutex := 87, tIMutex := 85, tPMutex := 142, tPIMutex := 0, tPI32 := 192, tUP := 141, tNoCopy := 82, tU32 := 83, rlock := 67, runlock := 68, wlock := 194, wunlock := 0, i32add := 94, raceRead := 92, release := 0, rUnlockSlow := 99, semacqR := 95, semacqW := 0, semrel := 139, sfatal := 138, tRW := 92, tPRW := 139, tAI32 := 90, tPAI32 := 190, tPU32 := 145, tANoCopy := 88 }
theorem rwCore : Go.Conc.Locks.RwCore Tryz.prog rwLink :=
  ⟨Tryz.func94, Tryz.func92, Tryz.func93, Tryz.func96, Tryz.func97, Tryz.func98, Tryz.func137, Tryz.underlying92, Tryz.runUnderlying92, Tryz.sizeOf92, Tryz.isAgg92, Tryz.zeroValue92, Tryz.underlying90, Tryz.runUnderlying90, Tryz.sizeOf90, Tryz.isAgg90, Tryz.zeroValue90, Tryz.underlying139, Tryz.runUnderlying139, Tryz.sizeOf139, Tryz.isAgg139, Tryz.zeroValue139, Tryz.underlying190, Tryz.runUnderlying190, Tryz.sizeOf190, Tryz.isAgg190, Tryz.zeroValue190, Tryz.underlying145, Tryz.runUnderlying145, Tryz.sizeOf145, Tryz.isAgg145, Tryz.zeroValue145, Tryz.underlying88, Tryz.runUnderlying88, Tryz.sizeOf88, Tryz.isAgg88, Tryz.zeroValue88, Tryz.underlying83, Tryz.runUnderlying83, Tryz.sizeOf83, Tryz.isAgg83, Tryz.zeroValue83, Tryz.underlying87, Tryz.runUnderlying87, Tryz.sizeOf87, Tryz.isAgg87, Tryz.zeroValue87, Tryz.underlying142, Tryz.runUnderlying142, Tryz.sizeOf142, Tryz.isAgg142, Tryz.zeroValue142, Tryz.underlying192, Tryz.runUnderlying192, Tryz.sizeOf192, Tryz.isAgg192, Tryz.zeroValue192, Tryz.underlying141, Tryz.runUnderlying141, Tryz.sizeOf141, Tryz.isAgg141, Tryz.zeroValue141, Tryz.underlying21, Tryz.runUnderlying21, Tryz.sizeOf21, Tryz.isAgg21, Tryz.zeroValue21, (by kernel_rfl), (by kernel_rfl)⟩
theorem rwRLib : Go.Conc.Locks.RwRLib Tryz.prog rwLink := ⟨rwCore, Tryz.func67, Tryz.func68⟩
end Go.Proofs.YtgmfjninimebmaaGreatDoor
