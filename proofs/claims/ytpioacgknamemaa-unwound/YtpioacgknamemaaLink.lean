/- The program's link to package sync; which of its functions walk alone. -/
import Derived.Test.YtpioacgknamemaaProg
import Derived.Test.YtpioacgknamemaaWgQ
namespace Go.Proofs.Ytpioacgknamemaa
open Go Go.RowKit Go.Conc Go.ConcN Go.Conc.Lib
open Go.ConcR (Payload)

abbrev link : WgLink := { add := 59, done := 62, wait := 44, relMerge := 78, disable := 63, enable := 64, inBubble := 70, associate := 79, fatal := 80, uOr := 81, uAdd := 32, raceRead := 82, uLoad := 23, uStore := 83, disassociate := 68, semrelease := 84, acquire := 65, isAssociated := 66, uCas := 67, raceWrite := 69, semacquire := 71, orU64 := 87, addU64 := 40, loadU64 := 37, storeU64 := 88, casU64 := 85, tWgP := 96, tUP := 99, tAssoc := 111, tWg := 82, tAU := 51, tU64 := 36, tUint := 75, tU32 := 80, tPU32 := 103, tPAU := 72, tPU64 := 74, tNoCopy := 79, tANoCopy := 48, tAlign64 := 49 }
theorem wgLib : WgLib Try.prog link :=
  ⟨Try.func59, Try.func62, Try.func44, Try.func78, Try.func63, Try.func64, Try.func70, Try.func79, Try.func80, Try.func81, Try.func32, Try.func82, Try.func23, Try.func83, Try.func68, Try.func84, Try.func65, Try.func66, Try.func67, Try.func69, Try.func71, Try.func87, Try.func40, Try.func37, Try.func88, Try.func85, Try.underlying96, Try.runUnderlying96, Try.sizeOf96, Try.isAgg96, Try.zeroValue96, Try.underlying99, Try.runUnderlying99, Try.sizeOf99, Try.isAgg99, Try.zeroValue99, Try.underlying111, Try.runUnderlying111, Try.sizeOf111, Try.isAgg111, Try.zeroValue111, Try.underlying82, Try.runUnderlying82, Try.sizeOf82, Try.isAgg82, Try.zeroValue82, Try.underlying51, Try.runUnderlying51, Try.sizeOf51, Try.isAgg51, Try.zeroValue51, Try.underlying36, Try.runUnderlying36, Try.sizeOf36, Try.isAgg36, Try.zeroValue36, Try.underlying75, Try.runUnderlying75, Try.sizeOf75, Try.isAgg75, Try.zeroValue75, Try.underlying80, Try.runUnderlying80, Try.sizeOf80, Try.isAgg80, Try.zeroValue80, Try.underlying103, Try.runUnderlying103, Try.sizeOf103, Try.isAgg103, Try.zeroValue103, Try.underlying72, Try.runUnderlying72, Try.sizeOf72, Try.isAgg72, Try.zeroValue72, Try.underlying74, Try.runUnderlying74, Try.sizeOf74, Try.isAgg74, Try.zeroValue74, Try.underlying0, Try.runUnderlying0, Try.sizeOf0, Try.isAgg0, Try.zeroValue0, Try.underlying3, Try.runUnderlying3, Try.sizeOf3, Try.isAgg3, Try.zeroValue3, Try.underlying4, Try.runUnderlying4, Try.sizeOf4, Try.isAgg4, Try.zeroValue4, Try.underlying9, Try.runUnderlying9, Try.sizeOf9, Try.isAgg9, Try.zeroValue9, Try.underlying20, Try.runUnderlying20, Try.sizeOf20, Try.isAgg20, Try.zeroValue20, Try.underlying21, Try.runUnderlying21, Try.sizeOf21, Try.isAgg21, Try.zeroValue21, (by kernel_rfl), (by kernel_rfl)⟩

/-- The cells of a list of places are ints. -/
instance : Payload := ⟨3⟩
end Go.Proofs.Ytpioacgknamemaa
