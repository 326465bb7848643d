/-
  xml: the document's examples, in the model.
-/
import Derived.Test.YteefjmdallpihaaGreatDoorXmD
import Derived.Test.YteefjmdallpihaaGreatDoorXmB
namespace Go.Proofs.YteefjmdallpihaaGreatDoor
namespace Xml
def fixT1 : B := [60, 97, 32, 120, 109, 108, 110, 115, 61, 34, 117, 34, 62, 60, 98, 32, 120, 61, 39, 49, 39, 47, 62, 116, 38, 108, 116, 59, 60, 33, 45, 45, 32, 99, 32, 45, 45, 62, 60, 33, 91, 67, 68, 65, 84, 65, 91, 38, 93, 93, 62, 60, 47, 97, 62]
def fixT3 : B := [60, 97, 32, 120, 109, 108, 110, 115, 61, 34, 117, 34, 62, 60, 98, 32, 120, 61, 34, 49, 34, 47, 62, 116, 38, 108, 116, 59, 38, 97, 109, 112, 59, 60, 47, 97, 62]
def fixN : Nd := .mk [] [117] [97] [] [.mk [] [117] [98] [([120], [49])] [], .mk [116, 60, 38] [] [] [] []]
theorem fixP1 : parse fixT1 = .ok fixN ⟨[], [([], [])]⟩ := by kernel_rfl
theorem fixP2 : parse [60, 97, 62, 60, 47, 98, 62] = .bad 30 := by kernel_rfl
theorem fixG : good fixN = true := by kernel_rfl
theorem fixF : form fixN [] = fixT3 := by kernel_rfl
end Xml
end Go.Proofs.YteefjmdallpihaaGreatDoor
