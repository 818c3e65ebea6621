/-
  Our own text, in the proofs of the laws of package word (cayleylaw01). Proved here: the lists' functions at the chapter's examples. Conditions: the arguments read as the row says and the listed tables lie as the program lays them; none other.
-/
import Derived.Test.YtflieikbhgneoaaGreatDoorXc
namespace Go.Proofs.YtflieikbhgneoaaGreatDoor
open Go Go.RowKit

theorem v_cyc : isW [97, 98, 97, 66, 65] = true ∧ coreW (red [97, 98, 97, 66, 65]) = [97] ∧ conjW (red [97, 98, 97, 66, 65]) = [97, 98] := by decide +kernel
theorem v_root1 : isW [98, 97, 97, 66] = true ∧ rootW [98, 97, 97, 66] = [98, 97, 66] ∧ rootN [98, 97, 97, 66] = 2 := by decide +kernel
theorem v_root2 : isW [97, 98, 97, 98] = true ∧ rootW [97, 98, 97, 98] = [97, 98] ∧ rootN [97, 98, 97, 98] = 2 := by decide +kernel
theorem v_pow : isW [97, 66] = true ∧ coreW (red [97, 66]) ≠ [] ∧ powL [97, 66] (-2) = [98, 65, 98, 65] ∧ powE [97, 66] (-2) = 0 := by decide +kernel
theorem v_conj1 : isW [97, 98] = true ∧ isW [98, 97] = true ∧ formW [97, 98] = formW [98, 97] ∧ conjX [97, 98] [98, 97] = [66] := by decide +kernel
theorem v_conj2 : isW [97] = true ∧ isW [65] = true ∧ formW [97] ≠ formW [65] := by decide +kernel
theorem v_red1 : isW [97, 98, 66, 65, 98] = true ∧ red [97, 98, 66, 65, 98] = [98] := by decide +kernel
theorem v_red2 : isW [97, 65, 97] = true ∧ red [97, 65, 97] = [97] := by decide +kernel
theorem v_form1 : isW [98, 97, 98] = true ∧ formW [98, 97, 98] = [97, 98, 98] := by decide +kernel
theorem v_form2 : isW [65, 98, 97] = true ∧ formW [65, 98, 97] = [98] := by decide +kernel
theorem v_inv1 : isW [66] = true ∧ invW [66] = [98] := by decide +kernel
theorem v_red3 : isW [66, 98, 97, 98] = true ∧ red [66, 98, 97, 98] = [97, 98] := by decide +kernel
theorem v_cmp : cmpW [98] [97, 97] = -1 ∧ cmpW [65] [98] = -1 := by decide +kernel
theorem v_text : isW [97, 97, 66, 97] = true ∧ textW [97, 97, 66, 97] = [97, 94, 50, 32, 66, 32, 97] := by decide +kernel
theorem v_inv2 : invW [97, 66] = [98, 65] := by decide +kernel
theorem v_idx : idx 66 = 3 ∧ let_ 3 = 66 ∧ checkI 2 [97, 66] = 0 := by decide +kernel

deriving instance DecidableEq for Res
theorem v_p1 : outF 30 2 ⟨[40, 97, 98, 41, 94, 50, 32, 91, 97, 44, 98, 93, 94, 45, 49, 32, 49], 0, [], 0⟩ = some (some 1) ∧ exprF 60 [40, 97, 98, 41, 94, 50, 32, 91, 97, 44, 98, 93, 94, 45, 49, 32, 49] = some (.ok [97, 98, 97, 98, 98, 97, 66, 65] []) := by decide +kernel
theorem v_p2 : outF 30 2 ⟨[91, 97, 44, 98, 93], 0, [], 0⟩ = some (some 1) ∧ exprF 60 [91, 97, 44, 98, 93] = some (.ok [97, 98, 65, 66] []) := by decide +kernel
theorem v_p3 : outF 30 1 ⟨[98], 0, [], 0⟩ = some none := by decide +kernel
theorem v_p4 : outF 30 2 ⟨[97, 94], 0, [], 0⟩ = some none := by decide +kernel
theorem v_p5 : outF 30 2 ⟨[97, 94, 57, 57, 57, 57, 57, 57], 0, [], 0⟩ = some (some 0) ∧ exprF 60 [97, 94, 57, 57, 57, 57, 57, 57] = some .lim := by decide +kernel
end Go.Proofs.YtflieikbhgneoaaGreatDoor
