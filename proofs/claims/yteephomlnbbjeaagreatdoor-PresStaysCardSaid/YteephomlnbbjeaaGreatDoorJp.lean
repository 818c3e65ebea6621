/-
  Our own text, in the proofs of the laws of package pres (cayleylaw03). Proved here: the parts of a text of a presentation, on lists of bytes; the strings functions that Parse calls, and the keys of a map and their collecting, laid at this program; ascending of package pres: the keys of a map of words, in shortlex; ascending of package pres. Conditions: the arguments lie in memory as the slices say; bounds; the listed tables lie as the program lays them.
-/
import Derived.Test.YteephomlnbbjeaaGreatDoorJo
import Derived.Shelf.Strings.Trim
import Derived.Shelf.Small.Wraps
import Derived.Shelf.Small.Strs
import Derived.Shelf.Strings.Search3
import Derived.Shelf.SlIter.Stops
import Derived.Shelf.SlIter.Collect
set_option linter.unusedVariables false
set_option linter.unusedSimpArgs false
set_option linter.unusedSectionVars false
namespace Go.Proofs.YteephomlnbbjeaaGreatDoor
open Go Go.RowKit

/-- The parts of a text that a separator is between, but for separators within [ and ]. -/
def sepGo (sep : UInt8) : List UInt8 → List UInt8 → Int → List (List UInt8)
  | [], cur, _ => [cur]
  | b :: t, cur, d =>
    if b = 91 then sepGo sep t (cur ++ [b]) (d + 1)
    else if b = 93 then sepGo sep t (cur ++ [b]) (d - 1)
    else if b = sep ∧ d = 0 then cur :: sepGo sep t [] 0
    else sepGo sep t (cur ++ [b]) d
def sepL (sep : UInt8) (t : List UInt8) : List (List UInt8) := sepGo sep t [] 0
theorem sepGo_len (sep : UInt8) : ∀ (l cur : List UInt8) (d : Int), ∀ p ∈ sepGo sep l cur d, p.length ≤ cur.length + l.length
  | [], cur, d, p, h => by simp [sepGo] at h; subst h; simp
  | b :: t, cur, d, p, h => by
    unfold sepGo at h
    split at h
    · have := sepGo_len sep t _ _ p h; simp at this ⊢; omega
    · split at h
      · have := sepGo_len sep t _ _ p h; simp at this ⊢; omega
      · split at h
        · rcases List.mem_cons.1 h with rfl | h
          · simp
          · have := sepGo_len sep t _ _ p h; simp at this ⊢; omega
        · have := sepGo_len sep t _ _ p h; simp at this ⊢; omega
theorem sepL_len (sep : UInt8) (l : List UInt8) : ∀ p ∈ sepL sep l, p.length ≤ l.length := fun p h => by have := sepGo_len sep l [] 0 p h; simpa using this
theorem sepGo_many (sep : UInt8) : ∀ (l cur : List UInt8) (d : Int), (sepGo sep l cur d).length ≤ l.length + 1
  | [], cur, d => by simp [sepGo]
  | b :: t, cur, d => by
    unfold sepGo
    split
    · have := sepGo_many sep t (cur ++ [b]) (d + 1); simp; omega
    · split
      · have := sepGo_many sep t (cur ++ [b]) (d - 1); simp; omega
      · split
        · have := sepGo_many sep t [] 0; simp; omega
        · have := sepGo_many sep t (cur ++ [b]) d; simp; omega

/-- The letters of the generators instead of their names; none, if there is a name that is not known. -/
def renB (names : List UInt8) (b : UInt8) : Option UInt8 :=
  let s := b ||| 32
  if 97 ≤ s.toNat ∧ s.toNat ≤ 122 then
    (if 0 ≤ Lib.indexByte names s then some (if b = s then let_ (2 * Lib.indexByte names s) else let_ (2 * Lib.indexByte names s) ^^^ 32) else none)
  else some b
def renF (names : List UInt8) : List UInt8 → Option (List UInt8)
  | [] => some []
  | b :: t => match renB names b with
    | none => none
    | some c => (renF names t).map (c :: ·)
theorem renF_len {names : List UInt8} : ∀ {l m : List UInt8}, renF names l = some m → m.length = l.length
  | [], m, h => by simp [renF] at h; subst h; rfl
  | b :: t, m, h => by
    unfold renF at h
    split at h
    · cases h
    · cases hr : renF names t with
      | none => rw [hr] at h; cases h
      | some m' => rw [hr] at h; simp at h; subst h; simp [renF_len hr]

/-- The free reduction of u v^-1: letters that both end with are taken off first. -/
def cutF : List UInt8 → List UInt8 → List UInt8 × List UInt8
  | a :: u, b :: v => if a = b then cutF u v else (a :: u, b :: v)
  | u, v => (u, v)
def quoF (u v : List UInt8) : List UInt8 := (cutF u.reverse v.reverse).1.reverse ++ invW (cutF u.reverse v.reverse).2.reverse
end Go.Proofs.YteephomlnbbjeaaGreatDoor

namespace Go.Proofs
open Go.Shelf Go.RowKit

def Tryz.laysTrim_ren : Go.Shelf.Ren := ⟨fun | 160 => 143 | 232 => 174 | 231 => 173 | 227 => 175 | 234 => 177 | 233 => 176 | 236 => 179 | 235 => 178 | 228 => 200 | 271 => 203 | 151 => 202 | 197 => 201 | 120 => 235 | 152 => 225 | 260 => 234 | 137 => 211 | 119 => 251 | 224 => 206 | 225 => 205 | 217 => 204 | 266 => 236 | n => n, fun | 9 => 9 | 4 => 4 | 3 => 3 | 5 => 5 | 117 => 191 | 116 => 190 | 0 => 0 | 124 => 194 | 21 => 21 | 105 => 213 | 46 => 205 | 119 => 254 | 139 => 257 | 138 => 256 | n => n, fun | 3 => 4 | 4 => 5 | n => n⟩
theorem Tryz.laysTrim : Go.Proofs.Lays.n160 Tryz.prog Tryz.laysTrim_ren := {
  mixed := by kernel_rfl
  f119 := Tryz.func251.trans (congrArg some (by kernel_rfl))
  f120 := Tryz.func235.trans (congrArg some (by kernel_rfl))
  f137 := Tryz.func211.trans (congrArg some (by kernel_rfl))
  f151 := Tryz.func202.trans (congrArg some (by kernel_rfl))
  f152 := Tryz.func225.trans (congrArg some (by kernel_rfl))
  f160 := Tryz.func143.trans (congrArg some (by kernel_rfl))
  f197 := Tryz.func201.trans (congrArg some (by kernel_rfl))
  f217 := Tryz.func204.trans (congrArg some (by kernel_rfl))
  f224 := Tryz.func206.trans (congrArg some (by kernel_rfl))
  f225 := Tryz.func205.trans (congrArg some (by kernel_rfl))
  f227 := Tryz.func175.trans (congrArg some (by kernel_rfl))
  f228 := Tryz.func200.trans (congrArg some (by kernel_rfl))
  f231 := Tryz.func173.trans (congrArg some (by kernel_rfl))
  f232 := Tryz.func174.trans (congrArg some (by kernel_rfl))
  f233 := Tryz.func176.trans (congrArg some (by kernel_rfl))
  f234 := Tryz.func177.trans (congrArg some (by kernel_rfl))
  f235 := Tryz.func178.trans (congrArg some (by kernel_rfl))
  f236 := Tryz.func179.trans (congrArg some (by kernel_rfl))
  f260 := Tryz.func234.trans (congrArg some (by kernel_rfl))
  f266 := Tryz.func236.trans (congrArg some (by kernel_rfl))
  f271 := Tryz.func203.trans (congrArg some (by kernel_rfl))
  t0 := Tryz.underlying0
  a0 := Tryz.isAgg0
  z0 := Tryz.sizeOf0
  v0 := Tryz.zeroValue0
  t3 := Tryz.underlying3
  a3 := Tryz.isAgg3
  z3 := Tryz.sizeOf3
  v3 := Tryz.zeroValue3
  t4 := Tryz.underlying4
  a4 := Tryz.isAgg4
  z4 := Tryz.sizeOf4
  v4 := Tryz.zeroValue4
  t5 := Tryz.underlying5
  a5 := Tryz.isAgg5
  z5 := Tryz.sizeOf5
  v5 := Tryz.zeroValue5
  t9 := Tryz.underlying9
  a9 := Tryz.isAgg9
  z9 := Tryz.sizeOf9
  v9 := Tryz.zeroValue9
  t21 := Tryz.underlying21
  a21 := Tryz.isAgg21
  z21 := Tryz.sizeOf21
  v21 := Tryz.zeroValue21
  t46 := Tryz.underlying205
  a46 := Tryz.isAgg205
  z46 := Tryz.sizeOf205
  v46 := Tryz.zeroValue205
  t105 := Tryz.underlying213
  a105 := Tryz.isAgg213
  z105 := Tryz.sizeOf213
  v105 := Tryz.zeroValue213
  t116 := Tryz.underlying190
  a116 := Tryz.isAgg190
  z116 := Tryz.sizeOf190
  t117 := Tryz.underlying191
  a117 := Tryz.isAgg191
  z117 := Tryz.sizeOf191
  v117 := Tryz.zeroValue191
  t119 := Tryz.underlying254
  a119 := Tryz.isAgg254
  z119 := Tryz.sizeOf254
  t124 := Tryz.underlying194
  a124 := Tryz.isAgg194
  z124 := Tryz.sizeOf194
  v124 := Tryz.zeroValue194
  t138 := Tryz.underlying256
  a138 := Tryz.isAgg256
  z138 := Tryz.sizeOf256
  v138 := Tryz.zeroValue256
  t139 := Tryz.underlying257
  a139 := Tryz.isAgg257
  z139 := Tryz.sizeOf257
  v139 := Tryz.zeroValue257
  g3 := by kernel_rfl
  g4 := by kernel_rfl }
def Tryz.laysCutP_ren : Go.Shelf.Ren := ⟨fun | 103 => 103 | 210 => 142 | 206 => 172 | n => n, fun | 9 => 9 | 4 => 4 | 24 => 73 | 3 => 3 | n => n, fun | n => n⟩
theorem Tryz.laysCutP : Go.Proofs.Lays.n103 Tryz.prog Tryz.laysCutP_ren := {
  mixed := by kernel_rfl
  f103 := Tryz.func103.trans (congrArg some (by kernel_rfl))
  f206 := Tryz.func172.trans (congrArg some (by kernel_rfl))
  f210 := Tryz.func142.trans (congrArg some (by kernel_rfl))
  t3 := Tryz.underlying3
  a3 := Tryz.isAgg3
  z3 := Tryz.sizeOf3
  v3 := Tryz.zeroValue3
  t4 := Tryz.underlying4
  a4 := Tryz.isAgg4
  z4 := Tryz.sizeOf4
  v4 := Tryz.zeroValue4
  t9 := Tryz.underlying9
  a9 := Tryz.isAgg9
  z9 := Tryz.sizeOf9
  v9 := Tryz.zeroValue9
  t24 := Tryz.underlying73
  a24 := Tryz.isAgg73
  z24 := Tryz.sizeOf73
  v24 := Tryz.zeroValue73 }
def Tryz.laysCutS_ren : Go.Shelf.Ren := ⟨fun | 104 => 105 | 211 => 144 | 207 => 180 | n => n, fun | 9 => 9 | 4 => 4 | 24 => 73 | 3 => 3 | n => n, fun | n => n⟩
theorem Tryz.laysCutS : Go.Proofs.Lays.n104 Tryz.prog Tryz.laysCutS_ren := {
  mixed := by kernel_rfl
  f104 := Tryz.func105.trans (congrArg some (by kernel_rfl))
  f207 := Tryz.func180.trans (congrArg some (by kernel_rfl))
  f211 := Tryz.func144.trans (congrArg some (by kernel_rfl))
  t3 := Tryz.underlying3
  a3 := Tryz.isAgg3
  z3 := Tryz.sizeOf3
  v3 := Tryz.zeroValue3
  t4 := Tryz.underlying4
  a4 := Tryz.isAgg4
  z4 := Tryz.sizeOf4
  v4 := Tryz.zeroValue4
  t9 := Tryz.underlying9
  a9 := Tryz.isAgg9
  z9 := Tryz.sizeOf9
  v9 := Tryz.zeroValue9
  t24 := Tryz.underlying73
  a24 := Tryz.isAgg73
  z24 := Tryz.sizeOf73
  v24 := Tryz.zeroValue73 }
def Tryz.laysIdx_ren : Go.Shelf.Ren := ⟨fun | 219 => 181 | 217 => 204 | 225 => 205 | 224 => 206 | 267 => 207 | 266 => 236 | 314 => 237 | n => n, fun | 9 => 9 | 3 => 3 | 4 => 4 | 5 => 5 | 46 => 205 | 146 => 241 | 51 => 234 | n => n, fun | 1 => 2 | n => n⟩
theorem Tryz.laysIdx : Go.Proofs.Lays.n219 Tryz.prog Tryz.laysIdx_ren := {
  mixed := by kernel_rfl
  f217 := Tryz.func204.trans (congrArg some (by kernel_rfl))
  f219 := Tryz.func181.trans (congrArg some (by kernel_rfl))
  f224 := Tryz.func206.trans (congrArg some (by kernel_rfl))
  f225 := Tryz.func205.trans (congrArg some (by kernel_rfl))
  f266 := Tryz.func236.trans (congrArg some (by kernel_rfl))
  f267 := Tryz.func207.trans (congrArg some (by kernel_rfl))
  f314 := Tryz.func237.trans (congrArg some (by kernel_rfl))
  t3 := Tryz.underlying3
  a3 := Tryz.isAgg3
  z3 := Tryz.sizeOf3
  v3 := Tryz.zeroValue3
  t4 := Tryz.underlying4
  a4 := Tryz.isAgg4
  z4 := Tryz.sizeOf4
  v4 := Tryz.zeroValue4
  t5 := Tryz.underlying5
  a5 := Tryz.isAgg5
  z5 := Tryz.sizeOf5
  v5 := Tryz.zeroValue5
  t9 := Tryz.underlying9
  a9 := Tryz.isAgg9
  z9 := Tryz.sizeOf9
  v9 := Tryz.zeroValue9
  t46 := Tryz.underlying205
  a46 := Tryz.isAgg205
  z46 := Tryz.sizeOf205
  v46 := Tryz.zeroValue205
  t51 := Tryz.underlying234
  a51 := Tryz.isAgg234
  z51 := Tryz.sizeOf234
  v51 := Tryz.zeroValue234
  t146 := Tryz.underlying241
  a146 := Tryz.isAgg241
  z146 := Tryz.sizeOf241
  v146 := Tryz.zeroValue241
  g1 := by kernel_rfl }
def Tryz.laysCon_ren : Go.Shelf.Ren := ⟨fun | 144 => 110 | 143 => 147 | 219 => 181 | 217 => 204 | 225 => 205 | 224 => 206 | 267 => 207 | 266 => 236 | 314 => 237 | n => n, fun | 9 => 9 | 4 => 4 | 3 => 3 | 5 => 5 | 46 => 205 | 146 => 241 | 51 => 234 | n => n, fun | 1 => 2 | n => n⟩
theorem Tryz.laysCon : Go.Proofs.Lays.n144 Tryz.prog Tryz.laysCon_ren := {
  mixed := by kernel_rfl
  f143 := Tryz.func147.trans (congrArg some (by kernel_rfl))
  f144 := Tryz.func110.trans (congrArg some (by kernel_rfl))
  f217 := Tryz.func204.trans (congrArg some (by kernel_rfl))
  f219 := Tryz.func181.trans (congrArg some (by kernel_rfl))
  f224 := Tryz.func206.trans (congrArg some (by kernel_rfl))
  f225 := Tryz.func205.trans (congrArg some (by kernel_rfl))
  f266 := Tryz.func236.trans (congrArg some (by kernel_rfl))
  f267 := Tryz.func207.trans (congrArg some (by kernel_rfl))
  f314 := Tryz.func237.trans (congrArg some (by kernel_rfl))
  t3 := Tryz.underlying3
  a3 := Tryz.isAgg3
  z3 := Tryz.sizeOf3
  v3 := Tryz.zeroValue3
  t4 := Tryz.underlying4
  a4 := Tryz.isAgg4
  z4 := Tryz.sizeOf4
  v4 := Tryz.zeroValue4
  t5 := Tryz.underlying5
  a5 := Tryz.isAgg5
  z5 := Tryz.sizeOf5
  v5 := Tryz.zeroValue5
  t9 := Tryz.underlying9
  a9 := Tryz.isAgg9
  z9 := Tryz.sizeOf9
  v9 := Tryz.zeroValue9
  t46 := Tryz.underlying205
  a46 := Tryz.isAgg205
  z46 := Tryz.sizeOf205
  v46 := Tryz.zeroValue205
  t51 := Tryz.underlying234
  a51 := Tryz.isAgg234
  z51 := Tryz.sizeOf234
  v51 := Tryz.zeroValue234
  t146 := Tryz.underlying241
  a146 := Tryz.isAgg241
  z146 := Tryz.sizeOf241
  v146 := Tryz.zeroValue241
  g1 := by kernel_rfl }
def Tryz.laysIxb_ren : Go.Shelf.Ren := ⟨fun | 137 => 211 | 217 => 204 | 266 => 236 | n => n, fun | 9 => 9 | 5 => 5 | 3 => 3 | n => n, fun | n => n⟩
theorem Tryz.laysIxb : Go.Proofs.Lays.n137 Tryz.prog Tryz.laysIxb_ren := {
  mixed := by kernel_rfl
  f137 := Tryz.func211.trans (congrArg some (by kernel_rfl))
  f217 := Tryz.func204.trans (congrArg some (by kernel_rfl))
  f266 := Tryz.func236.trans (congrArg some (by kernel_rfl))
  t3 := Tryz.underlying3
  a3 := Tryz.isAgg3
  z3 := Tryz.sizeOf3
  v3 := Tryz.zeroValue3
  t5 := Tryz.underlying5
  a5 := Tryz.isAgg5
  z5 := Tryz.sizeOf5
  v5 := Tryz.zeroValue5
  t9 := Tryz.underlying9
  a9 := Tryz.isAgg9
  z9 := Tryz.sizeOf9
  v9 := Tryz.zeroValue9 }


def Tryz.zKeys_ren : Go.Shelf.Ren := ⟨fun | 7 => 123 | 10 => 160 | n => n, fun | 23 => 107 | 26 => 9 | 3 => 4 | 28 => 110 | 0 => 0 | 27 => 109 | 33 => 42 | 4 => 4 | n => n, fun | n => n⟩
theorem Tryz.zKeys : Go.Proofs.SlLaysZ.n7 Tryz.prog Tryz.zKeys_ren := {
  mixed := by kernel_rfl
  f7 := ⟨Tryz.f123.name, by decide, Tryz.func123.trans (congrArg some (by kernel_rfl))⟩
  f10 := ⟨Tryz.f160.name, by decide, Tryz.func160.trans (congrArg some (by kernel_rfl))⟩
  t0 := Tryz.underlying0
  a0 := Tryz.isAgg0
  z0 := Tryz.sizeOf0
  v0 := Tryz.zeroValue0
  t4 := Tryz.underlying4
  a4 := Tryz.isAgg4
  z4 := Tryz.sizeOf4
  v4 := Tryz.zeroValue4
  t23 := Tryz.underlying107
  a23 := Tryz.isAgg107
  z23 := Tryz.sizeOf107
  v23 := Tryz.zeroValue107
  t26 := Tryz.underlying9
  a26 := Tryz.isAgg9
  z26 := Tryz.sizeOf9
  v26 := Tryz.zeroValue9
  t27 := Tryz.underlying109
  a27 := Tryz.isAgg109
  z27 := Tryz.sizeOf109
  v27 := Tryz.zeroValue109
  t28 := Tryz.underlying110
  a28 := Tryz.isAgg110
  z28 := Tryz.sizeOf110
  v28 := Tryz.zeroValue110
  t33 := Tryz.underlying42
  a33 := Tryz.isAgg42
  z33 := Tryz.sizeOf42
  v33 := Tryz.zeroValue42 }
def Tryz.zKeys1_ren : Go.Shelf.Ren := ⟨fun | 10 => 160 | n => n, fun | 33 => 42 | 23 => 107 | 0 => 0 | 4 => 4 | 26 => 9 | 3 => 4 | n => n, fun | n => n⟩
theorem Tryz.zKeys1 : Go.Proofs.SlLaysZ.n10 Tryz.prog Tryz.zKeys1_ren := {
  mixed := by kernel_rfl
  f10 := ⟨Tryz.f160.name, by decide, Tryz.func160.trans (congrArg some (by kernel_rfl))⟩
  t0 := Tryz.underlying0
  a0 := Tryz.isAgg0
  z0 := Tryz.sizeOf0
  v0 := Tryz.zeroValue0
  t4 := Tryz.underlying4
  a4 := Tryz.isAgg4
  z4 := Tryz.sizeOf4
  v4 := Tryz.zeroValue4
  t23 := Tryz.underlying107
  a23 := Tryz.isAgg107
  z23 := Tryz.sizeOf107
  v23 := Tryz.zeroValue107
  t26 := Tryz.underlying9
  a26 := Tryz.isAgg9
  z26 := Tryz.sizeOf9
  v26 := Tryz.zeroValue9
  t33 := Tryz.underlying42
  a33 := Tryz.isAgg42
  z33 := Tryz.sizeOf42
  v33 := Tryz.zeroValue42 }
def Tryz.zCol_ren : Go.Shelf.Ren := ⟨fun | 8 => 158 | 11 => 188 | n => n, fun | 26 => 9 | 28 => 110 | 24 => 22 | 0 => 0 | 33 => 42 | 4 => 4 | n => n, fun | n => n⟩
theorem Tryz.zCol : Go.Proofs.SlLaysZ.n8 Tryz.prog Tryz.zCol_ren := {
  mixed := by kernel_rfl
  f8 := ⟨Tryz.f158.name, by decide, Tryz.func158.trans (congrArg some (by kernel_rfl))⟩
  f11 := ⟨Tryz.f188.name, by decide, Tryz.func188.trans (congrArg some (by kernel_rfl))⟩
  t0 := Tryz.underlying0
  a0 := Tryz.isAgg0
  z0 := Tryz.sizeOf0
  v0 := Tryz.zeroValue0
  t24 := Tryz.underlying22
  a24 := Tryz.isAgg22
  z24 := Tryz.sizeOf22
  v24 := Tryz.zeroValue22
  t26 := Tryz.underlying9
  a26 := Tryz.isAgg9
  z26 := Tryz.sizeOf9
  v26 := Tryz.zeroValue9
  t28 := Tryz.underlying110
  a28 := Tryz.isAgg110
  z28 := Tryz.sizeOf110
  v28 := Tryz.zeroValue110
  i26 := by kernel_rfl }
def Tryz.zApp_ren : Go.Shelf.Ren := ⟨fun | 11 => 188 | n => n, fun | 24 => 22 | 26 => 9 | 28 => 110 | 0 => 0 | 33 => 42 | 4 => 4 | n => n, fun | n => n⟩
theorem Tryz.zApp : Go.Proofs.SlLaysZ.n11 Tryz.prog Tryz.zApp_ren := {
  mixed := by kernel_rfl
  f11 := ⟨Tryz.f188.name, by decide, Tryz.func188.trans (congrArg some (by kernel_rfl))⟩
  t0 := Tryz.underlying0
  a0 := Tryz.isAgg0
  z0 := Tryz.sizeOf0
  v0 := Tryz.zeroValue0
  t24 := Tryz.underlying22
  a24 := Tryz.isAgg22
  z24 := Tryz.sizeOf22
  v24 := Tryz.zeroValue22
  t26 := Tryz.underlying9
  a26 := Tryz.isAgg9
  z26 := Tryz.sizeOf9
  v26 := Tryz.zeroValue9
  t28 := Tryz.underlying110
  a28 := Tryz.isAgg110
  z28 := Tryz.sizeOf110
  v28 := Tryz.zeroValue110
  i26 := by kernel_rfl }


end Go.Proofs

namespace Go.Proofs.YteephomlnbbjeaaGreatDoor
open Go Go.RowKit Go.Maps Go.Sort Go.Shelf

theorem grownBy_sortW {w : World} {g n : Nat} {os : Array Obj} (d : Array Wrd) : w.grownBy (sortWorld encW w g 0 n d os) (some g) := by
  unfold sortWorld
  refine ⟨rfl, rfl, rfl, by simp, fun k hk hne => ?_⟩
  rw [heap_grow_old _ _ (by simpa using hk)]
  have : g ≠ k := fun e => hne (by rw [e])
  simp [putRow, mapBlock, Sort.ahead, Array.getElem?_modify, this]

theorem encW_one : OneCell encW := fun _ => rfl

theorem keys_nodup {w : World} {R : Value → Option (DataW Unit × List MemPlace)} {b n : Nat} {D : DataW Unit} (h : w.ownsMap Tryz.prog 9 R b n D) : (strKeys D).Nodup := by
  obtain ⟨es, hD, hpw, _⟩ := h.entries (string_keyed Tryz.underlying9)
  obtain ⟨es', hD', hko⟩ := h.keysOf
  obtain rfl : es = es' := by rw [hD] at hD'; simpa using hD'
  subst hD
  show (es.map fun p => strOf p.1).Nodup
  refine List.pairwise_map.2 (hpw.imp_of_mem fun {p q} hp hq hne e => hne ?_)
  obtain ⟨v, hv⟩ := hko p hp
  obtain ⟨x, _, hx, _⟩ := Maps.keyOf_str Tryz.underlying9 hv
  obtain ⟨v', hv'⟩ := hko q hq
  obtain ⟨y, _, hy, _⟩ := Maps.keyOf_str Tryz.underlying9 hv'
  rw [hx, hy] at e ⊢
  exact congrArg _ e
theorem size_le {w : World} {R : Value → Option (DataW Unit × List MemPlace)} {b n : Nat} {D : DataW Unit} (h : w.ownsMap Tryz.prog 9 R b n D) : Maps.size D ≤ n := by
  obtain ⟨es, _, _, _, hs, rfl⟩ := h
  rw [Maps.size_eq, length_sorted]
  simpa using hs

/-- The words of a list, as a row of the sort. -/
def wrds (l : List (List UInt8)) (h : ∀ y ∈ l, isW y = true) : List Wrd := l.attach.map fun x => ⟨x.1, h x.1 x.2⟩
theorem wrds_val (l : List (List UInt8)) (h : ∀ y ∈ l, isW y = true) : (wrds l h).map (·.1) = l := by
  unfold wrds
  rw [List.map_map]
  exact List.attach_map_subtype_val l

/-- A permutation of a row, of which no later one is ahead of an earlier one. -/
theorem asc_row {d d' : Array Wrd} {m : List (List UInt8)} (hp : PermIn 0 d.size d d') (hs : SortedIn (Go.Proofs.ltOf cfW) 0 d.size d') (hn : (d.toList.map (·.1)).Nodup) (hm : ∀ x, x ∈ d.toList.map (·.1) ↔ x ∈ m) :
    d'.toList.map (·.1) = ascA m := by
  obtain ⟨hsz, _, hperm⟩ := hp
  have e1 : d'.extract 0 d.size = d' := by rw [← hsz]; simp
  have e2 : d.extract 0 d.size = d := by simp
  rw [e1, e2] at hperm
  have hpm := hperm.map (·.1)
  refine asc_of (fun y hy => ?_) (hpm.nodup_iff.2 hn) ?_ (fun x => (hpm.mem_iff).trans (hm x))
  · obtain ⟨x, _, rfl⟩ := List.mem_map.1 hy
    exact x.2
  · refine List.pairwise_map.2 (List.pairwise_iff_getElem.2 fun i j hi hj hij => ?_)
    have hi' : i < d'.size := by simpa using hi
    have hj' : j < d'.size := by simpa using hj
    have := hs i j (Nat.zero_le _) hij (by omega)
    rw [ltOf_no] at this
    simp only [Array.getElem_toList]
    rw [getElem!_pos d' i hi', getElem!_pos d' j hj'] at this
    omega

theorem cmp_lays (ht0 : Bool := true) (blk size n₀ : Nat) (w0 w : World) (ht : Tabs w0) (hn : w0.heap.size = n₀) (hb : Below n₀ w0 w) (hblk : n₀ ≤ blk) : CmpLays1 Tryz.prog 121 #[] encW cfW blk 0 size w := by
  intro m os dk hs x y
  have hX := x.2
  have hY := y.2
  have lx := isW_len hX
  have ly := isW_len hY
  have hT : Tabs (sortWorld encW w blk 0 m dk os) := by
    refine ht.on ?_
    rw [hn]
    exact hb.grown (grownBy_sortW dk) (by have := hb.size; omega) (fun j hj => by cases hj; exact hblk)
  refine (Compare_any ⟨x.1.toArray⟩ ⟨y.1.toArray⟩ _ hT (by rw [size_mk]; unfold maxLen; omega) (by rw [size_mk]; unfold maxLen; omega)).mono ?_
  rintro e w' ⟨rfl, k, rfl⟩
  exact ⟨rfl, k, #[], by rw [grow_empty]⟩

/-- SortFunc of nothing. -/
theorem insertion_nil (p : Option Addr) (c : Nat) (g : Value) (w : World) : Calls Tryz.prog 214 #[.slice p 0 c, .int .i64 0, .int .i64 0, g] w fun e w' => e = .returned (.tuple #[]) ∧ w' = w := by
  go_enter Tryz.func214, Tryz.ntmps214
  go_wp2
  go_loopw [8] (fun i wr => i = .int .i64 1 ∧ wr = w) (fun _ _ => 0)
  case atStart => exact ⟨rfl, rfl⟩
  case round =>
    obtain ⟨rfl, rfl⟩ := hrel
    go_wp2
    go_end0
    exact ⟨rfl, rfl⟩
set_option maxHeartbeats 1000000 in
theorem pdq_nil (p : Option Addr) (c : Nat) (k : Int) (g : Value) (w : World) : Calls Tryz.prog 189 #[.slice p 0 c, .int .i64 0, .int .i64 0, .int .i64 k, g] w fun e w' => e = .returned (.tuple #[]) ∧ w' = w := by
  have HI := Lib.hid (insertion_nil p c g w)
  go_enter Tryz.func189, Tryz.ntmps189
  go_wp2
  go_loopw [1, 2] (fun a b wr => a = .int .i64 0 ∧ b = .int .i64 0 ∧ wr = w) (fun _ _ _ => 0)
  case atStart => exact ⟨rfl, rfl, rfl⟩
  case round =>
    obtain ⟨rfl, rfl, rfl⟩ := hrel
    go_wp2_with (go_at_call 214; refine HI.out.mono ?_; rintro e w' ⟨rfl, rfl⟩)
    refine bodyPost_ret (results_none rfl _ _ _) rfl ?_
    exact ⟨rfl, rfl⟩
theorem sort_nil (p : Option Addr) (c : Nat) (g : Value) (w : World) : Calls Tryz.prog 159 #[.slice p 0 c, g] w fun e w' => e = .returned (.tuple #[]) ∧ w' = w := by
  have HP := Lib.hid (fun k => pdq_nil p c k g w)
  go_enter Tryz.func159, Tryz.ntmps159
  go_wp2_with (first | (go_at_call 190; refine (Tryz.bits_Len 0 _ (by decide) (by decide)).mono ?_; rintro e w' ⟨rfl, rfl⟩) | (go_at_call 189; refine (HP.out _).mono ?_; rintro e w' ⟨rfl, rfl⟩))
  go_end0
  exact ⟨rfl, rfl⟩
end Go.Proofs.YteephomlnbbjeaaGreatDoor

namespace Go.Proofs.YteephomlnbbjeaaGreatDoor
open Go Go.RowKit Go.Maps Go.Sort Go.Shelf

/-- Words in ascending order are handed back. -/
def AscP (w : World) (L : List (List UInt8)) (e : Ending) (w' : World) : Prop :=
  ∃ A cap, e = .returned (.slice A L.length cap) ∧ StrsAt w' A L ∧ (A = none → L = []) ∧ Below w.heap.size w w'

theorem holdsW {w : World} {g : Nat} {cur : Array Value} {fr : Nat × Nat} {ss : List (List UInt8)} (h : ∀ y ∈ ss, isW y = true) (hb : w.heap[g]? = some (.cells cur 9 (0, 0))) (ht : cur.toList.take (ss.length * 1) = ss.map encStr) : Holds encW w g 0 (wrds ss h).toArray := by
  have hlen : (wrds ss h).length = ss.length := by simp [wrds]
  intro j hj
  have hj' : j < ss.length := by simpa [hlen] using hj
  refine ⟨?_, by simp [World.frozen?, hb]⟩
  have h1 : (cur.toList.take (ss.length * 1))[j]? = (ss.map encStr)[j]? := by rw [ht]
  rw [List.getElem?_take_of_lt (by omega)] at h1
  have h2 : ((wrds ss h).map (·.1))[j]? = ss[j]? := by rw [wrds_val]
  have hj2 : j < (wrds ss h).length := by omega
  rw [List.getElem?_map, List.getElem?_eq_getElem hj2, List.getElem?_eq_getElem hj', Option.map_some, Option.some.injEq] at h2
  rw [cell_of_row w g (0 + j) cur 9 (0, 0) hb, Nat.zero_add, ← Array.getElem?_toList, h1, List.getElem?_map, List.getElem?_eq_getElem hj', Option.map_some]
  have h3 : (wrds ss h).toArray[j]! = (wrds ss h)[j] := by simp [hj2]
  rw [h3]
  unfold encW encStr
  rw [h2]

set_option maxHeartbeats 2000000 in
set_option maxRecDepth 100000 in
theorem sortedFunc_in (Bm b nn : Nat) (D : DataW Unit) {R : Value → Option (DataW Unit × List MemPlace)} (l : List (List UInt8)) (w : World) (ht : Tabs w) (hm : w.cell? ⟨Bm, 0, none⟩ = some (.map (some b))) (hown : w.ownsMap Tryz.prog 9 R b nn D) (hnn : nn ≤ 1000000)
    (hhas : ∀ x, has D (.string x) = true ↔ x ∈ l) (hw : ∀ x ∈ l, isW x = true) :
    CallsIn Fence.wide 6 Tryz.prog 122 #[.func (.func 160) #[] #[.pointer (some ⟨Bm, 0, none⟩)], .func (.func 121) #[] #[]] w (AscP w (ascA l)) := by
  have hN := size_le hown
  have hnd := keys_nodup hown
  have hkl : (strKeys D).length ≤ 1000000 := by
    obtain ⟨es, h1, _⟩ := hown.tidy (string_keyed Tryz.underlying9)
    subst h1
    have h2 : (strKeys (.map es : DataW Unit)).length = Maps.size (.map es : DataW Unit) := by simp [strKeys, Maps.size]
    omega
  have hseq := (AnyZ.keys_stops Tryz.zKeys1 Fence.wide 3 trivial rfl (by decide) Bm b nn D w (lt_of_cell hm) hm hown).gives
  have HC : Hid (CallsIn Fence.wide 5 Tryz.prog 158 #[.func (.func 160) #[] #[.pointer (some ⟨Bm, 0, none⟩)]] w fun e w' => ∃ (v : Value) (ss : List (List UInt8)), e = .returned v ∧ (ss.Perm (strKeys D) ∧ ∀ x, x ∈ ss ↔ has D (.string x) = true) ∧ w'.ownsRow w.heap.size 9 1 v ss.length (ss.map encStr) ∧ (v = .slice none 0 0 ↔ ss = []) ∧ Below w.heap.size w w') :=
    Lib.hid (AnyZ.collect_in Tryz.zCol Fence.wide 5 trivial trivial rfl (by decide) 160 #[.pointer (some ⟨Bm, 0, none⟩)] trivial (enters_of Tryz.func160 (by kernel_rfl) rfl) _ (Maps.size D) (by unfold maxLen; omega) (by omega) w hseq)
  have HT := Lib.hid ht
  have HH := Lib.hid hhas
  have HW := Lib.hid hw
  have HND := Lib.hid hnd
  have e121 : ∀ args w, (callFunc 121 args).run Tryz.prog w = .ok (.enter 121 args) w := enters_of Tryz.func121 (by kernel_rfl) rfl
  clear ht hhas hw hnd hseq hm hown hN
  refine callsIn_of_wp Tryz.func122 rfl trivial ?_ rfl
  simp only [Tryz.ntmps122, List.size_toArray, List.length_cons, List.length_nil, Nat.reduceAdd, Nat.reduceSub, Array.replicate_succ, Array.replicate_zero, List.push_toArray, List.append_toArray, List.nil_append, List.cons_append]
  gi_wp2_with fail
  refine ⟨trivial, ?_⟩
  gi_at_call 158
  refine HC.out.mono ?_
  rintro e w1 ⟨v, ss, rfl, ⟨hperm, hmem⟩, hrow, hnil, hb⟩
  have hssl : ∀ x, x ∈ ss ↔ x ∈ l := fun x => (hmem x).trans (HH.out x)
  have hssw : ∀ y ∈ ss, isW y = true := fun y hy => HW.out y ((hssl y).1 hy)
  have hssn : ss.Nodup := hperm.nodup_iff.2 HND.out
  by_cases hs0 : ss = []
  · obtain rfl := hnil.2 hs0
    have hl0 : l = [] := by
      cases l with
      | nil => rfl
      | cons a t => have := (hssl a).2 (by simp); rw [hs0] at this; cases this
    have HL0 := Lib.hid hl0
    have HB := Lib.hid hb
    clear hperm hmem hrow hnil hb hssl hssw hssn hs0 hl0
    gi_wp2_with fail
    refine ⟨trivial, ?_⟩
    gi_at_call 159
    refine (callsIn_wide.2 (sort_nil none 0 _ w1)).mono ?_
    rintro e w2 ⟨rfl, rfl⟩
    gi_wp2_with fail
    go_ret
    exact ⟨none, 0, by rw [HL0.out]; rfl, by rw [HL0.out]; exact fun i hi => absurd hi (Nat.not_lt_zero i), fun _ => by rw [HL0.out]; rfl, HB.out⟩
  · obtain ⟨g, cap, cur, rfl, hg, hh, hnc, hcm, hcs, htk⟩ : ∃ g cap cur, v = .slice (some ⟨g, 0, none⟩) ss.length cap ∧ w.heap.size ≤ g ∧ w1.heap[g]? = some (.cells cur 9 (0, 0)) ∧ ss.length ≤ cap ∧ cap ≤ maxLen ∧ cur.size = cap * 1 ∧ cur.toList.take (ss.length * 1) = ss.map encStr := by
      rcases hrow.2 with ⟨h1, h2⟩ | ⟨g, cap, cur, h1, h2, h3, h4, h5, h6, h7⟩
      · exact absurd (List.length_eq_zero_iff.1 h2) hs0
      · exact ⟨g, cap, cur, h1, h2, h3, h4, h5, h6, h7⟩
    have hsl : ss.length ≤ 1000000 := by rw [hperm.length_eq]; exact hkl
    have hHo := holdsW (fr := (0, 0)) hssw hh htk
    have hgl : g < w1.heap.size := (Array.getElem?_eq_some_iff.1 hh).1
    have hdl : (wrds ss hssw).toArray.size = ss.length := by simp [wrds]
    have hdn : ((wrds ss hssw).toArray.toList.map (·.1)).Nodup := by
      rw [show (wrds ss hssw).toArray.toList = wrds ss hssw from rfl, wrds_val]; exact hssn
    have hdm : ∀ x, x ∈ (wrds ss hssw).toArray.toList.map (·.1) ↔ x ∈ l := fun x => by
      rw [show (wrds ss hssw).toArray.toList = wrds ss hssw from rfl, wrds_val]; exact hssl x
    have hS := Tryz.slices_SortFunc encW encW_one cfW swoW 121 #[] g 0 cap (wrds ss hssw).toArray w1 e121 (cmp_lays true g _ w.heap.size w w1 HT.out rfl hb hg) hHo hgl (by rw [hdl]; omega)
    rw [hdl] at hS
    have HS := Lib.hid hS
    have HF : Hid (∀ (d' : Array Wrd) (n : Nat) (os : Array Obj), PermIn 0 ss.length (wrds ss hssw).toArray d' → SortedIn (ltOf cfW) 0 ss.length d' → AscP w (ascA l) (.returned (.slice (some ⟨g, 0, none⟩) ss.length cap)) (sortWorld encW w1 g 0 n d' os)) := Lib.hid (fun d' n os hp hsd => by
      have hasc := asc_row (m := l) (by rw [hdl]; exact hp) (by rw [hdl]; exact hsd) hdn hdm
      have hsz : d'.size = (wrds ss hssw).toArray.size := hp.1
      have hlen : (ascA l).length = ss.length := by rw [← hasc]; simp; omega
      have hH2 := holds_sortWorld encW w1 g 0 n (wrds ss hssw).toArray d' os hgl hHo hsz
      refine ⟨some ⟨g, 0, none⟩, cap, by rw [hlen], fun i hi => ?_, (fun h => by cases h), hb.grown (grownBy_sortW d') hb.size (fun j hj => by cases hj; exact hg)⟩
      have hi2 : i < d'.size := by omega
      have h1 := (hH2 i hi2).1
      have h2 : (ascA l)[i] = (d'[i]).1 := by
        have h3 : (d'.toList.map (·.1))[i]'(by simpa using hi2) = (d'[i]).1 := by simp
        rw [← h3]
        congr 1
        exact hasc.symm
      rw [getElem!_pos d' i hi2] at h1
      refine ⟨g, 0, rfl, ?_, ?_⟩
      · rw [h2]; exact h1
      · rw [h2]; have := isW_len (d'[i]).2; omega)
    clear hperm hmem hrow hnil hb hssl hssn hs0 hHo hgl hdl hdn hdm hS hh htk hcs
    gi_wp2_with fail
    refine ⟨trivial, ?_⟩
    gi_at_call 159
    refine (callsIn_wide.2 HS.out).mono ?_
    rintro e w2 ⟨rfl, d', n, os, hp, hsd, rfl⟩
    have HF2 := Lib.hid (HF.out d' n os hp hsd)
    clear hp hsd
    gi_wp2_with fail
    go_ret
    exact HF2.out

set_option maxHeartbeats 1000000 in
theorem ascending_any (b nn : Nat) (D : DataW Unit) {R : Value → Option (DataW Unit × List MemPlace)} (l : List (List UInt8)) (w : World) (ht : Tabs w) (hown : w.ownsMap Tryz.prog 9 R b nn D) (hnn : nn ≤ 1000000)
    (hhas : ∀ x, has D (.string x) = true ↔ x ∈ l) (hw : ∀ x ∈ l, isW x = true) :
    Calls Tryz.prog 72 #[.map (some b)] w (AscP w (ascA l)) := by
  have hba := (Below.refl w.heap.size w).alloc (Nat.le_refl _) (.cells #[.map (some b)] 107)
  have HS := Lib.hid (callsIn_wide.1 (sortedFunc_in w.heap.size b nn D l (w.alloc (.cells #[.map (some b)] 107)) (ht.on hba) (Boxed.new w 107 (.map (some b))).cell (hown.alloc _) hnn hhas hw))
  have HK : Hid (Calls Tryz.prog 123 #[.map (some b)] w fun e w' => e = .returned (.func (.func 160) #[] #[.pointer (some ⟨w.heap.size, 0, none⟩)]) ∧ w' = w.alloc (.cells #[.map (some b)] 107)) := Lib.hid (callsIn_wide.1 (AnyZ.keys_in Tryz.zKeys Fence.wide 3 trivial rfl (some b) w))
  have HBA := Lib.hid hba
  clear ht hown hhas hw hba
  go_enter Tryz.func72, Tryz.ntmps72
  go_wp2_with fail
  refine HK.out.mono ?_
  rintro e w1 ⟨rfl, rfl⟩
  go_wp2_with fail
  refine HS.out.mono ?_
  rintro e w2 ⟨A, cap, rfl, h1, h2, h3⟩
  go_wp2
  go_ret
  exact ⟨A, cap, rfl, h1, h2, HBA.out.trans (h3.mono (by simp))⟩
end Go.Proofs.YteephomlnbbjeaaGreatDoor
