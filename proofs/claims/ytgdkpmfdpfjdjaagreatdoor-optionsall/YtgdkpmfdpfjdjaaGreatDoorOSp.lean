/-
  Options: what each call does, once for both sides (pure).
-/
import Derived.Test.YtgdkpmfdpfjdjaaGreatDoorODc
import Derived.Test.YtgdkpmfdpfjdjaaGreatDoorOScp
import Derived.Test.YtgdkpmfdpfjdjaaGreatDoorHE
import Derived.Test.YtgdkpmfdpfjdjaaGreatDoorNumPlain
namespace Go.Proofs.YtgdkpmfdpfjdjaaGreatDoor
open Go.RowKit Go.Maps
set_option linter.unusedVariables false
set_option maxRecDepth 100000

/-- An option, by its name. -/
def rowO (k : ByteArray) : Option Orow := rowsO.find? fun r => decide (r.name = k)
theorem rowO_some {k : ByteArray} {r : Orow} (hr : r ∈ rowsO) (hn : r.name = k) : rowO k = some r := by
  unfold rowO
  cases q : rowsO.find? fun r => decide (r.name = k) with
  | none => exact absurd hn (by simpa using List.find?_eq_none.1 q r hr)
  | some r' =>
    have h1 := List.mem_of_find?_eq_some q
    have h2 : r'.name = k := by simpa using List.find?_some q
    obtain ⟨i, hi, e⟩ := List.getElem_of_mem hr
    obtain ⟨j, hj, e'⟩ := List.getElem_of_mem h1
    have hp := List.pairwise_iff_getElem.1 names_nodup
    have : i = j := by
      rcases Nat.lt_trichotomy i j with h | h | h
      · exact absurd (show (rowsO.map Orow.name)[i]'(by simpa using hi) = (rowsO.map Orow.name)[j]'(by simpa using hj) by rw [List.getElem_map, List.getElem_map, e, e', hn, h2]) (hp i j (by simpa using hi) (by simpa using hj) h)
      · exact h
      · exact absurd (show (rowsO.map Orow.name)[j]'(by simpa using hj) = (rowsO.map Orow.name)[i]'(by simpa using hi) by rw [List.getElem_map, List.getElem_map, e, e', hn, h2]) (hp j i (by simpa using hj) (by simpa using hi) h)
    subst this
    rw [← e, ← e']
theorem rowO_none {k : ByteArray} (h : ∀ r ∈ rowsO, r.name ≠ k) : rowO k = none := by
  unfold rowO
  exact List.find?_eq_none.2 fun r hr => by simpa using h r hr
theorem rowO_mem {k : ByteArray} {r : Orow} (h : rowO k = some r) : r ∈ rowsO ∧ r.name = k := ⟨List.mem_of_find?_eq_some h, by simpa using List.find?_some h⟩
theorem rowO_no {k : ByteArray} (h : rowO k = none) : ∀ r ∈ rowsO, r.name ≠ k := fun r hr => by
  have := List.find?_eq_none.1 h r hr
  simpa using this
/-- May it be set for things of a scope? -/
def isOfB (rs sc : Int) : Bool := decide (sc = rs) || (decide (rs = 4) && decide (sc = 3))
def idBad (sc id : Int) : Bool := decide (id < 0) || decide (4611686018427387904 < id) || (decide (0 < id) && decide (sc = 1))
/-- The errors that come first. -/
def placeF (sc id : Int) (k : ByteArray) : Int := match rowO k with
  | none => 230
  | some r => if isOfB r.scope sc = false then 231 else if idBad sc id = true then 1 else 0
theorem placeF_ok {sc id : Int} {k : ByteArray} (h : placeF sc id k = 0) : ∃ r, rowO k = some r ∧ isOfB r.scope sc = true ∧ idBad sc id = false := by
  unfold placeF at h
  cases q : rowO k with
  | none => rw [q] at h; cases h
  | some r =>
    rw [q] at h
    dsimp only at h
    refine ⟨r, rfl, ?_, ?_⟩
    · cases z : isOfB r.scope sc
      · rw [z] at h; cases h
      · rfl
    · cases z : isOfB r.scope sc
      · rw [z] at h; cases h
      · cases y : idBad sc id
        · rfl
        · rw [z, y] at h; cases h
/-- Is it a value of the kind? -/
noncomputable def valB (k : Kd) (v : ByteArray) : Bool := match k with
  | .num lo hi => @decide (∃ n, Num v.data.toList n ∧ lo ≤ n ∧ n ≤ hi) (Classical.propDecidable _)
  | .txt => decide (v.size ≤ 1024)
  | .key => (readF v.data.toList).isSome
  | .flag => decide (v = ⟨#[111, 110]⟩ ∨ v = ⟨#[111, 102, 102]⟩)
  | .cho ws => ws.any fun x => decide (x = v)
/-- What a kind says of a value. -/
noncomputable def checkF (k : Kd) (v : ByteArray) : Int := match k with
  | .txt => if 1024 < v.size then 2 else 0
  | k => if valB k v then 0 else 125
def isTxt : Kd → Bool
  | .txt => true
  | _ => false
theorem checkF_val {k : Kd} (h : isTxt k = false) (v : ByteArray) : checkF k v = if valB k v then 0 else 125 := by
  cases k with
  | txt => cases h
  | num lo hi => rfl
  | key => rfl
  | flag => rfl
  | cho ws => rfl
theorem checkF_ok {k : Kd} {v : ByteArray} (h : checkF k v = 0) : valB k v = true := by
  cases q : isTxt k with
  | true =>
    cases k with
    | txt =>
      unfold checkF at h
      unfold valB
      by_cases q : 1024 < v.size
      · rw [if_pos q] at h; cases h
      · exact decide_eq_true (by omega)
    | _ => cases q
  | false =>
    rw [checkF_val q] at h
    cases z : valB k v with
    | true => rfl
    | false => rw [z] at h; cases h
/-- What is set is put. -/
noncomputable def putF (L : List Ent) (sc id : Int) (nm vl : ByteArray) (kd : Kd) : List Ent × Int :=
  if checkF kd vl ≠ 0 then (L, checkF kd vl) else if 500 ≤ (L.filter (offB sc id nm)).length then (L, 3) else (L.filter (offB sc id nm) ++ [⟨sc, id, nm, vl⟩], 0)
noncomputable def setF (L : List Ent) (sc id : Int) (nm vl : ByteArray) : List Ent × Int := match rowO nm with
  | none => (L, 230)
  | some r => if placeF sc id nm ≠ 0 then (L, placeF sc id nm) else putF L sc id nm vl r.kd
/-- What is set there, or the value at the beginning. -/
def nowF (L : List Ent) (sc id : Int) (r : Orow) : ByteArray := (atF L sc id r.name).getD r.first
def isFlag : Kd → Bool
  | .flag => true
  | _ => false
noncomputable def addF (L : List Ent) (sc id : Int) (nm vl : ByteArray) : List Ent × Int := match rowO nm with
  | none => (L, 230)
  | some r => if placeF sc id nm ≠ 0 then (L, placeF sc id nm) else if isTxt r.kd then putF L sc id nm (nowF L sc id r ++ vl) r.kd else (L, 125)
def onT : ByteArray := ⟨#[111, 110]⟩
def offT : ByteArray := ⟨#[111, 102, 102]⟩
noncomputable def turnF (L : List Ent) (sc id : Int) (nm : ByteArray) : List Ent × Int := match rowO nm with
  | none => (L, 230)
  | some r => if placeF sc id nm ≠ 0 then (L, placeF sc id nm) else if isFlag r.kd then putF L sc id nm (if nowF L sc id r = onT then offT else onT) r.kd else (L, 125)
def unsetF (L : List Ent) (sc id : Int) (nm : ByteArray) : List Ent × Int := if placeF sc id nm ≠ 0 then (L, placeF sc id nm) else (L.filter (offB sc id nm), 0)
/-- Where an option of a scope may be set for these three. -/
def placesF (scope s w p : Int) : List (Int × Int) := if scope = 2 then [(2, s), (2, 0)] else if scope = 3 then [(3, w), (3, 0)] else if scope = 4 then [(4, p), (3, w), (4, 0), (3, 0)] else [(1, 0)]
def nearF (L : List Ent) (nm : ByteArray) : List (Int × Int) → Option ByteArray
  | [] => none
  | q :: l => match atF L q.1 q.2 nm with
    | some v => some v
    | none => nearF L nm l
def getF (L : List Ent) (nm : ByteArray) (s w p : Int) : ByteArray × Int := match rowO nm with
  | none => (⟨#[]⟩, 230)
  | some r => ((nearF L nm (placesF r.scope s w p)).getD r.first, 0)
/-- What is set for one thing. -/
def localF (L : List Ent) (sc id : Int) : List Ent := rowsO.filterMap fun r => (atF L sc id r.name).map fun v => ⟨sc, id, r.name, v⟩
/-- What is set is well set. -/
structure Good (L : List Ent) : Prop where
  few : L.length ≤ 500
  each : ∀ e ∈ L, e.vl.size ≤ 140737488355328 ∧ ∃ r, rowO e.nm = some r ∧ checkF r.kd e.vl = 0
theorem good_nil : Good [] := ⟨Nat.zero_le _, fun e he => by cases he⟩
theorem Good.filter {L : List Ent} (h : Good L) (p : Ent → Bool) : Good (L.filter p) := ⟨Nat.le_trans (List.length_filter_le _ _) h.few, fun e he => h.each e (List.mem_filter.1 he).1⟩
theorem Good.put {L : List Ent} (h : Good L) {sc id : Int} {nm vl : ByteArray} {r : Orow} (hr : rowO nm = some r) (hv : vl.size ≤ 140737488355328) : Good (putF L sc id nm vl r.kd).1 := by
  unfold putF
  by_cases h1 : checkF r.kd vl = 0
  · rw [if_neg (fun q => q h1)]
    by_cases h2 : 500 ≤ (L.filter (offB sc id nm)).length
    · rw [if_pos h2]; exact h
    · rw [if_neg h2]
      refine ⟨by simp only [List.length_append, List.length_singleton]; omega, fun e he => ?_⟩
      rcases List.mem_append.1 he with q | q
      · exact h.each e (List.mem_filter.1 q).1
      · rw [List.mem_singleton] at q
        subst q
        exact ⟨hv, r, hr, h1⟩
  · rw [if_pos h1]; exact h
end Go.Proofs.YtgdkpmfdpfjdjaaGreatDoor
