/-
  Options: the table, as it is filled.
-/
import Derived.Test.YtgdkpmfdpfjdjaaGreatDoorOFlg
import Derived.Maps.OwnSet
import Derived.Maps.Keyed
namespace Go.Proofs.YtgdkpmfdpfjdjaaGreatDoor
open Go.RowKit Go.Maps
set_option linter.unusedVariables false
set_option maxRecDepth 100000

/-- What a kind takes. -/
inductive Kd where
  | num (lo hi : Int)
  | txt
  | key
  | flag
  | cho (ws : List ByteArray)
structure Orow where
  name : ByteArray
  scope : Int
  kd : Kd
  first : ByteArray
def txtV : Value := .agg #[.func (.func 64) #[] #[], .bool true, .bool false]
def keyVO : Value := .agg #[.func (.func 67) #[] #[], .bool false, .bool false]
/-- A kind's value reads as that kind. -/
def KindAt (Y : World) (b : Nat) : Kd → Value → Prop
  | .num lo hi, v => NumK Y (b + 1) lo hi v
  | .txt, v => v = txtV
  | .key, v => v = keyVO
  | .flag, v => ∃ g, ChoK Y (b + 1) (.slice (some ⟨g, 0, none⟩) 2 2) true v ∧ b + 1 ≤ g ∧ Y.heap[g]? = some (.cells #[.string ⟨#[111, 110]⟩, .string ⟨#[111, 102, 102]⟩] 9 (0, 0))
  | .cho ws, v => ∃ g, ChoK Y (b + 1) (.slice (some ⟨g, 0, none⟩) ws.length ws.length) false v ∧ b + 1 ≤ g ∧ Y.heap[g]? = some (.cells (ws.map Value.string).toArray 9 (0, 0))
theorem KindAt.keep {Y Z : World} {b : Nat} {k : Kd} {v : Value} (h : KindAt Y b k v) (hk : ∀ i o, b < i → Y.heap[i]? = some o → Z.heap[i]? = some o) : KindAt Z b k v := by
  cases k with
  | num lo hi =>
    obtain ⟨p, q, e, h1, h2, h3, h4⟩ := h
    exact ⟨p, q, e, h1, h2, hk _ _ (by omega) h3, hk _ _ (by omega) h4⟩
  | txt => exact h
  | key => exact h
  | flag =>
    obtain ⟨g, ⟨p, e, h1, h2⟩, h3, h4⟩ := h
    exact ⟨g, ⟨p, e, h1, hk _ _ (by omega) h2⟩, h3, hk _ _ (by omega) h4⟩
  | cho ws =>
    obtain ⟨g, ⟨p, e, h1, h2⟩, h3, h4⟩ := h
    exact ⟨g, ⟨p, e, h1, hk _ _ (by omega) h2⟩, h3, hk _ _ (by omega) h4⟩
/-- An option's value, of its kind's value. -/
def optV (sc : Int) (kv : Value) (first : ByteArray) : Value := match kv with
  | .agg cs => .agg #[.int .i64 sc, cs.getD 0 undef, cs.getD 1 undef, cs.getD 2 undef, .string first]
  | v => v
def optR (v : Value) : Option (DataW Value × List MemPlace) := some (.held v, [])
def tabD : List (ByteArray × Value) → DataW Value := fun l => l.foldl (fun D x => D.put (.string x.1.data.toList) (.held x.2)) (.map [])
theorem underTab : Tryz.prog.underlying 46 = some (.map 9 51) := by kernel_rfl
theorem strKeyed : Keyed Tryz.prog 9 := string_keyed Tryz.underlying9
theorem keyOf_str {s : ByteArray} (hs : s.size ≤ maxLen) : keyOf Tryz.prog 9 (.string s) = some (.string s.data.toList) := by
  simp [keyOf, mapKey, Tryz.underlying9]
  exact hs
theorem own_sameO {w Y : World} {b n : Nat} {D : DataW Value} (h : w.ownsMap Tryz.prog 9 optR b n D) (hY : Y.heap[b]? = w.heap[b]?) : Y.ownsMap Tryz.prog 9 optR b n D := by
  obtain ⟨es, clock, h1, h2⟩ := h
  exact ⟨es, clock, hY.trans h1, h2⟩
theorem wpList_insert_own {ops : Array Oper} {rest : List Oper} {o : Oper} {a : Act} {Q : Exit → Act → World → Prop} {w : World} (hg : o.guard = none) (m x v : Operand) (hop : o.op = Op.insert 46 m x v)
    (b n : Nat) (D : DataW Value) (hm : a.eval m = .map (some b)) (hown : w.ownsMap Tryz.prog 9 optR b n D) (hn : n < maxLen) (key : ByteArray) (val : Value) (hx : a.eval x = .string key) (hv : a.eval v = val) (hs : key.size ≤ maxLen)
    (hK : ∀ w', w'.ownsMap Tryz.prog 9 optR b (n + 1) (D.put (.string key.data.toList) (.held val)) → w.mapTurned w' b → wpList Tryz.prog ops Q rest (a.put o.dst undef) w') :
    wpList Tryz.prog ops Q (o :: rest) a w := by
  refine wpList_plain hg fun K' hK' => ?_
  obtain ⟨w', hrun, r1, r2⟩ := hown.store strKeyed underTab hn (keyOf_str hs) (d := .held val) (ps := []) (val := val) rfl
  unfold Oper.wp
  simp [execOp, hop, hm, hx, hv, hrun, Result.andThen]
  exact hK' _ _ (hK w' r1 r2)
theorem _root_.Go.World.ownsMap.ins {w : World} {b n : Nat} {D : DataW Value} (h : w.ownsMap Tryz.prog 9 optR b n D) (key : ByteArray) (hs : key.size ≤ maxLen) (hn : n < maxLen) (val : Value) :
    ∃ w', (Instr.mapUpdate 46 (.map (some b)) (.string key) val).run Tryz.prog w = .ok () w' ∧ w'.ownsMap Tryz.prog 9 optR b (n + 1) (D.put (.string key.data.toList) (.held val)) ∧ w.grownBy w' (some b) := by
  obtain ⟨w', hrun, r1, r2⟩ := h.store strKeyed underTab hn (keyOf_str hs) (d := .held val) (ps := []) (val := val) rfl
  exact ⟨w', hrun, r1, r2.grown⟩
/-- The table with some of its rows. -/
structure Tbl (w Y : World) (b : Nat) (rs : List Orow) (l : List (ByteArray × Value)) : Prop where
  own : Y.ownsMap Tryz.prog 9 optR b rs.length (tabD l)
  names : l.map Prod.fst = rs.map Orow.name
  kinds : ∀ i (h : i < rs.length), ∃ kv, (l[i]?).map Prod.snd = some (optV rs[i].scope kv rs[i].first) ∧ KindAt Y b rs[i].kd kv
  base : w.heap.size = b
  below : Below w.heap.size w Y
theorem Tbl.more {w X Y : World} {b : Nat} {rs : List Orow} {l : List (ByteArray × Value)} (h : Tbl w X b rs l) (hb : Below X.heap.size X Y) : Tbl w Y b rs l :=
  ⟨own_sameO h.own (hb.block b h.own.lt), h.names, fun i hi => by
    obtain ⟨kv, e, hk⟩ := h.kinds i hi
    exact ⟨kv, e, hk.keep fun j o _ hj => (hb.block j (lt_block hj)).trans hj⟩, h.base, h.below.trans (hb.mono h.below.size)⟩
theorem Tbl.next {w Y Z : World} {b : Nat} {rs : List Orow} {l : List (ByteArray × Value)} (h : Tbl w Y b rs l) (r : Orow) {kv : Value} (hk : KindAt Y b r.kd kv) (ho : Z.ownsMap Tryz.prog 9 optR b (rs.length + 1) ((tabD l).put (.string r.name.data.toList) (.held (optV r.scope kv r.first)))) (hg : Y.grownBy Z (some b)) : Tbl w Z b (rs ++ [r]) (l ++ [(r.name, optV r.scope kv r.first)]) := by
  have hlen : l.length = rs.length := by have := congrArg List.length h.names; simpa using this
  have keep : ∀ i o, b < i → Y.heap[i]? = some o → Z.heap[i]? = some o := fun i o hi ho => (hg.block i (lt_block ho) (by intro e; cases e; omega)).trans ho
  refine ⟨by rw [List.length_append]; unfold tabD; rw [List.foldl_append]; exact ho, by simp [h.names], fun i hi => ?_, h.base, ?_⟩
  · by_cases hlt : i < rs.length
    · obtain ⟨kv', e, hk'⟩ := h.kinds i hlt
      refine ⟨kv', ?_, ?_⟩
      · rw [List.getElem?_append_left (by omega), List.getElem_append_left hlt]; exact e
      · rw [List.getElem_append_left hlt]; exact hk'.keep keep
    · have hi2 : i = rs.length := by simp at hi; omega
      subst hi2
      refine ⟨kv, ?_, ?_⟩
      · simp [← hlen]
      · simpa using hk.keep keep
  · refine ⟨hg.os.trans h.below.os, hg.tape.trans h.below.tape, hg.output.trans h.below.output, Nat.le_trans h.below.size hg.size, fun i hi => (hg.block i (Nat.lt_of_lt_of_le hi h.below.size) (by intro e; cases e; have := h.base; omega)).trans (h.below.block i hi)⟩
end Go.Proofs.YtgdkpmfdpfjdjaaGreatDoor
