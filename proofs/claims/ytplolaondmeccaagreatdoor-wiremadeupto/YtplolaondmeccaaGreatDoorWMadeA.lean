/-
  A part in memory; a block's text, made.
-/
import Derived.Test.YtplolaondmeccaaGreatDoorWMadeP
import Derived.Test.YtplolaondmeccaaGreatDoorWSmall
import Derived.Test.YtplolaondmeccaaGreatDoorWBegA
import Derived.WalkKit
import Derived.LoopTactic
import Derived.RegionTactic
import Derived.Deep.RegionWith
import Derived.Deep.DrawnRows
import Derived.Deep.RegionHeld3
namespace Go.Proofs.YtplolaondmeccaaGreatDoor
open Go.RowKit
set_option linter.unusedVariables false

/-- A part: a notification, or a block with lines (the slice that they lie in). -/
structure PartV where
  ev : Ev
  block : Bool
  good : Bool
  lv : Value
  lines : List ByteArray

/-- Its cells. -/
def PartV.vals (p : PartV) : Array Value :=
  #[.int .i64 p.ev.kind, .int .i64 p.ev.session, .int .i64 p.ev.window, .int .i64 p.ev.pane, .int .i64 p.ev.index, .int .i64 p.ev.offset, .int .i64 p.ev.tick, .int .i64 p.ev.number, .int .i64 p.ev.flag,
    .string p.ev.name, .string p.ev.text, .string p.ev.layout, .string p.ev.visible, .bool p.ev.zoom, .bool p.block, .bool p.good, p.lv]

/-- A slice of texts, as it lies. -/
def LinesAt (w : World) (v : Value) (l : List ByteArray) : Prop :=
  ((∃ ad c, v = .slice ad 0 c) ∧ l = []) ∨ ∃ b o c, v = .slice (some ⟨b, o, none⟩) l.length c ∧ ∀ (i : Nat) t, l[i]? = some t → w.cell? ⟨b, o + i, none⟩ = some (.string t)
theorem LinesAt.below {w w' : World} {v : Value} {l : List ByteArray} (h : LinesAt w v l) (hb : Below w.heap.size w w') : LinesAt w' v l :=
  h.imp id fun ⟨b, o, c, h1, h2⟩ => ⟨b, o, c, h1, fun i t hi => (hb.cell (p := ⟨b, o + i, none⟩) (World.block_lt_of_cell? w _ (h2 i t hi))).trans (h2 i t hi)⟩
theorem LinesAt.shape {w : World} {v : Value} {l : List ByteArray} (h : LinesAt w v l) : ∃ ad cap, v = .slice ad l.length cap := by
  rcases h with ⟨⟨ad, c, rfl⟩, rfl⟩ | ⟨b, o, c, h1, _⟩
  · exact ⟨ad, c, rfl⟩
  · exact ⟨_, _, h1⟩
theorem LinesAt.cell {w : World} {v : Value} {l : List ByteArray} (h : LinesAt w v l) {i : Nat} {t : ByteArray} (hi : l[i]? = some t) : ∃ b o c, v = .slice (some ⟨b, o, none⟩) l.length c ∧ w.cell? ⟨b, o + i, none⟩ = some (.string t) := by
  rcases h with ⟨_, rfl⟩ | ⟨b, o, c, h1, h2⟩
  · cases hi
  · exact ⟨b, o, c, h1, h2 i t hi⟩

theorem cat_str (a b : List UInt8) : str a ++ str b = str (a ++ b) := by
  apply congrArg ByteArray.mk
  simp [str]

/-- Its text. -/
def textAll (l : List ByteArray) : Nat := (l.map fun t => t.size + 1).sum

theorem text_mem : ∀ (l : List ByteArray) (t : ByteArray), t ∈ l → t.size + 1 ≤ textAll l
  | [], t, h => by cases h
  | a :: l, t, h => by
    show _ ≤ (a.size + 1) + textAll l
    rcases List.mem_cons.1 h with rfl | h
    · omega
    · have := text_mem l t h
      omega
theorem text_count : ∀ l : List ByteArray, l.length ≤ textAll l
  | [] => Nat.le_refl _
  | a :: l => by
    have := text_count l
    show l.length + 1 ≤ (a.size + 1) + textAll l
    omega

theorem num_fits (k : Nat) (n : Int) (hn : 0 ≤ n ∧ n ≤ 4611686018427387904) : (numEv k 0 n 0).Fits := by
  refine ⟨Nat.zero_le _, Nat.zero_le _, Nat.zero_le _, Nat.zero_le _, fun f => ?_⟩
  have e : f.get (numEv k 0 n 0) = if f = .number then n else 0 := by cases f <;> rfl
  rw [e]
  split <;> omega

theorem bodies_length : ∀ l : List ByteArray, (bodiesL l).length ≤ 4 * textAll l
  | [] => Nat.le_refl _
  | t :: l => by
    have h1 := bodies_length l
    have h2 := escB_length t.data.toList
    rw [size_data] at h2
    show ((escB t.data.toList ++ [10]) ++ bodiesL l).length ≤ 4 * ((t.size + 1) + textAll l)
    rw [List.length_append, List.length_append, List.length_singleton]
    omega
theorem numL_length (k : Nat) (t n f : Int) : (numL k t n f).length ≤ 130 := by
  have h1 := putL_length t
  have h2 := putL_length n
  have h3 := putL_length f
  have h4 := head_length k
  unfold numL
  simp only [List.length_append, List.length_cons]
  omega
theorem block_length (g : Bool) (n : Int) (l : List ByteArray) : (blockL g n l).length ≤ 262 + 4 * textAll l := by
  have h1 := numL_length 1 0 n 0
  have h2 := numL_length (if g then 2 else 3) 0 n 0
  have h3 := bodies_length l
  unfold blockL
  simp only [List.length_append, List.length_singleton]
  omega

set_option maxRecDepth 20000 in
set_option maxHeartbeats 2000000 in
theorem made_any (p : PartV) (n : Int) (hn : 0 ≤ n ∧ n ≤ 4611686018427387904) (hls : textAll p.lines ≤ 1048576) (w : World) (hE : Env w) (hL : LinesAt w p.lv p.lines) :
    Calls Tryz.prog 7 #[.agg p.vals, .int .i64 n] w fun e w' => e = .returned (.string (str (blockL p.good n p.lines))) ∧ Below w.heap.size w w' := by
  obtain ⟨ev, block, good, lv, ls⟩ := p
  dsimp only at hls hL ⊢
  unfold PartV.vals
  dsimp only
  have HE : Hid (∀ W, Below w.heap.size w W → Env W) := fun W h => hE.below h
  obtain ⟨W, hW⟩ : ∃ W, w.alloc (.cells #[.int .i64 ev.kind, .int .i64 ev.session, .int .i64 ev.window, .int .i64 ev.pane, .int .i64 ev.index, .int .i64 ev.offset, .int .i64 ev.tick, .int .i64 ev.number, .int .i64 ev.flag, .string ev.name, .string ev.text, .string ev.layout, .string ev.visible, .bool ev.zoom, .bool block, .bool good, lv] 30) = W := ⟨_, rfl⟩
  have HBW : Hid (Below w.heap.size w W) := hW ▸ below1 w _
  have HSz : Hid (w.heap.size < W.heap.size) := by show _ < _; rw [← hW, size1]; omega
  have HC : Hid (W.cell? ⟨w.heap.size, 16, none⟩ = some lv) := by show _ = _; rw [← hW]; exact cell_at (heap_alloc_new w _) 16
  have HLW : Hid (LinesAt W lv ls) := hL.below HBW.out
  obtain ⟨ad, cap, hlv⟩ := hL.shape
  subst hlv
  have e1 := num_enc 1 (.inl rfl) 0 n 0 (by decide) hn (by decide)
  have H1 : Hid (∀ X, Below w.heap.size w X → Calls Tryz.prog 8 #[.agg #[.int .i64 1, .int .i64 0, .int .i64 0, .int .i64 0, .int .i64 0, .int .i64 0, .int .i64 0, .int .i64 n, .int .i64 0, .string ⟨#[]⟩, .string ⟨#[]⟩, .string ⟨#[]⟩, .string ⟨#[]⟩, .bool false]] X fun e w' => e = .returned (.tuple #[.string (str (numL 1 0 n 0)), .int .i64 0]) ∧ Below X.heap.size X w') := fun X hX => by
    have := encode_any (numEv 1 0 n 0) (num_fits 1 n hn) X (HE.out X hX)
    rw [e1] at this
    exact this
  have HBo : Hid (∀ (t : ByteArray), t.size ≤ 1048576 → ∀ X, Below w.heap.size w X → Calls Tryz.prog 8 #[.agg #[.int .i64 4, .int .i64 0, .int .i64 0, .int .i64 0, .int .i64 0, .int .i64 0, .int .i64 0, .int .i64 0, .int .i64 0, .string ⟨#[]⟩, .string t, .string ⟨#[]⟩, .string ⟨#[]⟩, .bool false]] X fun e w' => e = .returned (.tuple #[.string (str (escB t.data.toList)), .int .i64 0]) ∧ Below X.heap.size X w') := fun t ht X hX => by
    have := encode_any (bodyEv t) (body_fits t (by unfold slim; omega)) X (HE.out X hX)
    rw [body_enc t] at this
    exact this
  have HT : Hid (∀ t ∈ ls, t.size + 1 ≤ textAll ls) := fun t ht => text_mem ls t ht
  have HTk : Hid (∀ k, (bodiesL (ls.take k)).length ≤ 4 * textAll ls) := fun k => by
    refine Nat.le_trans ?_ (bodies_length ls)
    have : bodiesL ls = bodiesL (ls.take k) ++ bodiesL (ls.drop k) := by
      unfold bodiesL
      rw [← List.flatMap_append, List.take_append_drop]
    rw [this, List.length_append]
    omega
  have HEnd : Hid (∀ k : Nat, k = 2 ∨ k = 3 → ∀ X, Below w.heap.size w X → Calls Tryz.prog 8 #[.agg #[.int .i64 k, .int .i64 0, .int .i64 0, .int .i64 0, .int .i64 0, .int .i64 0, .int .i64 0, .int .i64 n, .int .i64 0, .string ⟨#[]⟩, .string ⟨#[]⟩, .string ⟨#[]⟩, .string ⟨#[]⟩, .bool false]] X fun e w' => e = .returned (.tuple #[.string (str (numL k 0 n 0)), .int .i64 0]) ∧ Below X.heap.size X w') := fun k hk X hX => by
    have := encode_any (numEv k 0 n 0) (num_fits k n hn) X (HE.out X hX)
    rw [num_enc k (.inr hk) 0 n 0 (by decide) hn (by decide)] at this
    exact this
  have hnl : (numL 1 0 n 0).length ≤ 130 := numL_length 1 0 n 0
  obtain ⟨A, hA⟩ : ∃ A, numL 1 0 n 0 = A := ⟨_, rfl⟩
  obtain ⟨kd, hkd⟩ : ∃ k : Nat, (if good then 2 else 3 : Nat) = k := ⟨_, rfl⟩
  have hkd2 : kd = 2 ∨ kd = 3 := by rw [← hkd]; cases good <;> simp
  obtain ⟨Z, hZ⟩ : ∃ Z, numL kd 0 n 0 = Z := ⟨_, rfl⟩
  have hzl : Z.length ≤ 130 := hZ ▸ numL_length kd 0 n 0
  have HE2 : Hid (∀ X, Below w.heap.size w X → Calls Tryz.prog 8 #[.agg #[.int .i64 kd, .int .i64 0, .int .i64 0, .int .i64 0, .int .i64 0, .int .i64 0, .int .i64 0, .int .i64 n, .int .i64 0, .string ⟨#[]⟩, .string ⟨#[]⟩, .string ⟨#[]⟩, .string ⟨#[]⟩, .bool false]] X fun e w' => e = .returned (.tuple #[.string (str Z), .int .i64 0]) ∧ Below X.heap.size X w') := fun X hX => hZ ▸ HEnd.out kd hkd2 X hX
  have hres : blockL good n ls = A ++ [10] ++ bodiesL ls ++ Z ++ [10] := by unfold blockL; rw [hkd, hZ, hA]
  rw [hA] at H1 hnl
  rw [hres]
  obtain ⟨m, hm⟩ : ∃ m, ls.length = m := ⟨_, rfl⟩
  have HM : Hid (ls.length = m) := hm
  have hml : m ≤ 1048576 := by
    have := text_count ls
    omega
  rw [hm] at HC HLW hW ⊢
  have hten : (⟨#[10]⟩ : ByteArray) = str [10] := rfl
  clear e1 hE hL hA hZ hres hm HEnd
  have HW : Hid (w.alloc (.cells #[.int .i64 ev.kind, .int .i64 ev.session, .int .i64 ev.window, .int .i64 ev.pane, .int .i64 ev.index, .int .i64 ev.offset, .int .i64 ev.tick, .int .i64 ev.number, .int .i64 ev.flag, .string ev.name, .string ev.text, .string ev.layout, .string ev.visible, .bool ev.zoom, .bool block, .bool good, .slice ad m cap] 30) = W) := hW
  clear hW hten
  have hgk : (good = true ∧ kd = 2) ∨ (good = false ∧ kd = 3) := by rw [← hkd]; cases good <;> simp
  clear hkd hkd2
  go_enter Tryz.func7, Tryz.ntmps7
  rcases hgk with ⟨rfl, rfl⟩ | ⟨rfl, rfl⟩
  · go_wp2_with fail
    rw [HW.out]
    refine (H1.out _ HBW.out).mono ?_
    rintro e w1 ⟨rfl, hb1⟩
    have HB1 : Hid (Below W.heap.size W w1) := hb1
    have c16 : w1.cell? ⟨w.heap.size, 16, none⟩ = some (.slice ad m cap) := (hb1.cell (p := ⟨w.heap.size, 16, none⟩) HSz.out).trans HC.out
    have hsA : (str A).size = A.length := str_size A
    clear hb1
    go_wp2
    clear c16 hsA
    go_loopw [6, 8] (fun u v wr => ∃ (k : Nat) (X : List UInt8), k ≤ m ∧ u = .string (str X) ∧ v = .int .i64 k ∧ A ++ [10] ++ bodiesL (ls.take k) = X ∧ Below W.heap.size W wr) (fun _ v _ => m - (intOf v).toNat)
    case atStart => exact ⟨0, A ++ [10], Nat.zero_le _, by rw [show (⟨#[10]⟩ : ByteArray) = str [10] from rfl, cat_str], rfl, by simp [bodiesL], HB1.out⟩
    case round =>
      obtain ⟨k, X, hk, rfl, rfl, hX, hb⟩ := hrel
      have HX : Hid (A ++ [10] ++ bodiesL (ls.take k) = X) := hX
      have HB : Hid (Below W.heap.size W wr) := hb
      have HBw : Hid (Below w.heap.size w wr) := HBW.out.trans (hb.mono (Nat.le_of_lt HSz.out))
      have d16 : wr.cell? ⟨w.heap.size, 16, none⟩ = some (.slice ad m cap) := (hb.cell (p := ⟨w.heap.size, 16, none⟩) HSz.out).trans HC.out
      have hXl : X.length ≤ 5000000 := by
        have := HTk.out k
        rw [← hX]
        simp only [List.length_append, List.length_singleton]
        omega
      obtain ⟨x, hx⟩ : ∃ x, str X = x := ⟨_, rfl⟩
      have hxs : x.size ≤ 5000000 := by rw [← hx, str_size]; exact hXl
      have Hx : Hid (str X = x) := hx
      rw [hx]
      clear hX hb hx
      by_cases hlt : k < m
      · have hlz : (k : Int) < (m : Int) := by omega
        obtain ⟨t, ht⟩ : ∃ t, ls[k]? = some t := ⟨_, List.getElem?_eq_getElem (by rw [HM.out]; exact hlt)⟩
        obtain ⟨b, o, c, hv, hc⟩ := (HLW.out.below HB.out).cell ht
        rw [HM.out] at hv
        cases hv
        have htl := HT.out t (List.mem_of_getElem? ht)
        have HEn := HBo.out t (by omega) wr HBw.out
        have hEl := escB_length t.data.toList
        rw [size_data] at hEl
        obtain ⟨E, hE⟩ : ∃ E, escB t.data.toList = E := ⟨_, rfl⟩
        rw [hE] at HEn hEl
        obtain ⟨y, hy⟩ : ∃ y, str E = y := ⟨_, rfl⟩
        have hys : y.size ≤ 5000000 := by rw [← hy, str_size]; omega
        rw [hy] at HEn
        have HEc : Hid (Calls Tryz.prog 8 #[.agg #[.int .i64 4, .int .i64 0, .int .i64 0, .int .i64 0, .int .i64 0, .int .i64 0, .int .i64 0, .int .i64 0, .int .i64 0, .string ⟨#[]⟩, .string t, .string ⟨#[]⟩, .string ⟨#[]⟩, .bool false]] wr fun e w' => e = .returned (.tuple #[.string y, .int .i64 0]) ∧ Below wr.heap.size wr w') := HEn
        have HNx : Hid (A ++ [10] ++ bodiesL (ls.take (k + 1)) = X ++ (E ++ [10])) := by
          show _ = _
          rw [List.take_add_one, ht, ← HX.out]
          unfold bodiesL
          rw [List.flatMap_append]
          simp [hE]
        have HNs : Hid (x ++ y ++ ⟨#[10]⟩ = str (X ++ (E ++ [10]))) := by
          show _ = _
          rw [← Hx.out, ← hy, show (⟨#[10]⟩ : ByteArray) = str [10] from rfl, cat_str, cat_str, List.append_assoc]
        clear ht HEn hE hy hEl htl
        go_wp2_with fail
        refine HEc.out.mono ?_
        rintro e w2 ⟨rfl, hb2⟩
        have HB2 : Hid (Below W.heap.size W w2) := HB.out.trans (hb2.mono HB.out.size)
        clear hb2
        go_wp2
        go_roundw
        case rel => exact ⟨k + 1, X ++ (E ++ [10]), by omega, by rw [HNs.out], by go_num, HNx.out, HB2.out⟩
        case measure => simp [intOf]; omega
      · have hkm : k = m := by omega
        have HNs : Hid (x ++ str Z ++ ⟨#[10]⟩ = str (A ++ [10] ++ bodiesL ls ++ Z ++ [10])) := by
          show _ = _
          rw [← Hx.out, ← HX.out, List.take_of_length_le (by rw [HM.out]; omega), show (⟨#[10]⟩ : ByteArray) = str [10] from rfl, cat_str, cat_str]
        have HEc := HE2.out wr HBw.out
        obtain ⟨z, hz⟩ : ∃ z, str Z = z := ⟨_, rfl⟩
        have hzs : z.size ≤ 200 := by rw [← hz, str_size]; omega
        rw [hz] at HEc HNs
        have HEd : Hid (Calls Tryz.prog 8 #[.agg #[.int .i64 (2 : Nat), .int .i64 0, .int .i64 0, .int .i64 0, .int .i64 0, .int .i64 0, .int .i64 0, .int .i64 n, .int .i64 0, .string ⟨#[]⟩, .string ⟨#[]⟩, .string ⟨#[]⟩, .string ⟨#[]⟩, .bool false]] wr fun e w' => e = .returned (.tuple #[.string z, .int .i64 0]) ∧ Below wr.heap.size wr w') := HEc
        have hlz : ¬ (k : Int) < (m : Int) := by omega
        clear hz HEc hkm
        go_wp2_with fail
        refine HEd.out.mono ?_
        rintro e w2 ⟨rfl, hb2⟩
        have HB2w : Hid (Below w.heap.size w w2) := HBw.out.trans (hb2.mono HBw.out.size)
        clear hb2
        go_wp2
        go_ret
        exact ⟨by rw [← HNs.out]; rfl, HB2w.out⟩
  · go_wp2_with fail
    rw [HW.out]
    refine (H1.out _ HBW.out).mono ?_
    rintro e w1 ⟨rfl, hb1⟩
    have HB1 : Hid (Below W.heap.size W w1) := hb1
    have c16 : w1.cell? ⟨w.heap.size, 16, none⟩ = some (.slice ad m cap) := (hb1.cell (p := ⟨w.heap.size, 16, none⟩) HSz.out).trans HC.out
    have hsA : (str A).size = A.length := str_size A
    clear hb1
    go_wp2
    clear c16 hsA
    go_loopw [6, 8] (fun u v wr => ∃ (k : Nat) (X : List UInt8), k ≤ m ∧ u = .string (str X) ∧ v = .int .i64 k ∧ A ++ [10] ++ bodiesL (ls.take k) = X ∧ Below W.heap.size W wr) (fun _ v _ => m - (intOf v).toNat)
    case atStart => exact ⟨0, A ++ [10], Nat.zero_le _, by rw [show (⟨#[10]⟩ : ByteArray) = str [10] from rfl, cat_str], rfl, by simp [bodiesL], HB1.out⟩
    case round =>
      obtain ⟨k, X, hk, rfl, rfl, hX, hb⟩ := hrel
      have HX : Hid (A ++ [10] ++ bodiesL (ls.take k) = X) := hX
      have HB : Hid (Below W.heap.size W wr) := hb
      have HBw : Hid (Below w.heap.size w wr) := HBW.out.trans (hb.mono (Nat.le_of_lt HSz.out))
      have d16 : wr.cell? ⟨w.heap.size, 16, none⟩ = some (.slice ad m cap) := (hb.cell (p := ⟨w.heap.size, 16, none⟩) HSz.out).trans HC.out
      have hXl : X.length ≤ 5000000 := by
        have := HTk.out k
        rw [← hX]
        simp only [List.length_append, List.length_singleton]
        omega
      obtain ⟨x, hx⟩ : ∃ x, str X = x := ⟨_, rfl⟩
      have hxs : x.size ≤ 5000000 := by rw [← hx, str_size]; exact hXl
      have Hx : Hid (str X = x) := hx
      rw [hx]
      clear hX hb hx
      by_cases hlt : k < m
      · have hlz : (k : Int) < (m : Int) := by omega
        obtain ⟨t, ht⟩ : ∃ t, ls[k]? = some t := ⟨_, List.getElem?_eq_getElem (by rw [HM.out]; exact hlt)⟩
        obtain ⟨b, o, c, hv, hc⟩ := (HLW.out.below HB.out).cell ht
        rw [HM.out] at hv
        cases hv
        have htl := HT.out t (List.mem_of_getElem? ht)
        have HEn := HBo.out t (by omega) wr HBw.out
        have hEl := escB_length t.data.toList
        rw [size_data] at hEl
        obtain ⟨E, hE⟩ : ∃ E, escB t.data.toList = E := ⟨_, rfl⟩
        rw [hE] at HEn hEl
        obtain ⟨y, hy⟩ : ∃ y, str E = y := ⟨_, rfl⟩
        have hys : y.size ≤ 5000000 := by rw [← hy, str_size]; omega
        rw [hy] at HEn
        have HEc : Hid (Calls Tryz.prog 8 #[.agg #[.int .i64 4, .int .i64 0, .int .i64 0, .int .i64 0, .int .i64 0, .int .i64 0, .int .i64 0, .int .i64 0, .int .i64 0, .string ⟨#[]⟩, .string t, .string ⟨#[]⟩, .string ⟨#[]⟩, .bool false]] wr fun e w' => e = .returned (.tuple #[.string y, .int .i64 0]) ∧ Below wr.heap.size wr w') := HEn
        have HNx : Hid (A ++ [10] ++ bodiesL (ls.take (k + 1)) = X ++ (E ++ [10])) := by
          show _ = _
          rw [List.take_add_one, ht, ← HX.out]
          unfold bodiesL
          rw [List.flatMap_append]
          simp [hE]
        have HNs : Hid (x ++ y ++ ⟨#[10]⟩ = str (X ++ (E ++ [10]))) := by
          show _ = _
          rw [← Hx.out, ← hy, show (⟨#[10]⟩ : ByteArray) = str [10] from rfl, cat_str, cat_str, List.append_assoc]
        clear ht HEn hE hy hEl htl
        go_wp2_with fail
        refine HEc.out.mono ?_
        rintro e w2 ⟨rfl, hb2⟩
        have HB2 : Hid (Below W.heap.size W w2) := HB.out.trans (hb2.mono HB.out.size)
        clear hb2
        go_wp2
        go_roundw
        case rel => exact ⟨k + 1, X ++ (E ++ [10]), by omega, by rw [HNs.out], by go_num, HNx.out, HB2.out⟩
        case measure => simp [intOf]; omega
      · have hkm : k = m := by omega
        have HNs : Hid (x ++ str Z ++ ⟨#[10]⟩ = str (A ++ [10] ++ bodiesL ls ++ Z ++ [10])) := by
          show _ = _
          rw [← Hx.out, ← HX.out, List.take_of_length_le (by rw [HM.out]; omega), show (⟨#[10]⟩ : ByteArray) = str [10] from rfl, cat_str, cat_str]
        have HEc := HE2.out wr HBw.out
        obtain ⟨z, hz⟩ : ∃ z, str Z = z := ⟨_, rfl⟩
        have hzs : z.size ≤ 200 := by rw [← hz, str_size]; omega
        rw [hz] at HEc HNs
        have HEd : Hid (Calls Tryz.prog 8 #[.agg #[.int .i64 (3 : Nat), .int .i64 0, .int .i64 0, .int .i64 0, .int .i64 0, .int .i64 0, .int .i64 0, .int .i64 n, .int .i64 0, .string ⟨#[]⟩, .string ⟨#[]⟩, .string ⟨#[]⟩, .string ⟨#[]⟩, .bool false]] wr fun e w' => e = .returned (.tuple #[.string z, .int .i64 0]) ∧ Below wr.heap.size wr w') := HEc
        have hlz : ¬ (k : Int) < (m : Int) := by omega
        clear hz HEc hkm
        go_wp2_with fail
        refine HEd.out.mono ?_
        rintro e w2 ⟨rfl, hb2⟩
        have HB2w : Hid (Below w.heap.size w w2) := HBw.out.trans (hb2.mono HBw.out.size)
        clear hb2
        go_wp2
        go_ret
        exact ⟨by rw [← HNs.out]; rfl, HB2w.out⟩

end Go.Proofs.YtplolaondmeccaaGreatDoor
