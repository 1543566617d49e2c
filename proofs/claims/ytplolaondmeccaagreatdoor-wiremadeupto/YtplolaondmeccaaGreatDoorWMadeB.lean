/-
  The walk of WireMade.
-/
import Derived.Test.YtplolaondmeccaaGreatDoorWMadeA
import Derived.Test.YtplolaondmeccaaGreatDoorWWordB
import Derived.Test.YtplolaondmeccaaGreatDoorWPrefixW
import Derived.WalkKit
import Derived.LoopTactic
import Derived.RegionTactic
import Derived.Deep.RegionWith
import Derived.Deep.DrawnRows
import Derived.Deep.RegionHeld3
namespace Go.Proofs.YtplolaondmeccaaGreatDoor
open Go.RowKit
set_option linter.unusedVariables false

/-- A slice of parts that is handed in. -/
def PartArg (w : World) (v : Value) (l : List PartV) : Prop :=
  ((∃ ad c, v = .slice ad 0 c) ∧ l = []) ∨ ∃ b o c, v = .slice (some ⟨b, o, none⟩) l.length c ∧ ∀ (i : Nat) p, l[i]? = some p → (∀ j, j < 17 → w.cell? ⟨b, o + i * 17 + j, none⟩ = p.vals[j]?) ∧ LinesAt w p.lv p.lines
theorem PartArg.below {w w' : World} {v : Value} {l : List PartV} (h : PartArg w v l) (hb : Below w.heap.size w w') : PartArg w' v l :=
  h.imp id fun ⟨b, o, c, h1, h2⟩ => ⟨b, o, c, h1, fun i p hi => ⟨fun j hj => by
    obtain ⟨x, hx⟩ : ∃ x, p.vals[j]? = some x := ⟨_, Array.getElem?_eq_getElem (by simpa [PartV.vals] using hj)⟩
    have h3 := ((h2 i p hi).1 j hj).trans hx
    rw [hx]
    exact (hb.cell (p := ⟨b, o + i * 17 + j, none⟩) (World.block_lt_of_cell? w _ h3)).trans h3, (h2 i p hi).2.below hb⟩⟩
theorem PartArg.shape {w : World} {v : Value} {l : List PartV} (h : PartArg w v l) : ∃ ad cap, v = .slice ad l.length cap := by
  rcases h with ⟨⟨ad, c, rfl⟩, rfl⟩ | ⟨b, o, c, h1, _⟩
  · exact ⟨ad, c, rfl⟩
  · exact ⟨_, _, h1⟩
theorem PartArg.cell {w : World} {v : Value} {l : List PartV} (h : PartArg w v l) {i : Nat} {p : PartV} (hi : l[i]? = some p) : ∃ b o c, v = .slice (some ⟨b, o, none⟩) l.length c ∧ (∀ j, j < 17 → w.cell? ⟨b, o + i * 17 + j, none⟩ = p.vals[j]?) ∧ LinesAt w p.lv p.lines := by
  rcases h with ⟨_, rfl⟩ | ⟨b, o, c, h1, h2⟩
  · cases hi
  · exact ⟨b, o, c, h1, h2 i p hi⟩

/-- A part's text. -/
noncomputable def toldT (e : Ev) : List UInt8 := match encS e with
  | some l => if classK e.kind = 1 then l ++ [10] else []
  | none => []
noncomputable def partT (i : Nat) (p : PartV) : List UInt8 := if p.block then blockL p.good i p.lines else toldT p.ev
noncomputable def partsT : Nat → List PartV → List UInt8
  | _, [] => []
  | i, p :: r => partT i p ++ partsT (i + 1) r
theorem partsT_append : ∀ (i : Nat) (a b : List PartV), partsT i (a ++ b) = partsT i a ++ partsT (i + a.length) b
  | i, [], b => rfl
  | i, p :: a, b => by
    show partT i p ++ partsT (i + 1) (a ++ b) = (partT i p ++ partsT (i + 1) a) ++ partsT (i + (a.length + 1)) b
    rw [partsT_append (i + 1) a b, List.append_assoc, show i + 1 + a.length = i + (a.length + 1) by omega]
theorem partsT_next {l : List PartV} {k : Nat} {p : PartV} (h : l[k]? = some p) : partsT 0 (l.take (k + 1)) = partsT 0 (l.take k) ++ partT k p := by
  have hk := (List.getElem?_eq_some_iff.1 h).1
  rw [List.take_add_one, h]
  show partsT 0 (l.take k ++ [p]) = _
  rw [partsT_append, List.length_take, Nat.min_eq_left (by omega), Nat.zero_add]
  show _ ++ (partT k p ++ []) = _
  rw [List.append_nil]
theorem leads_toldT (e : Ev) : Leads (toldT e) := by
  unfold toldT
  cases h : encS e with
  | none => exact Leads.nil
  | some l =>
    dsimp only
    split
    · rename_i hc
      exact leads_told h hc
    · exact Leads.nil
theorem leads_parts : ∀ (i : Nat) (l : List PartV), i + l.length ≤ 4611686018427387904 → Leads (partsT i l)
  | i, [], _ => Leads.nil
  | i, p :: l, h => by
    have h' : i + (l.length + 1) ≤ 4611686018427387904 := h
    refine Leads.append ?_ (leads_parts (i + 1) l (by omega))
    unfold partT
    split
    · exact leads_block _ _ (by omega) _
    · exact leads_toldT _
/-- What a part is made of. -/
def PartV.bulk (p : PartV) : Nat := p.ev.bulk + 15 + textAll p.lines
def bulkAll (l : List PartV) : Nat := (l.map PartV.bulk).sum
theorem partT_length (i : Nat) (p : PartV) : (partT i p).length ≤ 28 * p.bulk := by
  unfold partT PartV.bulk
  split
  · have := block_length p.good i p.lines
    omega
  · unfold toldT
    cases h : encS p.ev with
    | none => exact Nat.zero_le _
    | some l =>
      dsimp only
      have := enc_small h
      split
      · rw [List.length_append, List.length_singleton]
        omega
      · exact Nat.zero_le _
theorem partsT_length : ∀ (i : Nat) (l : List PartV), (partsT i l).length ≤ 28 * bulkAll l
  | i, [] => Nat.zero_le _
  | i, p :: l => by
    have h1 := partT_length i p
    have h2 := partsT_length (i + 1) l
    show (partT i p ++ partsT (i + 1) l).length ≤ 28 * (p.bulk + bulkAll l)
    rw [List.length_append]
    omega
theorem bulk_mem : ∀ (l : List PartV) (p : PartV), p ∈ l → p.bulk ≤ bulkAll l
  | [], p, h => by cases h
  | a :: l, p, h => by
    show _ ≤ a.bulk + bulkAll l
    rcases List.mem_cons.1 h with rfl | h
    · omega
    · have := bulk_mem l p h
      omega
theorem bulk_take (l : List PartV) (k : Nat) : bulkAll (l.take k) ≤ bulkAll l := by
  have : bulkAll l = bulkAll (l.take k) + bulkAll (l.drop k) := by
    unfold bulkAll
    rw [← List.sum_append, ← List.map_append, List.take_append_drop]
  omega
theorem bulk_count : ∀ l : List PartV, l.length ≤ bulkAll l
  | [] => Nat.le_refl _
  | a :: l => by
    have := bulk_count l
    show l.length + 1 ≤ a.bulk + bulkAll l
    unfold PartV.bulk
    omega

/-- The two endings. -/
def lit1 : ByteArray := ⟨#[37, 98, 101, 103, 105, 110, 32, 49, 32, 49, 32, 49, 10, 37, 112, 97, 110, 101, 45, 99, 108, 111, 115, 101, 32, 37, 49, 10]⟩
def lit2 : ByteArray := ⟨#[37, 98, 101, 103, 105, 110, 32, 49, 32, 49, 32, 49, 10, 120, 10]⟩
theorem lit1_data : lit1.data.toList = beg111 ++ 10 :: (closeL ++ [10]) := rfl
theorem lit2_data : lit2.data.toList = beg111 ++ 10 :: ([120] ++ [10]) := rfl
theorem lit1_word {X : List UInt8} (h : Leads X) : ∃ z, wordS 0 (X ++ lit1.data.toList) = (false, z) := by rw [lit1_data]; exact ⟨_, Prod.ext (leads_bad h) rfl⟩
theorem lit2_word {X : List UInt8} (h : Leads X) : ∃ z, wordS 0 (X ++ lit2.data.toList) = (true, z) := by rw [lit2_data]; exact ⟨_, Prod.ext (leads_open h) rfl⟩

set_option maxRecDepth 20000 in
set_option maxHeartbeats 1000000 in
theorem wireMade_walk (ps : List PartV) (hfit : ∀ p ∈ ps, p.ev.Fits) (hbulk : bulkAll ps ≤ 1048576) (v : Value) (a1 : Int) (w : World) (hE : Env w) (hS : Spaces w) (harg : PartArg w v ps) :
    Calls Tryz.prog 4 #[v, .int .i64 a1] w fun e w' => e = .returned (.bool true) ∧ Below w.heap.size w w' := by
  obtain ⟨ad, cap, hv⟩ := harg.shape
  subst hv
  have HE : Hid (∀ W, Below w.heap.size w W → Env W) := fun W h => hE.below h
  have HSp : Hid (∀ W, Below w.heap.size w W → Spaces W) := fun W h => hS.below h
  have HA : Hid (PartArg w (.slice ad ps.length cap) ps) := harg
  have HFt : Hid (∀ p ∈ ps, p.ev.Fits) := hfit
  have HBk : Hid (∀ p ∈ ps, p.bulk ≤ 1048576) := fun p hp => Nat.le_trans (bulk_mem ps p hp) hbulk
  have HTl : Hid (∀ k, (partsT 0 (ps.take k)).length ≤ 29360128) := fun k => by
    have h1 := partsT_length 0 (ps.take k)
    have h2 := bulk_take ps k
    omega
  have hml : ps.length ≤ 1048576 := Nat.le_trans (bulk_count ps) hbulk
  have HLd : Hid (Leads (partsT 0 ps)) := leads_parts 0 ps (by omega)
  obtain ⟨m, hm⟩ : ∃ m, ps.length = m := ⟨_, rfl⟩
  have HM : Hid (ps.length = m) := hm
  rw [hm] at hml HA ⊢
  clear hm harg hE hS hfit hbulk
  go_enter Tryz.func4, Tryz.ntmps4
  go_wp2
  go_loopw [5, 6] (fun u v wr => ∃ (k : Nat) (X : List UInt8), k ≤ m ∧ u = .string (str X) ∧ v = .int .i64 k ∧ partsT 0 (ps.take k) = X ∧ Below w.heap.size w wr) (fun _ v _ => m - (intOf v).toNat)
  case atStart => exact ⟨0, [], Nat.zero_le _, rfl, rfl, rfl, Below.refl _ _⟩
  case round =>
    obtain ⟨k, X, hk, rfl, rfl, hX, hb⟩ := hrel
    have HX : Hid (partsT 0 (ps.take k) = X) := hX
    have HB : Hid (Below w.heap.size w wr) := hb
    have hXl : X.length ≤ 29360128 := hX ▸ HTl.out k
    clear hX hb
    by_cases hlt : k < m
    · have hlz : (k : Int) < (m : Int) := by omega
      obtain ⟨p, hp⟩ : ∃ p, ps[k]? = some p := ⟨_, List.getElem?_eq_getElem (by rw [HM.out]; exact hlt)⟩
      obtain ⟨b, o, c, hv, hcs, hla⟩ := (HA.out.below HB.out).cell hp
      rw [HM.out] at hv
      cases hv
      have hpm := List.mem_of_getElem? hp
      have hpf := HFt.out p hpm
      have hpb := HBk.out p hpm
      have HNx : Hid (partsT 0 (ps.take (k + 1)) = X ++ partT k p) := by show _ = _; rw [partsT_next hp, HX.out]
      have hnl : (X ++ partT k p).length ≤ 29360128 := HNx.out ▸ HTl.out (k + 1)
      obtain ⟨ev, block, good, lv, ls⟩ := p
      have q0 := hcs 0 (by decide)
      have q1 := hcs 1 (by decide)
      have q2 := hcs 2 (by decide)
      have q3 := hcs 3 (by decide)
      have q4 := hcs 4 (by decide)
      have q5 := hcs 5 (by decide)
      have q6 := hcs 6 (by decide)
      have q7 := hcs 7 (by decide)
      have q8 := hcs 8 (by decide)
      have q9 := hcs 9 (by decide)
      have q10 := hcs 10 (by decide)
      have q11 := hcs 11 (by decide)
      have q12 := hcs 12 (by decide)
      have q13 := hcs 13 (by decide)
      have q14 := hcs 14 (by decide)
      have q15 := hcs 15 (by decide)
      have q16 := hcs 16 (by decide)
      simp only [PartV.vals, Nat.add_zero, List.getElem?_toArray, List.getElem?_cons_zero, List.getElem?_cons_succ] at q0 q1 q2 q3 q4 q5 q6 q7 q8 q9 q10 q11 q12 q13 q14 q15 q16
      obtain ⟨x, hx⟩ : ∃ x, str X = x := ⟨_, rfl⟩
      have hxs : x.size ≤ 29360128 := by rw [← hx, str_size]; exact hXl
      have Hx : Hid (str X = x) := hx
      rw [hx]
      cases block
      · have HEn := encode_any ev hpf wr (HE.out wr HB.out)
        have hpt : partT k ⟨ev, false, good, lv, ls⟩ = toldT ev := rfl
        rw [hpt] at HNx hnl
        unfold toldT at HNx hnl
        cases hen : encS ev with
        | none =>
          rw [hen] at HEn HNx
          have HEc : Hid (Calls Tryz.prog 8 #[.agg #[.int .i64 ev.kind, .int .i64 ev.session, .int .i64 ev.window, .int .i64 ev.pane, .int .i64 ev.index, .int .i64 ev.offset, .int .i64 ev.tick, .int .i64 ev.number, .int .i64 ev.flag, .string ev.name, .string ev.text, .string ev.layout, .string ev.visible, .bool ev.zoom]] wr fun e w' => e = .returned (.tuple #[.string ⟨#[]⟩, .int .i64 30]) ∧ Below wr.heap.size wr w') := HEn
          have HN2 : Hid (partsT 0 (ps.take (k + 1)) = X) := by show _ = _; rw [HNx.out, List.append_nil]
          clear HEn HNx hnl hpt hen hla hpm hpf hpb hcs hp hx hXl
          go_wp2_with fail
          refine HEc.out.mono ?_
          rintro e w2 ⟨rfl, hb2⟩
          have HB2 : Hid (Below w.heap.size w w2) := HB.out.trans (hb2.mono HB.out.size)
          clear hb2
          go_wp2
          go_roundw
          case rel => exact ⟨k + 1, X, by omega, by rw [Hx.out], by go_num, HN2.out, HB2.out⟩
          case measure => simp [intOf]; omega
        | some l =>
          have hll : l.length + 1 ≤ 28 * (ev.bulk + 15) := enc_small hen
          have hevb : ev.bulk + 15 ≤ 1048576 := by have h : ev.bulk + 15 + textAll ls ≤ 1048576 := hpb; omega
          have HCl : Hid (∀ W, Below w.heap.size w W → Calls Tryz.prog 9 #[.string (str l)] W fun e w' => e = .returned (.int .i64 (classK ev.kind)) ∧ Below W.heap.size W w') := fun W hW => by
            have := class_any (str l) (by rw [str_size]; unfold lim; omega) W (HE.out W hW)
            rw [str_data, dec_enc hen] at this
            exact this
          rw [hen] at HEn HNx hnl
          dsimp only at HNx hnl
          obtain ⟨y, hy⟩ : ∃ y, str l = y := ⟨_, rfl⟩
          have hys : y.size ≤ 29360128 := by rw [← hy, str_size]; omega
          have HEc0 : Calls Tryz.prog 8 #[.agg #[.int .i64 ev.kind, .int .i64 ev.session, .int .i64 ev.window, .int .i64 ev.pane, .int .i64 ev.index, .int .i64 ev.offset, .int .i64 ev.tick, .int .i64 ev.number, .int .i64 ev.flag, .string ev.name, .string ev.text, .string ev.layout, .string ev.visible, .bool ev.zoom]] wr fun e w' => e = .returned (.tuple #[.string (str l), .int .i64 0]) ∧ Below wr.heap.size wr w' := HEn
          rw [hy] at HEc0 HCl
          have HEc : Hid (Calls Tryz.prog 8 #[.agg #[.int .i64 ev.kind, .int .i64 ev.session, .int .i64 ev.window, .int .i64 ev.pane, .int .i64 ev.index, .int .i64 ev.offset, .int .i64 ev.tick, .int .i64 ev.number, .int .i64 ev.flag, .string ev.name, .string ev.text, .string ev.layout, .string ev.visible, .bool ev.zoom]] wr fun e w' => e = .returned (.tuple #[.string y, .int .i64 0]) ∧ Below wr.heap.size wr w') := HEc0
          obtain ⟨cl, hcl⟩ : ∃ x, classK ev.kind = x := ⟨_, rfl⟩
          rw [hcl] at HCl HNx
          have HNs : Hid (x ++ y ++ ⟨#[10]⟩ = str (X ++ (l ++ [10]))) := by
            show _ = _
            rw [← Hx.out, ← hy, show (⟨#[10]⟩ : ByteArray) = str [10] from rfl, cat_str, cat_str, List.append_assoc]
          clear HEn HEc0 hnl hpt hen hla hpm hpf hpb hcs hp hx hXl hy hcl hll hevb
          by_cases hc1 : cl = 1
          · subst hc1
            rw [if_pos rfl] at HNx
            go_wp2_with fail
            refine HEc.out.mono ?_
            rintro e w2 ⟨rfl, hb2⟩
            have HB2 : Hid (Below w.heap.size w w2) := HB.out.trans (hb2.mono HB.out.size)
            clear hb2
            go_wp2_with fail
            refine (HCl.out _ HB2.out).mono ?_
            rintro e w3 ⟨rfl, hb3⟩
            have HB3 : Hid (Below w.heap.size w w3) := HB2.out.trans (hb3.mono HB2.out.size)
            clear hb3
            go_wp2
            go_roundw
            case rel => exact ⟨k + 1, X ++ (l ++ [10]), by omega, by rw [HNs.out], by go_num, HNx.out, HB3.out⟩
            case measure => simp [intOf]; omega
          · rw [if_neg hc1, List.append_nil] at HNx
            have hc2 : (cl == 1) = false := by simpa using hc1
            go_wp2_with fail
            refine HEc.out.mono ?_
            rintro e w2 ⟨rfl, hb2⟩
            have HB2 : Hid (Below w.heap.size w w2) := HB.out.trans (hb2.mono HB.out.size)
            clear hb2
            go_wp2_with fail
            refine (HCl.out _ HB2.out).mono ?_
            rintro e w3 ⟨rfl, hb3⟩
            have HB3 : Hid (Below w.heap.size w w3) := HB2.out.trans (hb3.mono HB2.out.size)
            clear hb3
            go_wp2
            go_roundw
            case rel => exact ⟨k + 1, X, by omega, by rw [Hx.out], by go_num, HNx.out, HB3.out⟩
            case measure => simp [intOf]; omega
      · have hpt : partT k ⟨ev, true, good, lv, ls⟩ = blockL good k ls := rfl
        rw [hpt] at HNx hnl
        have HMd0 := fun W (hW : Below w.heap.size w W) (hL : LinesAt W lv ls) => made_any ⟨ev, true, good, lv, ls⟩ k (by omega) (by have h : ev.bulk + 15 + textAll ls ≤ 1048576 := hpb; show textAll ls ≤ _; omega) W (HE.out W hW) hL
        obtain ⟨Bl, hBl⟩ : ∃ B, blockL good k ls = B := ⟨_, rfl⟩
        rw [hBl] at HNx hnl
        obtain ⟨y, hy⟩ : ∃ y, str Bl = y := ⟨_, rfl⟩
        have hys : y.size ≤ 29360128 := by rw [← hy, str_size]; rw [List.length_append] at hnl; omega
        have HMd : Hid (∀ W, Below w.heap.size w W → LinesAt W lv ls → Calls Tryz.prog 7 #[.agg #[.int .i64 ev.kind, .int .i64 ev.session, .int .i64 ev.window, .int .i64 ev.pane, .int .i64 ev.index, .int .i64 ev.offset, .int .i64 ev.tick, .int .i64 ev.number, .int .i64 ev.flag, .string ev.name, .string ev.text, .string ev.layout, .string ev.visible, .bool ev.zoom, .bool true, .bool good, lv], .int .i64 (k : Nat)] W fun e w' => e = .returned (.string y) ∧ Below W.heap.size W w') := fun W hW hL => by
          have := HMd0 W hW hL
          rw [show blockL (PartV.mk ev true good lv ls).good k (PartV.mk ev true good lv ls).lines = Bl from hBl, hy] at this
          exact this
        have HNs : Hid (x ++ y = str (X ++ Bl)) := by show _ = _; rw [← Hx.out, ← hy, cat_str]
        have HLa : Hid (LinesAt wr lv ls) := hla
        clear hpt HMd0 hBl hnl hla hpm hpf hpb hcs hp hx hXl hy
        go_wp2_with fail
        refine (HMd.out _ HB.out HLa.out).mono ?_
        rintro e w2 ⟨rfl, hb2⟩
        have HB2 : Hid (Below w.heap.size w w2) := HB.out.trans (hb2.mono HB.out.size)
        clear hb2
        go_wp2
        go_roundw
        case rel => exact ⟨k + 1, X ++ Bl, by omega, by rw [HNs.out], by go_num, HNx.out, HB2.out⟩
        case measure => simp [intOf]; omega
    · have hfull : ps.take k = ps := List.take_of_length_le (by rw [HM.out]; omega)
      have hlz : ¬ (k : Int) < (m : Int) := by omega
      rw [hfull] at HX
      have hld : Leads X := HX.out ▸ HLd.out
      obtain ⟨x, hx⟩ : ∃ x, str X = x := ⟨_, rfl⟩
      have hxd : x.data.toList = X := by rw [← hx, str_data]
      have hxz : x.size = X.length := by rw [← hx, str_size]
      have hxs : x.size ≤ 29360128 := by omega
      have HWd : Hid (∀ (y : ByteArray) (r : Bool × Bool), y.size ≤ 29361000 → wordS 0 y.data.toList = r → ∀ W, Below w.heap.size w W → Calls Tryz.prog 6 #[.string y] W fun e w' => e = .returned (.tuple #[.bool r.1, .bool r.2]) ∧ Below W.heap.size W w') := fun y r hy hr W hW => by
        have := word_big y (by omega) W (HE.out W hW) (HSp.out W hW)
        rw [hr] at this
        exact this
      have HW1 : Hid (∀ W, Below w.heap.size w W → Calls Tryz.prog 6 #[.string x] W fun e w' => e = .returned (.tuple #[.bool true, .bool true]) ∧ Below W.heap.size W w') := fun W hW => HWd.out x (true, true) (by omega) (by rw [hxd]; exact leads_word hld) W hW
      have HW2 : Hid (∀ j, j ≤ x.size → ∃ z, ∀ W, Below w.heap.size w W → Calls Tryz.prog 6 #[.string (x.extract 0 j)] W fun e w' => e = .returned (.tuple #[.bool true, .bool z]) ∧ Below W.heap.size W w') := fun j hj =>
        ⟨(wordS 0 (X.take j)).2, fun W hW => HWd.out (x.extract 0 j) (true, (wordS 0 (X.take j)).2) (by rw [ByteArray.size_extract]; omega) (by rw [extract_take, hxd]; exact Prod.ext (leads_pre hld j) rfl) W hW⟩
      have HW3 : Hid (X ≠ [] → ∀ W, Below w.heap.size w W → Calls Tryz.prog 6 #[.string (x.extract 0 (x.size - 1))] W fun e w' => e = .returned (.tuple #[.bool true, .bool false]) ∧ Below W.heap.size W w') := fun hne W hW =>
        HWd.out (x.extract 0 (x.size - 1)) (true, false) (by rw [ByteArray.size_extract]; omega) (by rw [extract_take, hxd, hxz]; exact Prod.ext (leads_pre hld _) (leads_less hld hne)) W hW
      obtain ⟨z4, h4⟩ := lit1_word hld
      obtain ⟨z5, h5⟩ := lit2_word hld
      have HW4' : Hid (∀ W, Below w.heap.size w W → Calls Tryz.prog 6 #[.string (x ++ lit1)] W fun e w' => e = .returned (.tuple #[.bool false, .bool z4]) ∧ Below W.heap.size W w') := fun W hW =>
        HWd.out (x ++ lit1) (false, z4) (by rw [ByteArray.size_append]; have : lit1.size = 28 := rfl; omega) (by rw [cat_data, hxd]; exact h4) W hW
      have HW5' : Hid (∀ W, Below w.heap.size w W → Calls Tryz.prog 6 #[.string (x ++ lit2)] W fun e w' => e = .returned (.tuple #[.bool true, .bool z5]) ∧ Below W.heap.size W w') := fun W hW =>
        HWd.out (x ++ lit2) (true, z5) (by rw [ByteArray.size_append]; have : lit2.size = 15 := rfl; omega) (by rw [cat_data, hxd]; exact h5) W hW
      have HW4 : Hid (∀ W, Below w.heap.size w W → Calls Tryz.prog 6 #[.string (x ++ ⟨#[37, 98, 101, 103, 105, 110, 32, 49, 32, 49, 32, 49, 10, 37, 112, 97, 110, 101, 45, 99, 108, 111, 115, 101, 32, 37, 49, 10]⟩)] W fun e w' => e = .returned (.tuple #[.bool false, .bool z4]) ∧ Below W.heap.size W w') := HW4'
      have HW5 : Hid (∀ W, Below w.heap.size w W → Calls Tryz.prog 6 #[.string (x ++ ⟨#[37, 98, 101, 103, 105, 110, 32, 49, 32, 49, 32, 49, 10, 120, 10]⟩)] W fun e w' => e = .returned (.tuple #[.bool true, .bool z5]) ∧ Below W.heap.size W w') := HW5'
      clear HW4' HW5'
      rw [hx]
      have HB0 : Hid (Below w.heap.size w wr) := HB.out
      by_cases hX0 : X = []
      · have hx0 : x = ⟨#[]⟩ := by rw [← hx, hX0]; rfl
        subst hx0
        clear hx hxd hxz HW2 HW3 HWd h4 h5 hld hX0 hfull hXl
        by_cases ha0 : 0 ≤ a1
        · have hal : ¬ a1 < 0 := by omega
          go_wp2_with fail
          refine (HW1.out _ HB0.out).mono ?_
          rintro e w1 ⟨rfl, hb1⟩
          have HB1 : Hid (Below w.heap.size w w1) := HB0.out.trans (hb1.mono HB0.out.size)
          clear hb1
          go_wp2_with fail
          refine (HW4.out _ HB1.out).mono ?_
          rintro e w2 ⟨rfl, hb2⟩
          have HB2 : Hid (Below w.heap.size w w2) := HB1.out.trans (hb2.mono HB1.out.size)
          clear hb2
          go_wp2_with fail
          refine (HW5.out _ HB2.out).mono ?_
          rintro e w3 ⟨rfl, hb3⟩
          have HB3 : Hid (Below w.heap.size w w3) := HB2.out.trans (hb3.mono HB2.out.size)
          clear hb3
          go_wp2
          go_ret
          exact ⟨rfl, HB3.out⟩
        · have hal : a1 < 0 := by omega
          go_wp2_with fail
          refine (HW1.out _ HB0.out).mono ?_
          rintro e w1 ⟨rfl, hb1⟩
          have HB1 : Hid (Below w.heap.size w w1) := HB0.out.trans (hb1.mono HB0.out.size)
          clear hb1
          go_wp2_with fail
          refine (HW4.out _ HB1.out).mono ?_
          rintro e w2 ⟨rfl, hb2⟩
          have HB2 : Hid (Below w.heap.size w w2) := HB1.out.trans (hb2.mono HB1.out.size)
          clear hb2
          go_wp2_with fail
          refine (HW5.out _ HB2.out).mono ?_
          rintro e w3 ⟨rfl, hb3⟩
          have HB3 : Hid (Below w.heap.size w w3) := HB2.out.trans (hb3.mono HB2.out.size)
          clear hb3
          go_wp2
          go_ret
          exact ⟨rfl, HB3.out⟩
      · have hne := HW3.out hX0
        have hsz : ¬ x.size = 0 := by
          rw [hxz]
          intro h
          exact hX0 (List.length_eq_zero_iff.1 h)
        obtain ⟨hn1, hn2⟩ := toList_neN hsz
        have HWn : Hid (∀ W, Below w.heap.size w W → Calls Tryz.prog 6 #[.string (x.extract 0 (x.size - 1))] W fun e w' => e = .returned (.tuple #[.bool true, .bool false]) ∧ Below W.heap.size W w') := hne
        have hz1 : ((x.size : Int) - 1).toNat = x.size - 1 := by omega
        have hz2 : 0 ≤ (x.size : Int) - 1 := by omega
        have hz3 : (x.size : Int) - 1 ≤ (x.size : Int) := by omega
        clear hne hx hxd hxz HWd h4 h5 hld hX0 hfull hXl HW3
        by_cases hin : 0 ≤ a1 ∧ a1 < (x.size : Int)
        · obtain ⟨j, rfl⟩ := Int.eq_ofNat_of_zero_le hin.1
          obtain ⟨z2, hW2⟩ := HW2.out j (by omega)
          have HWj : Hid (∀ W, Below w.heap.size w W → Calls Tryz.prog 6 #[.string (x.extract 0 j)] W fun e w' => e = .returned (.tuple #[.bool true, .bool z2]) ∧ Below W.heap.size W w') := hW2
          have hj1 : (j : Int) < (x.size : Int) := hin.2
          have hj2 : (j : Int) ≤ (x.size : Int) := by omega
          clear hin hW2 HW2
          go_wp2_with fail
          refine (HW1.out _ HB0.out).mono ?_
          rintro e w1 ⟨rfl, hb1⟩
          have HB1 : Hid (Below w.heap.size w w1) := HB0.out.trans (hb1.mono HB0.out.size)
          clear hb1
          go_wp2_with fail
          refine (HWj.out _ HB1.out).mono ?_
          rintro e w2 ⟨rfl, hb2⟩
          have HB2 : Hid (Below w.heap.size w w2) := HB1.out.trans (hb2.mono HB1.out.size)
          clear hb2
          go_wp2_with fail
          refine (HWn.out _ HB2.out).mono ?_
          rintro e w3 ⟨rfl, hb3⟩
          have HB3 : Hid (Below w.heap.size w w3) := HB2.out.trans (hb3.mono HB2.out.size)
          clear hb3
          go_wp2_with fail
          refine (HW4.out _ HB3.out).mono ?_
          rintro e w4 ⟨rfl, hb4⟩
          have HB4 : Hid (Below w.heap.size w w4) := HB3.out.trans (hb4.mono HB3.out.size)
          clear hb4
          go_wp2_with fail
          refine (HW5.out _ HB4.out).mono ?_
          rintro e w5 ⟨rfl, hb5⟩
          have HB5 : Hid (Below w.heap.size w w5) := HB4.out.trans (hb5.mono HB4.out.size)
          clear hb5
          go_wp2
          go_ret
          exact ⟨rfl, HB5.out⟩
        · clear HW2
          by_cases ha0 : 0 ≤ a1
          · have hal : ¬ a1 < 0 := by omega
            have hag : ¬ a1 < (x.size : Int) := fun h => hin ⟨ha0, h⟩
            have hag2 : (x.size : Int) ≤ a1 := by omega
            clear hin
            go_wp2_with fail
            refine (HW1.out _ HB0.out).mono ?_
            rintro e w1 ⟨rfl, hb1⟩
            have HB1 : Hid (Below w.heap.size w w1) := HB0.out.trans (hb1.mono HB0.out.size)
            clear hb1
            go_wp2_with fail
            refine (HWn.out _ HB1.out).mono ?_
            rintro e w2 ⟨rfl, hb2⟩
            have HB2 : Hid (Below w.heap.size w w2) := HB1.out.trans (hb2.mono HB1.out.size)
            clear hb2
            go_wp2_with fail
            refine (HW4.out _ HB2.out).mono ?_
            rintro e w3 ⟨rfl, hb3⟩
            have HB3 : Hid (Below w.heap.size w w3) := HB2.out.trans (hb3.mono HB2.out.size)
            clear hb3
            go_wp2_with fail
            refine (HW5.out _ HB3.out).mono ?_
            rintro e w4 ⟨rfl, hb4⟩
            have HB4 : Hid (Below w.heap.size w w4) := HB3.out.trans (hb4.mono HB3.out.size)
            clear hb4
            go_wp2
            go_ret
            exact ⟨rfl, HB4.out⟩
          · have hal : a1 < 0 := by omega
            clear hin
            go_wp2_with fail
            refine (HW1.out _ HB0.out).mono ?_
            rintro e w1 ⟨rfl, hb1⟩
            have HB1 : Hid (Below w.heap.size w w1) := HB0.out.trans (hb1.mono HB0.out.size)
            clear hb1
            go_wp2_with fail
            refine (HWn.out _ HB1.out).mono ?_
            rintro e w2 ⟨rfl, hb2⟩
            have HB2 : Hid (Below w.heap.size w w2) := HB1.out.trans (hb2.mono HB1.out.size)
            clear hb2
            go_wp2_with fail
            refine (HW4.out _ HB2.out).mono ?_
            rintro e w3 ⟨rfl, hb3⟩
            have HB3 : Hid (Below w.heap.size w w3) := HB2.out.trans (hb3.mono HB2.out.size)
            clear hb3
            go_wp2_with fail
            refine (HW5.out _ HB3.out).mono ?_
            rintro e w4 ⟨rfl, hb4⟩
            have HB4 : Hid (Below w.heap.size w w4) := HB3.out.trans (hb4.mono HB3.out.size)
            clear hb4
            go_wp2
            go_ret
            exact ⟨rfl, HB4.out⟩

end Go.Proofs.YtplolaondmeccaaGreatDoor
