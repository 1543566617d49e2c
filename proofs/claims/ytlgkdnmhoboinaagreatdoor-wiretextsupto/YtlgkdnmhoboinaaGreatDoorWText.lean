/-
  wire.Text.
-/
import Derived.Test.YtlgkdnmhoboinaaGreatDoorWSame
import Derived.Test.YtlgkdnmhoboinaaGreatDoorWBackW
import Derived.WalkKit
import Derived.LoopTactic
import Derived.OwnWalk
namespace Go.Proofs.YtlgkdnmhoboinaaGreatDoor
open Go.RowKit
set_option linter.unusedVariables false

theorem writeString_k (B b : Nat) (bs : List Value) (s : ByteArray) (w : World) (h : Lib.IsBuilderF 44 5 B b bs w) (hlen : bs.length + s.size ≤ 140737488355328) (hBw : B ≤ w.heap.size) :
    Calls Tryz.prog 21 #[.pointer (some ⟨b, 0, none⟩), .string s] w fun e w' => e = .returned (.tuple #[.int .i64 s.size, .nilIface]) ∧ (Lib.BuilderAtF 44 5 B b (.pointer (some ⟨b, 0, none⟩)) (bs ++ Lib.strCells s) w' ∧ Below B w w' ∧ Lib.OthersKept 5 (some b) w w') :=
  Any.Builder_WriteString_k (ρ := Tryz.lays156_ren) { Tryz.lays156 with } Tryz.Builder_Extra_156 B b bs s w h hlen hBw

/-- The text of a list: its events' lines, each with a line feed; none where one of them has none. -/
noncomputable def textS : List Ev → Option (List UInt8)
  | [] => some []
  | e :: es => match encS e with
    | none => none
    | some l => (textS es).map (l ++ 10 :: ·)

/-- The events of a list lie one behind the other, from a cell on. -/
def EvRow (w : World) (b o : Nat) (l : List Ev) : Prop := ∀ j u, (evCells l)[j]? = some u → w.cell? ⟨b, o + j, none⟩ = some u
theorem EvRow.below {w w' : World} {b o : Nat} {l : List Ev} (h : EvRow w b o l) (hb : b < w.heap.size) (hB : Below w.heap.size w w') : EvRow w' b o l := fun j u hu => by
  rw [hB.cell (p := ⟨b, o + j, none⟩) hb]; exact h j u hu
theorem EvRow.of_owns {w : World} {B g n cap : Nat} {l : List Ev} (hn : n = l.length) (h : EvOwns w B (.slice (some ⟨g, 0, none⟩) n cap) l) : EvRow w g 0 l := by
  subst hn
  intro j u hu
  have := World.ownsRow.cells h rfl j u hu
  rw [Nat.zero_add]
  rw [show (⟨g, 0, none⟩ : Addr).add j = ⟨g, j, none⟩ by unfold Addr.add; split <;> simp_all] at this
  exact this

/-- The cells of one of them. -/
theorem EvRow.at {w : World} {b o : Nat} {l : List Ev} (h : EvRow w b o l) {i : Nat} {ev : Ev} (hi : l[i]? = some ev) : w.cell? ⟨b, o + i * 14, none⟩ = some (.int .i64 ev.kind) ∧ w.cell? ⟨b, o + i * 14 + 1, none⟩ = some (.int .i64 ev.session) ∧ w.cell? ⟨b, o + i * 14 + 2, none⟩ = some (.int .i64 ev.window) ∧ w.cell? ⟨b, o + i * 14 + 3, none⟩ = some (.int .i64 ev.pane) ∧ w.cell? ⟨b, o + i * 14 + 4, none⟩ = some (.int .i64 ev.index) ∧ w.cell? ⟨b, o + i * 14 + 5, none⟩ = some (.int .i64 ev.offset) ∧ w.cell? ⟨b, o + i * 14 + 6, none⟩ = some (.int .i64 ev.tick) ∧ w.cell? ⟨b, o + i * 14 + 7, none⟩ = some (.int .i64 ev.number) ∧ w.cell? ⟨b, o + i * 14 + 8, none⟩ = some (.int .i64 ev.flag) ∧ w.cell? ⟨b, o + i * 14 + 9, none⟩ = some (.string ev.name) ∧ w.cell? ⟨b, o + i * 14 + 10, none⟩ = some (.string ev.text) ∧ w.cell? ⟨b, o + i * 14 + 11, none⟩ = some (.string ev.layout) ∧ w.cell? ⟨b, o + i * 14 + 12, none⟩ = some (.string ev.visible) ∧ w.cell? ⟨b, o + i * 14 + 13, none⟩ = some (.bool ev.zoom) := by
  have key : ∀ j u, j < 14 → ev.vals[j]? = some u → w.cell? ⟨b, o + i * 14 + j, none⟩ = some u := fun j u hj hu => by
    have := h (i * 14 + j) u ((evCells_at l i j ev hi hj).trans hu)
    rwa [← Nat.add_assoc] at this
  exact ⟨key 0 _ (by decide) rfl, key 1 _ (by decide) rfl, key 2 _ (by decide) rfl, key 3 _ (by decide) rfl, key 4 _ (by decide) rfl, key 5 _ (by decide) rfl, key 6 _ (by decide) rfl, key 7 _ (by decide) rfl, key 8 _ (by decide) rfl, key 9 _ (by decide) rfl, key 10 _ (by decide) rfl, key 11 _ (by decide) rfl, key 12 _ (by decide) rfl, key 13 _ (by decide) rfl⟩

theorem builder_below {T e : TypeId} {B b : Nat} {bs : List Value} {w w' : World} (h : Lib.IsBuilderF T e B b bs w) (hb : Below w.heap.size w w') : Lib.IsBuilderF T e B b bs w' := by
  have key : ∀ p, Lib.BuilderAtF T e B b p bs w → Lib.BuilderAtF T e B b p bs w' := fun p h => by
    have hlt := h.lt
    obtain ⟨hB, v, hbk, hown, hne⟩ := h
    exact ⟨hB, v, (hb.block b hlt).trans hbk, hown.kept (row := none) ⟨hb.os, hb.tape, hb.output, hb.size, fun k hk _ => hb.block k hk⟩ (by cases v.ownBlock <;> simp), hne⟩
  exact h.imp (key _) (key _)

/-- What Text answers. -/
def textOut : Option (List UInt8) → Value
  | none => .tuple #[.string ⟨#[]⟩, .int .i64 30]
  | some t => .tuple #[.string (str t), .int .i64 0]

theorem bytes_line (done line : List UInt8) : (Lib.byteCells done ++ Lib.strCells (str line)) ++ Lib.strCells ⟨#[10]⟩ = Lib.byteCells (done ++ (line ++ [10])) := by
  rw [show Lib.strCells (str line) = Lib.byteCells line from rfl, show Lib.strCells ⟨#[10]⟩ = Lib.byteCells [10] from rfl]
  simp [Lib.byteCells]

theorem textS_step {l : List Ev} {i : Nat} {ev : Ev} {done line : List UInt8} (hi : l[i]? = some ev) (he : encS ev = some line) (h : textS l = (textS (l.drop i)).map (done ++ ·)) : textS l = (textS (l.drop (i + 1))).map ((done ++ (line ++ [10])) ++ ·) := by
  rw [h, List.drop_eq_getElem_cons (List.getElem?_eq_some_iff.1 hi).1, (List.getElem?_eq_some_iff.1 hi).2]
  simp only [textS, he, Option.map_map]
  congr 1
  funext t
  simp
theorem textS_stop {l : List Ev} {i : Nat} {ev : Ev} {done : List UInt8} (hi : l[i]? = some ev) (he : encS ev = none) (h : textS l = (textS (l.drop i)).map (done ++ ·)) : textS l = none := by
  rw [h, List.drop_eq_getElem_cons (List.getElem?_eq_some_iff.1 hi).1, (List.getElem?_eq_some_iff.1 hi).2]
  simp only [textS, he, Option.map_none]

set_option maxRecDepth 20000 in
set_option maxHeartbeats 4000000 in
theorem text_row (l : List Ev) (hfit : ∀ e ∈ l, e.Fits) (hm : l.length ≤ 1048576) (b o c : Nat) (w : World) (hE : Env w) (hb : b < w.heap.size) (hrow : EvRow w b o l) (hn : 1 ≤ l.length) :
    Calls Tryz.prog 9 #[.slice (some ⟨b, o, none⟩) l.length c] w fun e w' => e = .returned (textOut (textS l)) ∧ Below w.heap.size w w' := by
  obtain ⟨n, hln⟩ : ∃ n, l.length = n := ⟨_, rfl⟩
  have HL : Hid (l.length = n) := hln
  rw [hln] at hn hm ⊢
  clear hln
  have HR : Hid (EvRow w b o l) := hrow
  have HE : Hid (∀ W, Below w.heap.size w W → Env W) := fun W h => hE.below h
  have HF : Hid (∀ e ∈ l, e.Fits) := hfit
  obtain ⟨out, hout⟩ : ∃ x, textOut (textS l) = x := ⟨_, rfl⟩
  have HO : Hid (textOut (textS l) = out) := hout
  rw [hout]
  clear hrow hE hfit hout
  go_enter Tryz.func9, Tryz.ntmps9
  go_wp2
  go_loopw [11] (fun v wr => ∃ (i : Nat) (done : List UInt8), i ≤ n ∧ v = .int .i64 i ∧ textS l = (textS (l.drop i)).map (done ++ ·) ∧ done.length ≤ i * 67108865 ∧ Lib.IsBuilderF 44 5 w.heap.size w.heap.size (Lib.byteCells done) wr ∧ Below w.heap.size w wr) (fun v _ => n - (intOf v).toNat)
  case atStart => exact ⟨0, [], Nat.zero_le _, rfl, by simp, by simp, Lib.IsBuilderF.of (Lib.fresh_isBuilder _ _ w), below1 _ _⟩
  case round =>
    obtain ⟨i, done, hi, rfl, hsp, hdl, hbd, hbl⟩ := hrel
    have HB : Hid (Below w.heap.size w wr) := hbl
    have HS : Hid (textS l = (textS (l.drop i)).map (done ++ ·)) := hsp
    have HD : Hid (Lib.IsBuilderF 44 5 w.heap.size w.heap.size (Lib.byteCells done) wr) := hbd
    have HN : Hid (done.length ≤ i * 67108865) := hdl
    clear hbl hsp hbd hdl
    by_cases hlt : i < n
    · obtain ⟨ev, hev⟩ : ∃ e, l[i]? = some e := ⟨_, List.getElem?_eq_getElem (by rw [HL.out]; exact hlt)⟩
      have HV : Hid (l[i]? = some ev) := hev
      have HFe : Hid ev.Fits := HF.out ev (List.mem_of_getElem? hev)
      have hc : wr.cell? ⟨b, o + i * 14, none⟩ = some (.int .i64 ev.kind) ∧ wr.cell? ⟨b, o + i * 14 + 1, none⟩ = some (.int .i64 ev.session) ∧ wr.cell? ⟨b, o + i * 14 + 2, none⟩ = some (.int .i64 ev.window) ∧ wr.cell? ⟨b, o + i * 14 + 3, none⟩ = some (.int .i64 ev.pane) ∧ wr.cell? ⟨b, o + i * 14 + 4, none⟩ = some (.int .i64 ev.index) ∧ wr.cell? ⟨b, o + i * 14 + 5, none⟩ = some (.int .i64 ev.offset) ∧ wr.cell? ⟨b, o + i * 14 + 6, none⟩ = some (.int .i64 ev.tick) ∧ wr.cell? ⟨b, o + i * 14 + 7, none⟩ = some (.int .i64 ev.number) ∧ wr.cell? ⟨b, o + i * 14 + 8, none⟩ = some (.int .i64 ev.flag) ∧ wr.cell? ⟨b, o + i * 14 + 9, none⟩ = some (.string ev.name) ∧ wr.cell? ⟨b, o + i * 14 + 10, none⟩ = some (.string ev.text) ∧ wr.cell? ⟨b, o + i * 14 + 11, none⟩ = some (.string ev.layout) ∧ wr.cell? ⟨b, o + i * 14 + 12, none⟩ = some (.string ev.visible) ∧ wr.cell? ⟨b, o + i * 14 + 13, none⟩ = some (.bool ev.zoom) := EvRow.at (fun j u hu => by rw [HB.out.cell (p := ⟨b, o + j, none⟩) hb]; exact HR.out j u hu) hev
      obtain ⟨q0, q1, q2, q3, q4, q5, q6, q7, q8, q9, q10, q11, q12, q13⟩ := hc
      clear hev
      have HB0 : Hid (Below w.heap.size w (wr.alloc (.cells #[.int .i64 ev.kind, .int .i64 ev.session, .int .i64 ev.window, .int .i64 ev.pane, .int .i64 ev.index, .int .i64 ev.offset, .int .i64 ev.tick, .int .i64 ev.number, .int .i64 ev.flag, .string ev.name, .string ev.text, .string ev.layout, .string ev.visible, .bool ev.zoom] 28))) := HB.out.alloc HB.out.size _
      have HD0 : Hid (Lib.IsBuilderF 44 5 w.heap.size w.heap.size (Lib.byteCells done) (wr.alloc (.cells #[.int .i64 ev.kind, .int .i64 ev.session, .int .i64 ev.window, .int .i64 ev.pane, .int .i64 ev.index, .int .i64 ev.offset, .int .i64 ev.tick, .int .i64 ev.number, .int .i64 ev.flag, .string ev.name, .string ev.text, .string ev.layout, .string ev.visible, .bool ev.zoom] 28))) := HD.out.alloc _
      cases henc : encS ev with
      | none =>
        have HEn : Hid (∀ W, Env W → Calls Tryz.prog 10 #[.agg #[.int .i64 ev.kind, .int .i64 ev.session, .int .i64 ev.window, .int .i64 ev.pane, .int .i64 ev.index, .int .i64 ev.offset, .int .i64 ev.tick, .int .i64 ev.number, .int .i64 ev.flag, .string ev.name, .string ev.text, .string ev.layout, .string ev.visible, .bool ev.zoom]] W fun e w' => e = .returned (.tuple #[.string ⟨#[]⟩, .int .i64 30]) ∧ Below W.heap.size W w') := fun W hW => by
          have := encode_any ev HFe.out W hW
          rw [henc] at this
          exact this
        have HT : Hid (out = .tuple #[.string ⟨#[]⟩, .int .i64 30]) := by
          have := HO.out
          rw [textS_stop HV.out henc HS.out] at this
          exact this.symm
        clear henc
        go_wp2_with fail
        refine (HEn.out _ (HE.out _ HB0.out)).mono ?_
        rintro e w1 ⟨rfl, hb1⟩
        have HB1 : Hid (Below w.heap.size w w1) := below_step HB0.out hb1
        clear hb1 HEn HB0 HD0 HD HB
        go_wp2
        go_ret2
        exact ⟨by rw [HT.out]; rfl, HB1.out⟩
      | some line =>
        have hll : line.length ≤ 67108864 := enc_len HFe.out henc
        have HS1 : Hid (textS l = (textS (l.drop (i + 1))).map ((done ++ (line ++ [10])) ++ ·)) := textS_step HV.out henc HS.out
        have HEn : Hid (∀ W, Env W → Calls Tryz.prog 10 #[.agg #[.int .i64 ev.kind, .int .i64 ev.session, .int .i64 ev.window, .int .i64 ev.pane, .int .i64 ev.index, .int .i64 ev.offset, .int .i64 ev.tick, .int .i64 ev.number, .int .i64 ev.flag, .string ev.name, .string ev.text, .string ev.layout, .string ev.visible, .bool ev.zoom]] W fun e w' => e = .returned (.tuple #[.string (str line), .int .i64 0]) ∧ Below W.heap.size W w') := fun W hW => by
          have := encode_any ev HFe.out W hW
          rw [henc] at this
          exact this
        have HZ : Hid ((str line).size = line.length) := str_size _
        have HQ : Hid ((Lib.byteCells done ++ Lib.strCells (str line)) ++ Lib.strCells ⟨#[10]⟩ = Lib.byteCells (done ++ (line ++ [10]))) := bytes_line done line
        have HM : Hid ((done ++ (line ++ [10])).length ≤ (i + 1) * 67108865) := by
          have := HN.out
          show (done ++ (line ++ [10])).length ≤ (i + 1) * 67108865
          simp only [List.length_append, List.length_cons, List.length_nil]
          omega
        have HK1 : Hid ((Lib.byteCells done).length + (str line).size ≤ 140737488355328) := by
          have := HN.out
          rw [Lib.byteCells_length, HZ.out]
          show done.length + line.length ≤ 140737488355328
          omega
        have HK2 : Hid ((Lib.byteCells done ++ Lib.strCells (str line)).length + (⟨#[10]⟩ : ByteArray).size ≤ 140737488355328) := by
          have := HN.out
          rw [List.length_append, Lib.byteCells_length, Lib.strCells_length, HZ.out, show (⟨#[10]⟩ : ByteArray).size = 1 from rfl]
          show done.length + line.length + 1 ≤ 140737488355328
          omega
        clear henc hll HZ
        go_wp2_with fail
        refine (HEn.out _ (HE.out _ HB0.out)).mono ?_
        rintro e w1 ⟨rfl, hb1⟩
        have HB1 : Hid (Below w.heap.size w w1) := below_step HB0.out hb1
        have HD1 : Hid (Lib.IsBuilderF 44 5 w.heap.size w.heap.size (Lib.byteCells done) w1) := builder_below HD0.out hb1
        clear hb1 HEn HB0 HD0 HD HB
        go_wp2_with fail
        refine (writeString_k _ _ _ (str line) _ HD1.out HK1.out HB1.out.size).mono ?_
        rintro e w2 ⟨rfl, hat2, hb2, _⟩
        have HB2 : Hid (Below w.heap.size w w2) := HB1.out.trans hb2
        have HD2 : Hid (Lib.IsBuilderF 44 5 w.heap.size w.heap.size (Lib.byteCells done ++ Lib.strCells (str line)) w2) := Or.inr hat2
        clear hat2 hb2 HD1 HB1
        go_wp2_with fail
        refine (writeString_k _ _ _ ⟨#[10]⟩ _ HD2.out HK2.out HB2.out.size).mono ?_
        rintro e w3 ⟨rfl, hat3, hb3, _⟩
        have HB3 : Hid (Below w.heap.size w w3) := HB2.out.trans hb3
        have HD3 : Hid (Lib.IsBuilderF 44 5 w.heap.size w.heap.size (Lib.byteCells (done ++ (line ++ [10]))) w3) := by rw [← HQ.out]; exact Or.inr hat3
        clear hat3 hb3 HD2 HB2
        go_wp2
        go_roundw
        case rel => exact ⟨i + 1, done ++ (line ++ [10]), by omega, by go_num, HS1.out, HM.out, HD3.out, HB3.out⟩
        case measure => simp [intOf]; omega
    · have HT : Hid (out = .tuple #[.string (str done), .int .i64 0]) := by
        have h1 := HO.out
        rw [HS.out, List.drop_eq_nil_of_le (by rw [HL.out]; omega)] at h1
        simp only [textS, Option.map_some, List.append_nil, textOut] at h1
        exact h1.symm
      go_wp2_with fail
      refine (Tryz.Builder_String_any_k _ _ done _ HD.out HB.out.size).mono ?_
      rintro e w1 ⟨rfl, _, hb1, _⟩
      have HB1 : Hid (Below w.heap.size w w1) := HB.out.trans hb1
      clear hb1
      go_wp2
      go_ret2
      exact ⟨by rw [HT.out]; rfl, HB1.out⟩

end Go.Proofs.YtlgkdnmhoboinaaGreatDoor
