/-
  'same' of two rows of events, whatever they are.
-/
import Derived.Test.YtlgkdnmhoboinaaGreatDoorWText
import Derived.WalkKit
import Derived.LoopTactic
import Derived.Deep.RegionHeld3
import Derived.Laws.StructEq
namespace Go.Proofs.YtlgkdnmhoboinaaGreatDoor
open Go.RowKit
set_option linter.unusedVariables false

theorem take_next {α : Type} {l : List α} {i : Nat} {a : α} (h : l[i]? = some a) : l.take (i + 1) = l.take i ++ [a] := by
  rw [List.take_add_one, h]; rfl

/-- What 'same' answers. -/
def SamePost (p : Prop) (w : World) (e : Ending) (w' : World) : Prop := ∃ r : Bool, e = .returned (.bool r) ∧ (r = true ↔ p) ∧ Below w.heap.size w w'

theorem SamePost.no {p : Prop} {w w' : World} (hp : ¬ p) (hb : Below w.heap.size w w') : SamePost p w (.returned (.bool false)) w' := ⟨false, rfl, ⟨fun h => absurd h (by decide), fun h => absurd h hp⟩, hb⟩
theorem SamePost.yes {p : Prop} {w w' : World} (hp : p) (hb : Below w.heap.size w w') : SamePost p w (.returned (.bool true)) w' := ⟨true, rfl, ⟨fun _ => hp, fun _ => rfl⟩, hb⟩

set_option maxRecDepth 20000 in
set_option maxHeartbeats 4000000 in
theorem same_rows (l l' : List Ev) (hll : l.length = l'.length) (hn : 1 ≤ l.length) (hm : l.length ≤ 16777216) (b o c b' o' c' : Nat) (w : World) (hb : b < w.heap.size) (hb' : b' < w.heap.size) (h1 : EvRow w b o l) (h2 : EvRow w b' o' l') :
    Calls Tryz.prog 13 #[.slice (some ⟨b, o, none⟩) l.length c, .slice (some ⟨b', o', none⟩) l.length c'] w (SamePost (l = l') w) := by
  have H1 : Hid (EvRow w b o l) := h1
  have H2 : Hid (EvRow w b' o' l') := h2
  obtain ⟨n, hln⟩ : ∃ n, l.length = n := ⟨_, rfl⟩
  have HL : Hid (l.length = n) := hln
  have HL' : Hid (l'.length = n) := hll.symm.trans hln
  rw [hln] at hn hm ⊢
  clear h1 h2 hln hll
  go_enter Tryz.func13, Tryz.ntmps13
  go_wp2
  go_loopw [5] (fun v wr => ∃ i : Nat, i ≤ n ∧ v = .int .i64 i ∧ l.take i = l'.take i ∧ Below w.heap.size w wr) (fun v _ => n - (intOf v).toNat)
  case atStart => exact ⟨0, Nat.zero_le _, rfl, rfl, Below.refl _ _⟩
  case round =>
    obtain ⟨i, hi, rfl, htk, hbl⟩ := hrel
    have HB : Hid (Below w.heap.size w wr) := hbl
    have HT : Hid (l.take i = l'.take i) := htk
    clear hbl htk
    by_cases hlt : i < n
    · obtain ⟨ev, hev⟩ : ∃ e, l[i]? = some e := ⟨_, List.getElem?_eq_getElem (by rw [HL.out]; exact hlt)⟩
      obtain ⟨ev', hev'⟩ : ∃ e, l'[i]? = some e := ⟨_, List.getElem?_eq_getElem (by rw [HL'.out]; exact hlt)⟩
      have hc1 : wr.cell? ⟨b, o + i * 14, none⟩ = some (.int .i64 ev.kind) ∧ wr.cell? ⟨b, o + i * 14 + 1, none⟩ = some (.int .i64 ev.session) ∧ wr.cell? ⟨b, o + i * 14 + 2, none⟩ = some (.int .i64 ev.window) ∧ wr.cell? ⟨b, o + i * 14 + 3, none⟩ = some (.int .i64 ev.pane) ∧ wr.cell? ⟨b, o + i * 14 + 4, none⟩ = some (.int .i64 ev.index) ∧ wr.cell? ⟨b, o + i * 14 + 5, none⟩ = some (.int .i64 ev.offset) ∧ wr.cell? ⟨b, o + i * 14 + 6, none⟩ = some (.int .i64 ev.tick) ∧ wr.cell? ⟨b, o + i * 14 + 7, none⟩ = some (.int .i64 ev.number) ∧ wr.cell? ⟨b, o + i * 14 + 8, none⟩ = some (.int .i64 ev.flag) ∧ wr.cell? ⟨b, o + i * 14 + 9, none⟩ = some (.string ev.name) ∧ wr.cell? ⟨b, o + i * 14 + 10, none⟩ = some (.string ev.text) ∧ wr.cell? ⟨b, o + i * 14 + 11, none⟩ = some (.string ev.layout) ∧ wr.cell? ⟨b, o + i * 14 + 12, none⟩ = some (.string ev.visible) ∧ wr.cell? ⟨b, o + i * 14 + 13, none⟩ = some (.bool ev.zoom) := EvRow.at (fun j u hu => by rw [HB.out.cell (p := ⟨b, o + j, none⟩) hb]; exact H1.out j u hu) hev
      have hc2 : wr.cell? ⟨b', o' + i * 14, none⟩ = some (.int .i64 ev'.kind) ∧ wr.cell? ⟨b', o' + i * 14 + 1, none⟩ = some (.int .i64 ev'.session) ∧ wr.cell? ⟨b', o' + i * 14 + 2, none⟩ = some (.int .i64 ev'.window) ∧ wr.cell? ⟨b', o' + i * 14 + 3, none⟩ = some (.int .i64 ev'.pane) ∧ wr.cell? ⟨b', o' + i * 14 + 4, none⟩ = some (.int .i64 ev'.index) ∧ wr.cell? ⟨b', o' + i * 14 + 5, none⟩ = some (.int .i64 ev'.offset) ∧ wr.cell? ⟨b', o' + i * 14 + 6, none⟩ = some (.int .i64 ev'.tick) ∧ wr.cell? ⟨b', o' + i * 14 + 7, none⟩ = some (.int .i64 ev'.number) ∧ wr.cell? ⟨b', o' + i * 14 + 8, none⟩ = some (.int .i64 ev'.flag) ∧ wr.cell? ⟨b', o' + i * 14 + 9, none⟩ = some (.string ev'.name) ∧ wr.cell? ⟨b', o' + i * 14 + 10, none⟩ = some (.string ev'.text) ∧ wr.cell? ⟨b', o' + i * 14 + 11, none⟩ = some (.string ev'.layout) ∧ wr.cell? ⟨b', o' + i * 14 + 12, none⟩ = some (.string ev'.visible) ∧ wr.cell? ⟨b', o' + i * 14 + 13, none⟩ = some (.bool ev'.zoom) := EvRow.at (fun j u hu => by rw [HB.out.cell (p := ⟨b', o' + j, none⟩) hb']; exact H2.out j u hu) hev'
      obtain ⟨q0, q1, q2, q3, q4, q5, q6, q7, q8, q9, q10, q11, q12, q13⟩ := hc1
      obtain ⟨p0, p1, p2, p3, p4, p5, p6, p7, p8, p9, p10, p11, p12, p13⟩ := hc2
      have HV : Hid (l[i]? = some ev) := hev
      have HV' : Hid (l'[i]? = some ev') := hev'
      obtain ⟨r, hr⟩ : ∃ r, evEq ev ev' = r := ⟨_, rfl⟩
      have hEq : ∀ W : World, (Op.equalIn 10000 28 (.agg #[.int .i64 ev.kind, .int .i64 ev.session, .int .i64 ev.window, .int .i64 ev.pane, .int .i64 ev.index, .int .i64 ev.offset, .int .i64 ev.tick, .int .i64 ev.number, .int .i64 ev.flag, .string ev.name, .string ev.text, .string ev.layout, .string ev.visible, .bool ev.zoom]) (.agg #[.int .i64 ev'.kind, .int .i64 ev'.session, .int .i64 ev'.window, .int .i64 ev'.pane, .int .i64 ev'.index, .int .i64 ev'.offset, .int .i64 ev'.tick, .int .i64 ev'.number, .int .i64 ev'.flag, .string ev'.name, .string ev'.text, .string ev'.layout, .string ev'.visible, .bool ev'.zoom])).run Tryz.prog W = .ok r W := fun W => by
        have := eqEv ev ev' W
        rw [hr] at this
        exact this
      have HR : Hid ((r = false → ¬ ev = ev') ∧ (r = true → ev = ev')) := ⟨fun h e => absurd (hr.symm.trans ((evEq_iff ev ev').2 e)) (by rw [h]; decide), fun h => (evEq_iff ev ev').1 (hr.trans h)⟩
      clear hev hev' hr
      cases r
      · have HR' : Hid (¬ ev = ev') := HR.out.1 rfl
        clear HR
        go_wp2
        go_region_held3 (fun W' => W'.cell? ⟨b, o + i * 14, none⟩ = some (.int .i64 ev.kind) ∧ W'.cell? ⟨b, o + i * 14 + 1, none⟩ = some (.int .i64 ev.session) ∧ W'.cell? ⟨b, o + i * 14 + 2, none⟩ = some (.int .i64 ev.window) ∧ W'.cell? ⟨b, o + i * 14 + 3, none⟩ = some (.int .i64 ev.pane) ∧ W'.cell? ⟨b, o + i * 14 + 4, none⟩ = some (.int .i64 ev.index) ∧ W'.cell? ⟨b, o + i * 14 + 5, none⟩ = some (.int .i64 ev.offset) ∧ W'.cell? ⟨b, o + i * 14 + 6, none⟩ = some (.int .i64 ev.tick) ∧ W'.cell? ⟨b, o + i * 14 + 7, none⟩ = some (.int .i64 ev.number) ∧ W'.cell? ⟨b, o + i * 14 + 8, none⟩ = some (.int .i64 ev.flag) ∧ W'.cell? ⟨b, o + i * 14 + 9, none⟩ = some (.string ev.name) ∧ W'.cell? ⟨b, o + i * 14 + 10, none⟩ = some (.string ev.text) ∧ W'.cell? ⟨b, o + i * 14 + 11, none⟩ = some (.string ev.layout) ∧ W'.cell? ⟨b, o + i * 14 + 12, none⟩ = some (.string ev.visible) ∧ W'.cell? ⟨b, o + i * 14 + 13, none⟩ = some (.bool ev.zoom) ∧ W'.cell? ⟨b', o' + i * 14, none⟩ = some (.int .i64 ev'.kind) ∧ W'.cell? ⟨b', o' + i * 14 + 1, none⟩ = some (.int .i64 ev'.session) ∧ W'.cell? ⟨b', o' + i * 14 + 2, none⟩ = some (.int .i64 ev'.window) ∧ W'.cell? ⟨b', o' + i * 14 + 3, none⟩ = some (.int .i64 ev'.pane) ∧ W'.cell? ⟨b', o' + i * 14 + 4, none⟩ = some (.int .i64 ev'.index) ∧ W'.cell? ⟨b', o' + i * 14 + 5, none⟩ = some (.int .i64 ev'.offset) ∧ W'.cell? ⟨b', o' + i * 14 + 6, none⟩ = some (.int .i64 ev'.tick) ∧ W'.cell? ⟨b', o' + i * 14 + 7, none⟩ = some (.int .i64 ev'.number) ∧ W'.cell? ⟨b', o' + i * 14 + 8, none⟩ = some (.int .i64 ev'.flag) ∧ W'.cell? ⟨b', o' + i * 14 + 9, none⟩ = some (.string ev'.name) ∧ W'.cell? ⟨b', o' + i * 14 + 10, none⟩ = some (.string ev'.text) ∧ W'.cell? ⟨b', o' + i * 14 + 11, none⟩ = some (.string ev'.layout) ∧ W'.cell? ⟨b', o' + i * 14 + 12, none⟩ = some (.string ev'.visible) ∧ W'.cell? ⟨b', o' + i * 14 + 13, none⟩ = some (.bool ev'.zoom)) (go_keep) (fail)
        go_wp2
        go_ret
        refine SamePost.no (fun h => ?_) HB.out.drew
        have h3 := HV.out
        rw [h, HV'.out] at h3
        exact HR'.out (Option.some.inj h3).symm
      · have HR' : Hid (ev = ev') := HR.out.2 rfl
        clear HR
        go_wp2
        go_region_held3 (fun W' => W'.cell? ⟨b, o + i * 14, none⟩ = some (.int .i64 ev.kind) ∧ W'.cell? ⟨b, o + i * 14 + 1, none⟩ = some (.int .i64 ev.session) ∧ W'.cell? ⟨b, o + i * 14 + 2, none⟩ = some (.int .i64 ev.window) ∧ W'.cell? ⟨b, o + i * 14 + 3, none⟩ = some (.int .i64 ev.pane) ∧ W'.cell? ⟨b, o + i * 14 + 4, none⟩ = some (.int .i64 ev.index) ∧ W'.cell? ⟨b, o + i * 14 + 5, none⟩ = some (.int .i64 ev.offset) ∧ W'.cell? ⟨b, o + i * 14 + 6, none⟩ = some (.int .i64 ev.tick) ∧ W'.cell? ⟨b, o + i * 14 + 7, none⟩ = some (.int .i64 ev.number) ∧ W'.cell? ⟨b, o + i * 14 + 8, none⟩ = some (.int .i64 ev.flag) ∧ W'.cell? ⟨b, o + i * 14 + 9, none⟩ = some (.string ev.name) ∧ W'.cell? ⟨b, o + i * 14 + 10, none⟩ = some (.string ev.text) ∧ W'.cell? ⟨b, o + i * 14 + 11, none⟩ = some (.string ev.layout) ∧ W'.cell? ⟨b, o + i * 14 + 12, none⟩ = some (.string ev.visible) ∧ W'.cell? ⟨b, o + i * 14 + 13, none⟩ = some (.bool ev.zoom) ∧ W'.cell? ⟨b', o' + i * 14, none⟩ = some (.int .i64 ev'.kind) ∧ W'.cell? ⟨b', o' + i * 14 + 1, none⟩ = some (.int .i64 ev'.session) ∧ W'.cell? ⟨b', o' + i * 14 + 2, none⟩ = some (.int .i64 ev'.window) ∧ W'.cell? ⟨b', o' + i * 14 + 3, none⟩ = some (.int .i64 ev'.pane) ∧ W'.cell? ⟨b', o' + i * 14 + 4, none⟩ = some (.int .i64 ev'.index) ∧ W'.cell? ⟨b', o' + i * 14 + 5, none⟩ = some (.int .i64 ev'.offset) ∧ W'.cell? ⟨b', o' + i * 14 + 6, none⟩ = some (.int .i64 ev'.tick) ∧ W'.cell? ⟨b', o' + i * 14 + 7, none⟩ = some (.int .i64 ev'.number) ∧ W'.cell? ⟨b', o' + i * 14 + 8, none⟩ = some (.int .i64 ev'.flag) ∧ W'.cell? ⟨b', o' + i * 14 + 9, none⟩ = some (.string ev'.name) ∧ W'.cell? ⟨b', o' + i * 14 + 10, none⟩ = some (.string ev'.text) ∧ W'.cell? ⟨b', o' + i * 14 + 11, none⟩ = some (.string ev'.layout) ∧ W'.cell? ⟨b', o' + i * 14 + 12, none⟩ = some (.string ev'.visible) ∧ W'.cell? ⟨b', o' + i * 14 + 13, none⟩ = some (.bool ev'.zoom)) (go_keep) (fail)
        go_wp2
        go_roundw
        case rel => exact ⟨i + 1, by omega, by go_num, by rw [take_next HV.out, take_next HV'.out, HT.out, HR'.out], HB.out.drew⟩
        case measure => simp [intOf]; omega
    · go_wp2
      go_ret
      refine SamePost.yes ?_ HB.out
      have h3 := HT.out
      rwa [List.take_of_length_le (by rw [HL.out]; omega), List.take_of_length_le (by rw [HL'.out]; omega)] at h3

/-- A slice of events that is handed in. -/
def EvArg (w : World) (v : Value) (l : List Ev) : Prop :=
  ((∃ ad c, v = .slice ad 0 c) ∧ l = []) ∨ ∃ b o c, v = .slice (some ⟨b, o, none⟩) l.length c ∧ b < w.heap.size ∧ EvRow w b o l
theorem EvArg.below {w w' : World} {v : Value} {l : List Ev} (h : EvArg w v l) (hb : Below w.heap.size w w') : EvArg w' v l :=
  h.imp id fun ⟨b, o, c, h1, h2, h3⟩ => ⟨b, o, c, h1, Nat.lt_of_lt_of_le h2 hb.size, h3.below h2 hb⟩
theorem EvArg.of_owns {w : World} {B : Nat} {v : Value} {l : List Ev} (h : EvOwns w B v l) : EvArg w v l := by
  rcases h.shape with h1 | ⟨g, cap, rfl, _, _, h3⟩
  · exact .inl ⟨⟨_, _, h1.1⟩, h1.2⟩
  · exact .inr ⟨g, 0, cap, rfl, h3, EvRow.of_owns rfl h⟩
/-- How long it is. -/
theorem EvArg.len {w : World} {v : Value} {l : List Ev} (h : EvArg w v l) : ∃ ad c, v = .slice ad l.length c := by
  rcases h with ⟨⟨ad, c, rfl⟩, rfl⟩ | ⟨b, o, c, rfl, _⟩
  · exact ⟨_, _, rfl⟩
  · exact ⟨_, _, rfl⟩

set_option maxHeartbeats 1000000 in
theorem same_off (n n' : Nat) (h : n ≠ n') (hm : n ≤ 16777216) (hm' : n' ≤ 16777216) (ad ad' : Option Addr) (c c' : Nat) (p : Prop) (hp : ¬ p) (w : World) :
    Calls Tryz.prog 13 #[.slice ad n c, .slice ad' n' c'] w (SamePost p w) := by
  have HP : Hid (¬ p) := hp
  clear hp
  go_enter Tryz.func13, Tryz.ntmps13
  go_wp2
  go_ret
  exact SamePost.no HP.out (Below.refl _ _)

set_option maxHeartbeats 1000000 in
theorem same_empty (ad ad' : Option Addr) (c c' : Nat) (p : Prop) (hp : p) (w : World) :
    Calls Tryz.prog 13 #[.slice ad 0 c, .slice ad' 0 c'] w (SamePost p w) := by
  have HP : Hid p := hp
  clear hp
  go_enter Tryz.func13, Tryz.ntmps13
  go_wp2
  go_loopw [5] (fun v wr => v = .int .i64 0 ∧ w = wr) (fun _ _ => 0)
  case atStart => exact ⟨rfl, rfl⟩
  case round =>
    obtain ⟨rfl, rfl⟩ := hrel
    go_wp2
    go_ret
    exact SamePost.yes HP.out (Below.refl _ _)

/-- 'same' tells whether two lists of events are the same. -/
theorem same_all (l l' : List Ev) (hm : l.length ≤ 16777216) (hm' : l'.length ≤ 16777216) (v v' : Value) (w : World) (h1 : EvArg w v l) (h2 : EvArg w v' l') :
    Calls Tryz.prog 13 #[v, v'] w (SamePost (l = l') w) := by
  by_cases hl : l.length = l'.length
  · by_cases h0 : l.length = 0
    · obtain ⟨ad, c, rfl⟩ := h1.len
      obtain ⟨ad', c', rfl⟩ := h2.len
      rw [← hl, h0]
      refine same_empty ad ad' c c' _ ?_ w
      rw [List.eq_nil_of_length_eq_zero h0, List.eq_nil_of_length_eq_zero (hl.symm.trans h0)]
    · rcases h1 with ⟨_, rfl⟩ | ⟨b, o, c, rfl, hb, hr⟩
      · exact absurd rfl h0
      · rcases h2 with ⟨_, rfl⟩ | ⟨b', o', c', rfl, hb', hr'⟩
        · exact absurd hl h0
        · rw [← hl]
          exact same_rows l l' hl (by omega) hm b o c b' o' c' w hb hb' hr hr'
  · obtain ⟨ad, c, rfl⟩ := h1.len
    obtain ⟨ad', c', rfl⟩ := h2.len
    exact same_off _ _ hl hm hm' ad ad' c c' _ (fun e => hl (by rw [e])) w

end Go.Proofs.YtlgkdnmhoboinaaGreatDoor
