/-
  How long the text of a list is; Events, of longer texts.
-/
import Derived.Test.YtlgkdnmhoboinaaGreatDoorWOpen
import Derived.WalkKit
import Derived.LoopTactic
namespace Go.Proofs.YtlgkdnmhoboinaaGreatDoor
open Go.RowKit
set_option linter.unusedVariables false

/-- One event appended to what is owned. -/
theorem wpList_append_ev2 {ops : Array Oper} {rest : List Oper} {o : Oper} {a : Act} {Q : Exit → Act → World → Prop} (w : World) (hgd : o.guard = none) (s x : Operand)
    (ho : o.op = .call { callee := .builtin .append, args := #[s, x], argTypes := #[22, 22] })
    (B : Nat) (v : Value) (l : List Ev) (e : Ev) (hs : a.eval s = v) (hown : EvOwns w B v l) (hx : a.eval x = .slice (some ⟨w.heap.size, 0, none⟩) 1 1) (hlen : l.length ≤ 67108864) (hB : B ≤ w.heap.size)
    (h : ∀ v' w', EvOwns w' B v' (l ++ [e]) → Below B w w' → wpList Tryz.prog ops Q rest (a.put o.dst v') w') : wpList Tryz.prog ops Q (o :: rest) a (w.alloc (.cells e.vals 28)) := by
  obtain ⟨i0, hi, hz0, hz1, hz2⟩ := info_parts infoEv
  have hown' : (w.alloc (.cells e.vals 28)).ownsRow B 28 14 v l.length (evCells l) := World.ownsRow.alloc hown _
  refine wpList_append_own _ hgd s x 22 ho B 28 i0 (.agg (Ev.zero 0).vals) 14 144 Tryz.underlying22 hi hz0 hz1 hz2 rfl (by decide) v l.length (evCells l) hs hown' ⟨w.heap.size, 0, none⟩ 1 1 e.vals.toList hx rfl ?_ ?_ ?_ ?_ ?_ ?_
  · intro j u hu
    rw [show (⟨w.heap.size, 0, none⟩ : Addr).add j = ⟨w.heap.size, j, none⟩ by unfold Addr.add; split <;> simp_all, cell_at (heap_alloc_new w _)]
    simpa using hu
  · intro u hu
    have hu' : u ∈ [Value.int .i64 e.kind, .int .i64 e.session, .int .i64 e.window, .int .i64 e.pane, .int .i64 e.index, .int .i64 e.offset, .int .i64 e.tick, .int .i64 e.number, .int .i64 e.flag, .string e.name, .string e.text, .string e.layout, .string e.visible, .bool e.zoom] := hu
    simp only [List.mem_cons, List.not_mem_nil, or_false] at hu'
    rcases hu' with rfl | rfl | rfl | rfl | rfl | rfl | rfl | rfl | rfl | rfl | rfl | rfl | rfl | rfl <;> rfl
  · unfold maxLen; omega
  · omega
  · rw [size1]; omega
  · intro v' w' h2 h3 _
    refine h v' w' ?_ ?_
    · unfold EvOwns
      rw [evCells_snoc, List.length_append]
      exact h2
    · refine ((Below.refl B w).alloc hB _).grown h3 (by rw [size1]; omega) (fun k hk => ?_)
      exact (World.ownsRow.lt hown k hk).1

set_option maxRecDepth 20000 in
set_option maxHeartbeats 1000000 in
theorem events_more (s : ByteArray) (hs : s.size ≤ 67108864) (w : World) (hE : Env w) :
    Calls Tryz.prog 12 #[.string s] w fun e w' => ∃ v, e = .returned (.tuple #[v, .string (str (linesS s.data.toList).2)]) ∧ EvOwns w' w.heap.size v ((linesS s.data.toList).1.map decS) ∧ Below w.heap.size w w' := by
  have HE : Hid (∀ W, Below w.heap.size w W → Env W) := fun W h => hE.below h
  obtain ⟨want, hwant⟩ : ∃ x, linesS s.data.toList = x := ⟨_, rfl⟩
  rw [hwant]
  have HW : Hid (linesS s.data.toList = want) := hwant
  clear hE hwant
  go_enter Tryz.func12, Tryz.ntmps12
  go_wp2
  go_loopw [0, 4] (fun t u wr => ∃ (txt : List UInt8) (done : List Ev) (v : Value), t = .string (str txt) ∧ v = u ∧ EvOwns wr w.heap.size v done ∧ Below w.heap.size w wr ∧ done ++ (linesS txt).1.map decS = want.1.map decS ∧ (linesS txt).2 = want.2 ∧ txt.length ≤ s.size ∧ done.length + txt.length ≤ s.size) (fun t _ _ => strSize t)
  case atStart => exact ⟨s.data.toList, [], _, rfl, rfl, evs_nil _ _, Below.refl _ _, by rw [HW.out]; rfl, by rw [HW.out], by rw [size_data]; exact Nat.le_refl _, by rw [size_data]; simp⟩
  case round =>
    obtain ⟨txt, done, v, rfl, huv, hown, hb, h1, h2, h3, h4⟩ := hrel
    subst huv
    obtain ⟨m, hm⟩ := (HE.out wr hb).most
    have HC := Tryz.strings_Cut (str txt) ⟨#[10]⟩ m wr (by rw [str_size]; omega) hm
    rw [str_data, show (⟨#[10]⟩ : ByteArray).data.toList = [10] from rfl] at HC
    have HOw : Hid (EvOwns wr w.heap.size v done) := hown
    have HB : Hid (Below w.heap.size w wr) := hb
    have HBn : Hid (∀ nd, Below wr.heap.size wr (wr.drewN nd)) := fun nd => below_drewN (Below.refl _ _) nd
    by_cases h10 : (10 : UInt8) ∈ txt
    · rw [cut10_yes h10] at HC
      have hl := linesS_yes h10
      have hr := rest10 txt h10
      have hlt : (txt.takeWhile (· != 10)).length ≤ txt.length := (List.takeWhile_sublist _).length_le
      rw [hl] at h1 h2
      obtain ⟨ln, hln⟩ : ∃ x, txt.takeWhile (· != 10) = x := ⟨_, rfl⟩
      obtain ⟨rs, hrs⟩ : ∃ x, (txt.dropWhile (· != 10)).drop 1 = x := ⟨_, rfl⟩
      rw [hln, hrs] at HC h1
      rw [hrs] at h2 hr
      rw [hln] at hlt
      have HC' : Hid (Calls Tryz.prog 27 #[.string (str txt), .string ⟨#[10]⟩] wr fun e w' => e = .returned (.tuple #[.string (str ln), .string (str rs), .bool true]) ∧ ∃ n, w' = wr.drewN n) := HC
      have HDe : Hid (∀ W, Env W → Calls Tryz.prog 15 #[.string (str ln)] W fun e w' => e = .returned (.agg (decS ln).vals) ∧ Below W.heap.size W w') := fun W hW => by
        have := decode_any (str ln) (by rw [str_size]; unfold lim; omega) W hW
        rw [str_data] at this
        exact this
      have H1 : Hid (done ++ (decS ln :: (linesS rs).1.map decS) = want.1.map decS) := h1
      have H2 : Hid ((linesS rs).2 = want.2) := h2
      obtain ⟨ev, hev⟩ : ∃ x, decS ln = x := ⟨_, rfl⟩
      rw [hev] at HDe H1
      unfold Ev.vals at HDe
      have hz1 : (str txt).size = txt.length := str_size _
      have hz2 : (str rs).size = rs.length := str_size _
      clear HC h1 h2 hl hln hrs h10 hown hb hm hev
      go_wp2_with fail
      refine HC'.out.mono ?_
      rintro e w1 ⟨rfl, nd, rfl⟩
      have HB1 : Hid (Below w.heap.size w (wr.drewN nd)) := below_step HB.out (HBn.out nd)
      have HO1 : Hid (EvOwns (wr.drewN nd) w.heap.size v done) := HOw.out.below (HBn.out nd)
      go_wp2_with fail
      refine (HDe.out _ (HE.out _ HB1.out)).mono ?_
      rintro e w2 ⟨rfl, hb2⟩
      have HB2 : Hid (Below w.heap.size w w2) := below_step HB1.out hb2
      have HO2 : Hid (EvOwns w2 w.heap.size v done) := HO1.out.below hb2
      have hsz : w.heap.size ≤ w2.heap.size := HB2.out.size
      clear hb2
      go_wp2_with (at_builtin; refine wpList_append_ev2 w2 rfl (.tmp 19) (.tmp 22) rfl w.heap.size v done ev rfl HO2.out rfl (by omega) hsz ?_; intro v' w3 hown3 hb3)
      go_roundw
      case rel => exact ⟨rs, done ++ [ev], v', rfl, rfl, hown3, HB2.out.trans hb3, by rw [List.append_assoc]; exact H1.out, H2.out, by omega, by rw [List.length_append]; simp; omega⟩
      case measure => simp [strSize]; omega
    · rw [cut10_no h10] at HC
      rw [linesS_no h10] at h1 h2
      have HC' : Hid (Calls Tryz.prog 27 #[.string (str txt), .string ⟨#[10]⟩] wr fun e w' => e = .returned (.tuple #[.string (str txt), .string (str []), .bool false]) ∧ ∃ n, w' = wr.drewN n) := HC
      have H1 : Hid (done = want.1.map decS) := by have h : done ++ [] = want.1.map decS := h1; rw [List.append_nil] at h; exact h
      have H2 : Hid (txt = want.2) := h2
      have hlim : (str txt).size ≤ lim := by rw [str_size]; unfold lim; omega
      clear HC h1 h2 h10 hown hb hm
      go_wp2_with fail
      refine HC'.out.mono ?_
      rintro e w1 ⟨rfl, nd, rfl⟩
      have HB1 : Hid (Below w.heap.size w (wr.drewN nd)) := below_step HB.out (HBn.out nd)
      have HO1 : Hid (EvOwns (wr.drewN nd) w.heap.size v done) := HOw.out.below (HBn.out nd)
      go_wp2_with (go_at_call 28; refine (clone_any _ _ hlim).mono ?_; rintro e w2 ⟨rfl, hb2⟩; have HB2 : Hid (Below w.heap.size w w2) := below_step HB1.out hb2; have HO2 : Hid (EvOwns w2 w.heap.size v done) := HO1.out.below hb2; clear hb2)
      go_ret2
      refine ⟨v, by rw [← H2.out]; rfl, by rw [← H1.out]; exact HO2.out, HB2.out⟩


def Ev.bulk (ev : Ev) : Nat := ev.name.size + ev.text.size + ev.layout.size + ev.visible.size
/-- How long a written field can be, by the event's own texts. -/
def Small (F : FSpec) : Prop := ∀ ev : Ev, (F.put ev).length ≤ 4 * ev.bulk + 21
theorem small_num (m : Int) (f : NF) : Small (fNum m f) := fun ev => by
  have := putL_length (f.get ev)
  show (putL _).length ≤ _
  omega
theorem small_id (c : UInt8) (f : NF) : Small (fId c f) := fun ev => by
  have := putL_length (f.get ev)
  show (putI c _).length ≤ _
  unfold putI
  split
  · simp; omega
  · simp
theorem small_name : Small fName := fun ev => by show ev.name.data.toList.length ≤ _; rw [size_data]; unfold Ev.bulk; omega
theorem small_word : Small fWord := fun ev => by show ev.name.data.toList.length ≤ _; rw [size_data]; unfold Ev.bulk; omega
theorem small_plan (f : PF) : Small (fPlan f) := fun ev => by
  show (f.get ev).data.toList.length ≤ _
  rw [size_data]
  unfold Ev.bulk
  cases f
  · show ev.layout.size ≤ _; omega
  · show ev.visible.size ≤ _; omega
theorem small_zoom : Small fZoom := fun ev => by
  show (if ev.zoom then [90] else [45] : List UInt8).length ≤ _
  split <;> simp
theorem small_colon : Small fColon := fun ev => by show 1 ≤ _; omega
theorem esc_small (lo hi : Nat) (ev : Ev) : ((fEsc lo hi).put ev).length ≤ 4 * ev.bulk := by
  have := (esc_length ev.text.data.toList).2
  rw [size_data] at this
  show (if hi < ev.text.size then [] else esc ev.text.data.toList).length ≤ _
  unfold Ev.bulk
  split
  · simp
  · omega
theorem small_esc (lo hi : Nat) : Small (fEsc lo hi) := fun ev => by have := esc_small lo hi ev; omega
theorem small_body : Small fBody := fun ev => by
  have := escB_length ev.text.data.toList
  rw [size_data] at this
  show (escB _).length ≤ _
  unfold Ev.bulk
  omega
theorem small_reason : Small fReason := fun ev => by
  have := esc_small 1 1024 ev
  show (if ev.text.size = 0 then [] else 32 :: (fEsc 1 1024).put ev).length ≤ _
  split
  · simp
  · simp; omega
theorem small_all (k : Nat) (h1 : 1 ≤ k) (h2 : k ≤ 24) : ∀ F ∈ fieldsOf k, Small F := by
  rcases (show k = 1 ∨ k = 2 ∨ k = 3 ∨ k = 4 ∨ k = 5 ∨ k = 6 ∨ k = 7 ∨ k = 8 ∨ k = 9 ∨ k = 10 ∨ k = 11 ∨ k = 12 ∨ k = 13 ∨ k = 14 ∨ k = 15 ∨ k = 16 ∨ k = 17 ∨ k = 18 ∨ k = 19 ∨ k = 20 ∨ k = 21 ∨ k = 22 ∨ k = 23 ∨ k = 24 by omega) with rfl | rfl | rfl | rfl | rfl | rfl | rfl | rfl | rfl | rfl | rfl | rfl | rfl | rfl | rfl | rfl | rfl | rfl | rfl | rfl | rfl | rfl | rfl | rfl
  all_goals
    unfold fieldsOf
    intro F hF
    simp only [List.mem_cons, List.not_mem_nil, or_false] at hF
    rcases hF with rfl | rfl | rfl | rfl | rfl | rfl | rfl
  all_goals first | exact small_num _ _ | exact small_id _ _ | exact small_name | exact small_word | exact small_plan _ | exact small_zoom | exact small_colon | exact small_esc _ _ | exact small_body | exact small_reason

theorem write_small (k : Nat) (h1 : 1 ≤ k) (h2 : k ≤ 24) (ev : Ev) : (writeS k ev).length + 1 ≤ 28 * (ev.bulk + 15) := by
  have h3 := joinW_length (4 * ev.bulk + 21) ((fieldsOf k).map (·.put ev)) (fun x hx => by
    obtain ⟨F, hF, rfl⟩ := List.mem_map.1 hx
    exact small_all k h1 h2 F hF ev)
  have h4 := (fields_len k h1 h2).2
  have h5 := head_length k
  rw [List.length_map] at h3
  have h6 := Nat.le_trans h3 (Nat.mul_le_mul_right _ h4)
  unfold writeS
  rw [List.length_append]
  omega
theorem enc_small {e : Ev} {l : List UInt8} (h : encS e = some l) : l.length + 1 ≤ 28 * (e.bulk + 15) := by
  rcases encS_cases e with h0 | ⟨k, h1, h2, _, _, h4⟩
  · rw [h0] at h; cases h
  · rw [h4] at h
    cases h
    exact write_small k h1 h2 e
/-- How long the text of a list is. -/
theorem text_small {H : Type} : ∀ (l : List Ev) (t : List UInt8), textS l = some t → t.length ≤ 28 * Rows.uptoBulkAll (l.map (evData (H := H)))
  | [], t, h => by cases h; exact Nat.zero_le _
  | e :: l, t, h => by
    unfold textS at h
    split at h
    · cases h
    · rename_i line he
      obtain ⟨u, hu, rfl⟩ := Option.map_eq_some_iff.1 h
      have h1 := text_small (H := H) l u hu
      have h2 := enc_small he
      have h3 := bulk_ev (H := H) e
      rw [List.map_cons, Rows.uptoBulkAll, List.length_append, List.length_cons, h3]
      unfold Ev.bulk at h2
      omega

theorem linesS_self {a : List UInt8} (h : ¬ (10 : UInt8) ∈ a) : linesS a = ([], a) := linesS_no h
/-- The text less its last byte: the last line stands open. -/
theorem text_open : ∀ (l : List Ev) (e : Ev) (t line : List UInt8), encS e = some line → textS (l ++ [e]) = some t → t ≠ [] ∧ (linesS t.dropLast).1.map decS = l ∧ (linesS t.dropLast).2 = line
  | [], e, t, line, he, h => by
    simp only [List.nil_append, textS, he, Option.map_some, Option.some.injEq] at h
    subst h
    refine ⟨by simp, ?_⟩
    rw [List.dropLast_concat, linesS_no (enc_nolf he)]
    exact ⟨rfl, rfl⟩
  | a :: l, e, t, line, he, h => by
    rw [List.cons_append] at h
    unfold textS at h
    split at h
    · cases h
    · rename_i la ha
      obtain ⟨u, hu, rfl⟩ := Option.map_eq_some_iff.1 h
      obtain ⟨i0, i1, i2⟩ := text_open l e u line he hu
      refine ⟨by simp, ?_⟩
      rw [show (la ++ 10 :: u).dropLast = la ++ 10 :: u.dropLast by
        obtain ⟨c, u', rfl⟩ : ∃ c u', u = c :: u' := by cases u with | nil => exact absurd rfl i0 | cons c u' => exact ⟨c, u', rfl⟩
        rw [List.dropLast_append_of_ne_nil (by simp)]; rfl]
      rw [linesS_line (enc_nolf ha)]
      exact ⟨by rw [List.map_cons, dec_enc ha, i1], i2⟩

end Go.Proofs.YtlgkdnmhoboinaaGreatDoor
