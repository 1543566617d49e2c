/-
  The walk of WireTotal.
  The document's way of reading a line, by plain functions.
  The document's cut; its numbers, ids and texts as they are read.
  The document's keeps.
-/
import Derived.Test.YtplolaondmeccaaGreatDoorWInv
import Derived.Test.YtplolaondmeccaaGreatDoorWSure
import Derived.Test.YtplolaondmeccaaGreatDoorRPure
import Derived.Test.YtplolaondmeccaaGreatDoorRNRf
import Derived.Test.YtplolaondmeccaaGreatDoorWRowD
import Derived.WalkKit
import Derived.Laws.StructEq
import Derived.OwnWalk
import Derived.RegionTactic
import Derived.Deep.RegionWith
import Derived.Deep.DrawnRows
import Derived.LoopTactic
namespace Go.Proofs.YtplolaondmeccaaGreatDoor
open Go.RowKit
set_option linter.unusedVariables false

/-- What a field reads is no longer than its text. -/
def Keep (F : FSpec) : Prop := ∀ t g e, F.read t = some g → t.length ≤ slim → e.Fits → (g e).Fits

theorem fits_set {e : Ev} (h : e.Fits) (f : NF) (n : Int) (h0 : 0 ≤ n) (h1 : n ≤ 4611686018427387904) : (f.set n e).Fits := by
  refine ⟨?_, ?_, ?_, ?_, fun f' => ?_⟩
  · cases f <;> exact h.name
  · cases f <;> exact h.text
  · cases f <;> exact h.layout
  · cases f <;> exact h.visible
  · by_cases hf : f' = f
    · subst hf
      rw [get_set]
      omega
    · rw [get_other f' f hf]
      exact h.num f'
theorem fits_text {e : Ev} (h : e.Fits) (u : List UInt8) (hu : u.length ≤ slim) : ({ e with text := str u } : Ev).Fits := ⟨h.name, by show (str u).size ≤ _; rw [str_size]; exact hu, h.layout, h.visible, fun f => by have := h.num f; cases f <;> exact this⟩
theorem fits_name {e : Ev} (h : e.Fits) (u : List UInt8) (hu : u.length ≤ slim) : ({ e with name := str u } : Ev).Fits := ⟨by show (str u).size ≤ _; rw [str_size]; exact hu, h.text, h.layout, h.visible, fun f => by have := h.num f; cases f <;> exact this⟩
theorem fits_zoom {e : Ev} (h : e.Fits) (z : Bool) : ({ e with zoom := z } : Ev).Fits := ⟨h.name, h.text, h.layout, h.visible, fun f => by have := h.num f; cases f <;> exact this⟩
theorem fits_plan {e : Ev} (h : e.Fits) (f : PF) (u : List UInt8) (hu : u.length ≤ slim) : (f.set (str u) e).Fits := by
  cases f
  · exact ⟨h.name, h.text, by show (str u).size ≤ _; rw [str_size]; exact hu, h.visible, fun f => by have := h.num f; cases f <;> exact this⟩
  · exact ⟨h.name, h.text, h.layout, by show (str u).size ≤ _; rw [str_size]; exact hu, fun f => by have := h.num f; cases f <;> exact this⟩
theorem zero_get (f : NF) (k : Int) : f.get (Ev.zero k) = 0 := by cases f <;> rfl
theorem fits_zero (k : Int) : (Ev.zero k).Fits := ⟨Nat.zero_le _, Nat.zero_le _, Nat.zero_le _, Nat.zero_le _, fun f => by rw [zero_get]; decide⟩

theorem escB_ge (u : List UInt8) : u.length ≤ (escB u).length := by
  cases u with
  | nil => simp [escB]
  | cons c u =>
    show _ ≤ (if c = 37 then code 37 ++ esc u else esc (c :: u)).length
    split
    · have := (esc_length u).1
      rw [List.length_append, code_length, List.length_cons]
      omega
    · exact (esc_length (c :: u)).1

theorem keep_num (m : Int) (f : NF) : Keep (fNum m f) := fun t g e h hl he => by obtain ⟨n, hn, _, rfl⟩ := read_num h; exact fits_set he f n hn.1.1 hn.1.2
theorem keep_id (c : UInt8) (f : NF) : Keep (fId c f) := fun t g e h hl he => by obtain ⟨n, ⟨r, _, hn, _⟩, rfl⟩ := read_id h; exact fits_set he f n hn.1.1 hn.1.2
theorem keep_name : Keep fName := fun t g e h hl he => by obtain ⟨_, rfl⟩ := read_name h; exact fits_name he t hl
theorem keep_word : Keep fWord := fun t g e h hl he => by obtain ⟨_, rfl⟩ := read_word h; exact fits_name he t hl
theorem keep_plan (f : PF) : Keep (fPlan f) := fun t g e h hl he => by obtain ⟨_, rfl⟩ := read_plan h; exact fits_plan he f t hl
theorem keep_zoom : Keep fZoom := fun t g e h hl he => by obtain ⟨z, _, rfl⟩ := read_zoom h; exact fits_zoom he z
theorem keep_colon : Keep fColon := fun t g e h hl he => by obtain ⟨_, rfl⟩ := read_colon h; exact he
theorem keep_esc (lo hi : Nat) : Keep (fEsc lo hi) := fun t g e h hl he => by
  obtain ⟨u, rfl, _, _, rfl⟩ := read_esc h
  exact fits_text he u (Nat.le_trans (esc_length u).1 hl)
theorem keep_body : Keep fBody := fun t g e h hl he => by
  obtain ⟨u, rfl, rfl⟩ := read_body h
  exact fits_text he u (Nat.le_trans (escB_ge u) hl)
theorem keep_reason : Keep fReason := fun t g e h hl he => by
  rcases read_reason h with ⟨_, rfl⟩ | ⟨r, rfl, hr⟩
  · exact he
  · exact keep_esc 1 1024 r g e hr (by simp at hl; omega) he
theorem keep_all (k : Nat) (h1 : 1 ≤ k) (h2 : k ≤ 24) : ∀ F ∈ fieldsOf k, Keep F := by
  rcases (show k = 1 ∨ k = 2 ∨ k = 3 ∨ k = 4 ∨ k = 5 ∨ k = 6 ∨ k = 7 ∨ k = 8 ∨ k = 9 ∨ k = 10 ∨ k = 11 ∨ k = 12 ∨ k = 13 ∨ k = 14 ∨ k = 15 ∨ k = 16 ∨ k = 17 ∨ k = 18 ∨ k = 19 ∨ k = 20 ∨ k = 21 ∨ k = 22 ∨ k = 23 ∨ k = 24 by omega) with rfl | rfl | rfl | rfl | rfl | rfl | rfl | rfl | rfl | rfl | rfl | rfl | rfl | rfl | rfl | rfl | rfl | rfl | rfl | rfl | rfl | rfl | rfl | rfl
  all_goals
    unfold fieldsOf
    intro F hF
    simp only [List.mem_cons, List.not_mem_nil, or_false] at hF
    rcases hF with rfl | rfl | rfl | rfl | rfl | rfl | rfl
  all_goals first | exact keep_num _ _ | exact keep_id _ _ | exact keep_name | exact keep_word | exact keep_plan _ | exact keep_zoom | exact keep_colon | exact keep_esc _ _ | exact keep_body | exact keep_reason
theorem readAll_fits : ∀ (fs : List FSpec) (ts : List (List UInt8)) (e0 e : Ev), (∀ F ∈ fs, Keep F) → (∀ t ∈ ts, t.length ≤ slim) → e0.Fits → readAll fs ts e0 = some e → e.Fits
  | [], [], e0, e, _, _, h0, h => by cases h; exact h0
  | [], t :: ts, e0, e, _, _, h0, h => by cases h
  | G :: fs, [], e0, e, _, _, h0, h => by cases h; exact h0
  | G :: fs, t :: ts, e0, e, hf, ht, h0, h => by
    obtain ⟨g, hg, h2⟩ := readAll_cons h
    exact readAll_fits fs ts (g e0) e (fun H hH => hf H (List.mem_cons_of_mem _ hH)) (fun t' h' => ht t' (List.mem_cons_of_mem _ h')) (hf G List.mem_cons_self t g e0 hg (ht t List.mem_cons_self) h0) h2
theorem decS_fits (l : List UInt8) (hl : l.length ≤ slim) : (decS l).Fits := by
  have hp := kindS_pos l
  have hb : (badEv l).Fits := fits_text (fits_zero 25) l hl
  by_cases h : kindS l = 25
  · unfold decS
    rw [if_pos h]
    exact hb
  · cases hr : readS (kindS l) l with
    | none =>
      unfold decS
      rw [if_neg h, hr]
      exact hb
    | some e =>
      have hd : decS l = e := by unfold decS; rw [if_neg h, hr]; rfl
      rw [hd]
      have hpre := readS_head hr
      unfold readS at hr
      rw [if_pos hpre] at hr
      have h' : (if (cutK ((fieldsOf (kindS l)).length - 1) (l.drop (headOf (kindS l)).length)).length < (fieldsOf (kindS l)).length then none else readAll (fieldsOf (kindS l)) (cutK ((fieldsOf (kindS l)).length - 1) (l.drop (headOf (kindS l)).length)) (Ev.zero (kindS l))) = some e := hr
      split at h'
      · cases h'
      · refine readAll_fits _ _ _ _ (keep_all _ hp.1 (by omega)) (fun t ht => ?_) (fits_zero _) h'
        have := cutK_le _ _ t ht
        rw [List.length_drop] at this
        omega

theorem class_bad : classK 25 = 0 := by decide
theorem class_good {k : Int} (h1 : 1 ≤ k) (h2 : k ≤ 24) : classK k ≠ 0 := by
  unfold classK
  rw [if_neg (by omega)]
  split
  · decide
  · split
    · decide
    · split
      · decide
      · split <;> decide

end Go.Proofs.YtplolaondmeccaaGreatDoor

namespace Go.Proofs.YtplolaondmeccaaGreatDoor
open Go.RowKit
set_option linter.unusedVariables false

def before (l : List UInt8) : List UInt8 := l.takeWhile (· != 32)
def behind (l : List UInt8) : List UInt8 := (l.dropWhile (· != 32)).drop 1

noncomputable def rdAll : List Ch → List UInt8 → Ev → Ev
  | [], _, e => e
  | [c], l, e => c.rd l e
  | c :: d :: cs, l, e => rdAll (d :: cs) (behind l) (c.rd (before l) e)

def Rd (F : FSpec) (c : Ch) : Prop := ∀ t g e, F.read t = some g → c.rd t e = g e

inductive Rds : List FSpec → List Ch → Prop
  | one (F c) : Rd F c → Rds [F] [c]
  | v : Rds [fColon, fEsc 0 1024] [.qv]
  | more (F c G fs d cs) : Rd F c → Rds (G :: fs) (d :: cs) → Rds (F :: G :: fs) (c :: d :: cs)

theorem before_join (a r : List UInt8) (h : ¬ (32 : UInt8) ∈ a) : before (a ++ 32 :: r) = a := by
  unfold before
  rw [List.takeWhile_append_of_pos (nb_all h)]
  simp
theorem behind_join (a r : List UInt8) (h : ¬ (32 : UInt8) ∈ a) : behind (a ++ 32 :: r) = r := by
  unfold behind
  rw [List.dropWhile_append_of_pos (nb_all h)]
  simp
theorem tw_self : ∀ a : List UInt8, ¬ (32 : UInt8) ∈ a → a.takeWhile (· != 32) = a ∧ a.dropWhile (· != 32) = []
  | [], _ => ⟨rfl, rfl⟩
  | c :: a, h => by
    have hc : (c != 32) = true := nb_all h c (by simp)
    obtain ⟨h1, h2⟩ := tw_self a (fun hm => h (List.mem_cons_of_mem _ hm))
    rw [List.takeWhile_cons_of_pos (p := (· != 32)) hc, List.dropWhile_cons_of_pos (p := (· != 32)) hc, h1, h2]
    exact ⟨rfl, rfl⟩
theorem before_all (a : List UInt8) (h : ¬ (32 : UInt8) ∈ a) : before a = a := (tw_self a h).1
theorem behind_all (a : List UInt8) (h : ¬ (32 : UInt8) ∈ a) : behind a = [] := by
  unfold behind
  rw [(tw_self a h).2]
  rfl
theorem apart (l : List UInt8) (h : (32 : UInt8) ∈ l) : l = before l ++ 32 :: behind l := by
  have := drop_split l h
  unfold before behind
  rw [← this, List.takeWhile_append_dropWhile]

theorem cutK_two {k : Nat} {l : List UInt8} (h : (cutK (k + 1) l).length ≠ 1) : (32 : UInt8) ∈ l ∧ cutK (k + 1) l = before l :: cutK k (behind l) := by
  have e : cutK (k + 1) l = if 32 ∈ l then before l :: cutK k (behind l) else [l] := rfl
  rw [e] at h ⊢
  by_cases hm : (32 : UInt8) ∈ l
  · rw [if_pos hm]
    exact ⟨hm, rfl⟩
  · rw [if_neg hm] at h
    exact absurd rfl h

theorem rdAll_ok {fs : List FSpec} {cs : List Ch} (h : Rds fs cs) : ∀ (l : List UInt8) (a e : Ev), (cutK (fs.length - 1) l).length = fs.length → readAll fs (cutK (fs.length - 1) l) a = some e → rdAll cs l a = e := by
  induction h with
  | one F c hF =>
    intro l a e _ h
    obtain ⟨g, h1, h2⟩ := readAll_cons (ts := []) (t := l) h
    cases h2
    exact hF l g a h1
  | v =>
    intro l a e hl h
    obtain ⟨hm, hc⟩ := cutK_two (k := 0) (l := l) (by rw [show (0 + 1) = 1 from rfl]; rw [show cutK 1 l = cutK ([fColon, fEsc 0 1024].length - 1) l from rfl, hl]; decide)
    have h' : readAll [fColon, fEsc 0 1024] (before l :: [behind l]) a = some e := by rw [← h]; exact congrArg (fun x => readAll _ x a) hc.symm
    obtain ⟨g, h1, h2⟩ := readAll_cons h'
    obtain ⟨h3, rfl⟩ := read_colon h1
    obtain ⟨g, h4, h5⟩ := readAll_cons (ts := []) (t := behind l) h2
    cases h5
    obtain ⟨u, h6, _, _, rfl⟩ := read_esc h4
    have h7 : l = [58, 32] ++ behind l := by
      have := apart l hm
      rw [h3] at this
      exact this
    show (if [58, 32] <+: l then { a with text := str ((unesc (l.drop 2)).getD []) } else a) = _
    rw [if_pos ⟨behind l, h7.symm⟩]
    have h8 : l.drop 2 = behind l := by rw [h7]; rfl
    rw [h8, unesc_some h6]
    rfl
  | more F c G fs d cs hF _ ih =>
    intro l a e hl h
    have hn : (F :: G :: fs).length - 1 = fs.length + 1 := by simp
    rw [hn] at hl h
    obtain ⟨hm, hc⟩ := cutK_two (k := fs.length) (l := l) (by rw [hl]; simp)
    rw [hc] at hl h
    obtain ⟨g, h1, h2⟩ := readAll_cons h
    show rdAll (d :: cs) (behind l) (c.rd (before l) a) = e
    rw [hF _ g a h1]
    exact ih (behind l) (g a) e (by simpa using hl) h2

theorem rd_num {m : Int} {f : NF} {c : Ch} (h : ∀ l e, c.rd l e = f.set ((numOf l).getD 0) e) : Rd (fNum m f) c := fun t g e hr => by
  obtain ⟨n, h1, _, rfl⟩ := read_num hr
  rw [h, numOf_some h1]
  rfl
theorem rd_id {q : UInt8} {f : NF} {c : Ch} (h : ∀ l e, c.rd l e = f.set ((idOf q l).getD 0) e) : Rd (fId q f) c := fun t g e hr => by
  obtain ⟨n, h1, rfl⟩ := read_id hr
  rw [h, idOf_some h1]
  rfl
theorem rd_name : Rd fName .qN := fun t g e hr => by obtain ⟨_, rfl⟩ := read_name hr; rfl
theorem rd_word : Rd fWord .qW := fun t g e hr => by obtain ⟨_, rfl⟩ := read_word hr; rfl
theorem rd_layout : Rd (fPlan .layout) .qP := fun t g e hr => by obtain ⟨_, rfl⟩ := read_plan hr; rfl
theorem rd_visible : Rd (fPlan .visible) .qV := fun t g e hr => by obtain ⟨_, rfl⟩ := read_plan hr; rfl
theorem rd_zoom : Rd fZoom .qz := fun t g e hr => by
  obtain ⟨z, rfl, rfl⟩ := read_zoom hr
  cases z <;> simp [Ch.rd]
theorem rd_esc {lo hi : Nat} {c : Ch} (h : ∀ l e, c.rd l e = { e with text := str ((unesc l).getD []) }) : Rd (fEsc lo hi) c := fun t g e hr => by
  obtain ⟨u, h1, _, _, rfl⟩ := read_esc hr
  rw [h, unesc_some h1]
  rfl

theorem rds_row (k : Nat) (h1 : 1 ≤ k) (h2 : k ≤ 23) (h4 : k ≠ 4) : Rds (fieldsOf k) (chs k) := by
  rcases (show k = 1 ∨ k = 2 ∨ k = 3 ∨ k = 5 ∨ k = 6 ∨ k = 7 ∨ k = 8 ∨ k = 9 ∨ k = 10 ∨ k = 11 ∨ k = 12 ∨ k = 13 ∨ k = 14 ∨ k = 15 ∨ k = 16 ∨ k = 17 ∨ k = 18 ∨ k = 19 ∨ k = 20 ∨ k = 21 ∨ k = 22 ∨ k = 23 by omega) with rfl | rfl | rfl | rfl | rfl | rfl | rfl | rfl | rfl | rfl | rfl | rfl | rfl | rfl | rfl | rfl | rfl | rfl | rfl | rfl | rfl | rfl
  all_goals unfold fieldsOf chs
  all_goals repeat' first
    | exact Rds.v
    | refine Rds.one _ _ ?_
    | refine Rds.more _ _ _ _ _ _ ?_ ?_
  all_goals first
    | exact rd_num (fun _ _ => rfl)
    | exact rd_id (fun _ _ => rfl)
    | exact rd_name
    | exact rd_word
    | exact rd_layout
    | exact rd_visible
    | exact rd_zoom
    | exact rd_esc (fun _ _ => rfl)

theorem words_tight : ∀ k, k < 25 → (wordOf k).all (· != 32) = true := by decide
theorem word_nb (k : Nat) (h : k ≤ 24) : ¬ (32 : UInt8) ∈ wordOf k := fun hm => by
  have := List.all_eq_true.1 (words_tight k (by omega)) _ hm
  exact absurd this (by decide)
theorem head_word : ∀ k, k < 24 → 1 ≤ k → k ≠ 4 → headOf k = wordOf k ++ [32] := by decide
theorem kAt_of (k : Nat) (h1 : 1 ≤ k) (h2 : k ≤ 24) (h4 : k ≠ 4) : ∃ i, i < 23 ∧ kAt i = k := by
  by_cases h : k < 4
  · exact ⟨k - 1, by omega, by unfold kAt; rw [if_pos (by omega)]; omega⟩
  · exact ⟨k - 2, by omega, by unfold kAt; rw [if_neg (by omega)]; omega⟩
theorem kAt_in {i : Nat} (h : i < 23) : 1 ≤ kAt i ∧ kAt i ≤ 24 ∧ kAt i ≠ 4 := by unfold kAt; split <;> omega

/-- A line that is one is found in the table. -/
theorem dec_found (l : List UInt8) (hp : [37] <+: l) (hg : decS l ≠ badEv l) :
    ∃ i, i < 23 ∧ wordOf (kAt i) = before l ∧ encS (rdAll (chs (kAt i)) (behind l) (Ev.zero (kAt i : Nat))) = some l := by
  have henc := (enc_dec l).resolve_left hg
  have hk := kindS_pos l
  obtain ⟨k, hkk⟩ : ∃ k, kindS l = k := ⟨_, rfl⟩
  by_cases h25 : kindS l = 25
  · exact absurd (by unfold decS; rw [if_pos h25]; rfl) hg
  cases hr : readS (kindS l) l with
  | none => exact absurd (by unfold decS; rw [if_neg h25, hr]; rfl) hg
  | some e =>
    have hd : decS l = e := by unfold decS; rw [if_neg h25, hr]; rfl
    rw [hd] at henc
    rw [hkk] at hr h25 hk
    have h4 : k ≠ 4 := by
      rintro rfl
      obtain ⟨t, ht, _⟩ := readS_body hr
      exact escB_head t (ht ▸ hp)
    obtain ⟨i, hi, hik⟩ := kAt_of k hk.1 (by omega) h4
    refine ⟨i, hi, ?_⟩
    rw [hik]
    have hh := readS_head hr
    obtain ⟨r, hl⟩ := hh
    have hs := hr
    unfold readS at hs
    rw [if_pos ⟨r, hl⟩] at hs
    have hs' : (if (cutK ((fieldsOf k).length - 1) (l.drop (headOf k).length)).length < (fieldsOf k).length then none else readAll (fieldsOf k) (cutK ((fieldsOf k).length - 1) (l.drop (headOf k).length)) (Ev.zero k)) = some e := hs
    split at hs'
    · cases hs'
    · rename_i hlen
      have hle := cutK_length ((fieldsOf k).length - 1) (l.drop (headOf k).length)
      have hfl := (fields_len k hk.1 (by omega)).1
      have hdr : l.drop (headOf k).length = r := by rw [← hl, List.drop_left]
      rw [hdr] at hs' hlen hle
      by_cases h24 : k = 24
      · subst h24
        obtain ⟨g, g1, g2⟩ := readAll_cons (F := fReason) (fs := []) (t := r) (ts := []) hs'
        cases g2
        rcases read_reason g1 with ⟨rfl, rfl⟩ | ⟨q, rfl, g3⟩
        · have hw : l = wordOf 24 := by rw [← hl, List.append_nil]; rfl
          refine ⟨by rw [hw, before_all _ (word_nb 24 (by decide))], ?_⟩
          rw [hw, behind_all _ (word_nb 24 (by decide)), ← hw]
          have hu : rdAll (chs 24) [] (Ev.zero (24 : Nat)) = id (Ev.zero (24 : Nat)) := by
            show ({ Ev.zero (24 : Nat) with text := str ((unesc []).getD []) } : Ev) = Ev.zero (24 : Nat)
            rw [unesc_some (show esc [] = [] from rfl)]
            rfl
          rw [hu]
          exact henc.1
        · have hw : l = wordOf 24 ++ 32 :: q := by rw [← hl]; rfl
          rw [hw, before_join _ _ (word_nb 24 (by decide)), behind_join _ _ (word_nb 24 (by decide)), ← hw]
          refine ⟨rfl, ?_⟩
          have hu : rdAll (chs 24) q (Ev.zero (24 : Nat)) = g (Ev.zero (24 : Nat)) := rd_esc (lo := 1) (hi := 1024) (c := .qx) (fun _ _ => rfl) q g _ g3
          rw [hu]
          exact henc.1
      · have hw : l = wordOf k ++ 32 :: r := by
          rw [← hl, head_word k (by omega) hk.1 h4, List.append_assoc]
          rfl
        rw [hw, before_join _ _ (word_nb k (by omega)), behind_join _ _ (word_nb k (by omega)), ← hw]
        refine ⟨rfl, ?_⟩
        rw [rdAll_ok (rds_row k hk.1 (by omega) h4) r _ e (by omega) hs']
        exact henc.1

theorem rd_fits (c : Ch) (l : List UInt8) (hl : l.length ≤ slim) (e : Ev) (he : e.Fits) : (c.rd l e).Fits := by
  have hn : ∀ f : NF, (f.set ((numOf l).getD 0) e).Fits := fun f => by
    cases h : numOf l with
    | none => exact fits_set he f 0 (by decide) (by decide)
    | some n => exact fits_set he f n (of_numOf h).1.1 (of_numOf h).1.2
  have hi : ∀ (q : UInt8) (f : NF), (f.set ((idOf q l).getD 0) e).Fits := fun q f => by
    cases h : idOf q l with
    | none => exact fits_set he f 0 (by decide) (by decide)
    | some n => obtain ⟨r, _, h2, _⟩ := of_idOf h; exact fits_set he f n h2.1.1 h2.1.2
  have ht : ∀ m : List UInt8, m.length ≤ slim → ({ e with text := str ((unesc m).getD []) } : Ev).Fits := fun m hm => by
    cases h : unesc m with
    | none => exact fits_text he [] (Nat.zero_le _)
    | some u =>
      have := of_unesc h
      have h3 := (esc_length u).1
      rw [this] at h3
      exact fits_text he u (Nat.le_trans h3 hm)
  cases c with
  | qt => exact hn .tick
  | qn => exact hn .number
  | qf => exact hn .flag
  | qo => exact hn .offset
  | qi => exact hn .index
  | qs => exact hi 36 .session
  | qw => exact hi 64 .window
  | qp => exact hi 37 .pane
  | qN => exact fits_name he l hl
  | qW => exact fits_name he l hl
  | qP => exact fits_plan he .layout l hl
  | qV => exact fits_plan he .visible l hl
  | qz => exact fits_zoom he _
  | qd => exact ht l hl
  | qm => exact ht l hl
  | qx => exact ht l hl
  | qc => exact he
  | qv =>
    show (if [58, 32] <+: l then ({ e with text := str ((unesc (l.drop 2)).getD []) } : Ev) else e).Fits
    split
    · exact ht _ (by rw [List.length_drop]; omega)
    · exact he

theorem before_len (l : List UInt8) : (before l).length ≤ l.length := by
  have := congrArg List.length (List.takeWhile_append_dropWhile (p := (· != (32 : UInt8))) (l := l))
  rw [List.length_append] at this
  unfold before
  omega
theorem behind_len (l : List UInt8) : (behind l).length ≤ l.length := by
  have := congrArg List.length (List.takeWhile_append_dropWhile (p := (· != (32 : UInt8))) (l := l))
  rw [List.length_append] at this
  unfold behind
  rw [List.length_drop]
  omega

end Go.Proofs.YtplolaondmeccaaGreatDoor

namespace Go.Proofs.YtplolaondmeccaaGreatDoor
open Go.RowKit
set_option linter.unusedVariables false
set_option maxRecDepth 20000

theorem cut_at (l : List UInt8) (k : Nat) (hk : k < l.length) (hno : ∀ j (hj : j < l.length), j < k → l[j] ≠ 32) (he : l[k] = 32) : before l = l.take k ∧ behind l = l.drop (k + 1) := by
  have hl : l = l.take k ++ 32 :: l.drop (k + 1) := by
    have := List.take_append_drop k l
    rw [List.drop_eq_getElem_cons hk, he] at this
    exact this.symm
  have hn : ¬ (32 : UInt8) ∈ l.take k := fun hm => by
    obtain ⟨j, hj, e⟩ := List.getElem_of_mem hm
    rw [List.length_take] at hj
    rw [List.getElem_take] at e
    exact hno j (by omega) (by omega) e
  have h1 := before_join (l.take k) (l.drop (k + 1)) hn
  have h2 := behind_join (l.take k) (l.drop (k + 1)) hn
  rw [← hl] at h1 h2
  exact ⟨h1, h2⟩

theorem data_at (s : ByteArray) (k : Nat) (h : k < s.size) : s.data.toList[k]'(by rw [size_data]; exact h) = s[k] := rfl

/-- What cut answers. -/
def CutPost (l : List UInt8) (w : World) (e : Ending) (w' : World) : Prop := (∃ b, e = .returned (.tuple #[.string (str (before l)), .string (str (behind l)), .bool b])) ∧ Below w.heap.size w w'

theorem refCut_any (s : ByteArray) (hs : s.size ≤ 140737488355328) (w : World) :
    Calls Tryz.prog 64 #[.string s] w (CutPost s.data.toList w) := by
  go_enter Tryz.func64, Tryz.ntmps64
  go_wp2
  go_loop [5] (fun i => ∃ k : Nat, k ≤ s.size ∧ i = .int .i64 k ∧ Hid (∀ j (hj : j < s.size), j < k → s[j] ≠ 32)) (fun i => s.size - (intOf i).toNat)
  case atStart => exact ⟨0, Nat.zero_le _, rfl, fun j _ h => by omega⟩
  case round =>
    obtain ⟨k, hk, rfl, HN⟩ := hrel
    by_cases hlt : k < s.size
    · by_cases he : ((s[k].toNat : Int) == 32) = true
      · have hb : s[k] = 32 := UInt8.toNat_inj.1 (by have := eq_of_beq he; show s[k].toNat = 32; omega)
        have HC : Hid (before s.data.toList = s.data.toList.take k ∧ behind s.data.toList = s.data.toList.drop (k + 1)) :=
          cut_at s.data.toList k (by rw [size_data]; exact hlt) (fun j hj h => HN.out j (by rw [← size_data]; exact hj) h) hb
        have H1 : Hid (s.extract 0 k = str (before s.data.toList)) := by
          show _ = _
          rw [HC.out.1]
          rw [← strBack (s.extract 0 k), Lib.extract_from_zero]
        have H2 : Hid (s.extract (k + 1) s.size = str (behind s.data.toList)) := by
          show _ = _
          rw [HC.out.2]
          rw [← strBack (s.extract (k + 1) s.size), Lib.extract_to_end]
        have hk1 : ((k : Int) + 1).toNat = k + 1 := by omega
        have hk2 : (k : Int) + 1 ≤ (s.size : Int) := by omega
        clear hb HN HC
        go_wp2_with fail
        go_region
        all_goals go_wp2
        all_goals go_ret3
        all_goals
          refine ⟨⟨true, ?_⟩, (Below.refl _ _).drew⟩
          rw [← H1.out, ← H2.out]
          rfl
      · have he' : ((s[k].toNat : Int) == 32) = false := by simpa using he
        have HE : Hid (s[k] ≠ 32) := fun h => by rw [h] at he'; exact absurd he' (by decide)
        clear he
        go_wp2
        go_round
        case rel =>
          refine ⟨k + 1, by omega, by go_num, fun j hj h => ?_⟩
          by_cases hjk : j = k
          · subst hjk; exact HE.out
          · exact HN.out j hj (by omega)
        case measure => simp [intOf]; omega
    · have hn : ¬ (32 : UInt8) ∈ s.data.toList := fun hm => by
        obtain ⟨j, hj, e⟩ := List.getElem_of_mem hm
        rw [size_data] at hj
        exact HN.out j hj (by omega) e
      have H1 : Hid (s = str (before s.data.toList)) := by
        show _ = _
        rw [before_all _ hn]
        rfl
      have H2 : Hid (behind s.data.toList = []) := behind_all _ hn
      clear hn HN
      go_wp2
      go_ret3
      refine ⟨⟨false, ?_⟩, Below.refl _ _⟩
      rw [← H1.out, H2.out]
      rfl

theorem number_get (s : ByteArray) (hs : s.size ≤ 140737488355328) (w : World) :
    Calls Tryz.prog 110 #[.string s] w fun e w' => (∃ b, e = .returned (.tuple #[.int .i64 ((numOf s.data.toList).getD 0), .bool b])) ∧ Below w.heap.size w w' := by
  refine (refNumber_any s w hs).mono ?_
  rintro e w' ⟨⟨n, rfl, hn⟩ | ⟨rfl, hn⟩, hb⟩
  · exact ⟨⟨true, by rw [numOf_some hn]; rfl⟩, hb⟩
  · exact ⟨⟨false, by rw [numOf_none hn]; rfl⟩, hb⟩
theorem id_get (c : UInt8) (s : ByteArray) (hs : s.size ≤ 140737488355328) (w : World) :
    Calls Tryz.prog 111 #[.int .u8 c.toNat, .string s] w fun e w' => (∃ b, e = .returned (.tuple #[.int .i64 ((idOf c s.data.toList).getD 0), .bool b])) ∧ Below w.heap.size w w' := by
  refine (refId_any c s w hs).mono ?_
  rintro e w' ⟨⟨n, rfl, hn⟩ | ⟨rfl, hn⟩, hb⟩
  · exact ⟨⟨true, by rw [idOf_some hn]; rfl⟩, hb⟩
  · exact ⟨⟨false, by rw [idOf_none hn]; rfl⟩, hb⟩
theorem unesc_get (s : ByteArray) (hs : s.size ≤ 1048576) (w : World) :
    Calls Tryz.prog 67 #[.string s] w fun e w' => (∃ n, e = .returned (.tuple #[.string (str ((unesc s.data.toList).getD [])), .int .i64 n])) ∧ Below w.heap.size w w' := by
  refine (refUnescape_any s w (by omega)).mono ?_
  rintro e w' ⟨⟨t, rfl, ht⟩ | ⟨rfl, ht⟩, hb⟩
  · exact ⟨⟨0, by rw [unesc_some ht]; rfl⟩, hb⟩
  · exact ⟨⟨10, by rw [unesc_none ht]; rfl⟩, hb⟩

end Go.Proofs.YtplolaondmeccaaGreatDoor

namespace Go.Proofs.YtplolaondmeccaaGreatDoor
open Go.RowKit
set_option linter.unusedVariables false
set_option maxRecDepth 20000

theorem keepC_snoc : ∀ (cs : List Ch) (c : Ch) (e a : Ev), keepC (cs ++ [c]) e a = c.K e (keepC cs e a)
  | [], _, _, _ => rfl
  | d :: cs, c, e, a => keepC_snoc cs c e (d.K e a)
theorem take_more {α : Type} {l : List α} {i : Nat} {a : α} (h : l[i]? = some a) : l.take (i + 1) = l.take i ++ [a] := by
  rw [List.take_add_one, h]
  rfl
def partsOf (cs : List Ch) : ByteArray := str (cs.map Ch.byte)
theorem partsOf_size (cs : List Ch) : (partsOf cs).size = cs.length := by unfold partsOf; rw [str_size, List.length_map]
theorem index_part (cs : List Ch) (k : Nat) (c : Ch) (h : cs[k]? = some c) (W : World) : (Instr.index 9 (.string (partsOf cs)) (.int .i64 (k : Int))).run Tryz.prog W = .ok (.int .u8 (c.byte.toNat : Int)) W := by
  obtain ⟨hk, hc⟩ := List.getElem?_eq_some_iff.1 h
  rw [run_index_string W 9 _ .i64 _ Tryz.underlying9]
  have hs : k < (partsOf cs).size := by rw [partsOf_size]; exact hk
  rw [dif_pos (show 0 ≤ (k : Int) ∧ (k : Int) < (partsOf cs).size by omega)]
  have e : (k : Int).toNat = k := by omega
  have hv : (partsOf cs)[k] = c.byte := by
    have h1 : (partsOf cs).data.toList = cs.map Ch.byte := str_data _
    have h2 : (partsOf cs).data.toList[k]? = some c.byte := by rw [h1, List.getElem?_map, h]; rfl
    obtain ⟨h3, h4⟩ := List.getElem?_eq_some_iff.1 h2
    exact h4
  simp only [e, hv]

structure KeepAt (w wr : World) (ev k : Ev) : Prop where
  e : EvAt wr w.heap.size ev
  r : EvAt wr (w.heap.size + 1) (Ev.zero 0)
  k : EvAt wr (w.heap.size + 1 + 1) k
  b : Below w.heap.size w wr
theorem KeepAt.set {w wr : World} {ev k k' : Ev} (h : KeepAt w wr ev k) (o : Nat) (v : Value) (hv : k.vals.setIfInBounds o v = k'.vals) : KeepAt w (wr.setCell ⟨w.heap.size + 1 + 1, o, none⟩ v) ev k' :=
  ⟨h.e.grown (grownBy_setCell _ _ _ _) (by simp only [ne_eq, Option.some.injEq]; omega), h.r.grown (grownBy_setCell _ _ _ _) (by simp only [ne_eq, Option.some.injEq]; omega), h.k.set o v hv, h.b.setCell (show w.heap.size ≤ w.heap.size + 1 + 1 by omega) _⟩
theorem KeepAt.start (w : World) (ev : Ev) : KeepAt w (((w.alloc (.cells ev.vals 27)).alloc (.cells (Ev.zero 0).vals 27)).alloc (.cells (Ev.zero ev.kind).vals 27)) ev (Ev.zero ev.kind) := by
  have s1 : (w.alloc (.cells ev.vals 27)).heap.size = w.heap.size + 1 := by simp
  have s2 : ((w.alloc (.cells ev.vals 27)).alloc (.cells (Ev.zero 0).vals 27)).heap.size = w.heap.size + 1 + 1 := by simp
  refine ⟨((EvAt.new w ev).alloc _).alloc _, ?_, ?_, ?_⟩
  · rw [← s1]; exact (EvAt.new _ (Ev.zero 0)).alloc _
  · rw [← s2]; exact EvAt.new _ _
  · exact (((Below.refl _ _).alloc (Nat.le_refl _) _).alloc (by rw [s1]; omega) _).alloc (by rw [s2]; omega) _

set_option maxHeartbeats 4000000 in
theorem keeps_any (ev : Ev) (cs : List Ch) (hcs : ∀ c ∈ cs, c ≠ .qc) (hlen : cs.length ≤ 100) (w : World) :
    Calls Tryz.prog 149 #[.agg ev.vals, .string (partsOf cs)] w fun e w' => e = .returned (.agg (keepC cs ev (Ev.zero ev.kind)).vals) ∧ Below w.heap.size w w' := by
  have HK : Hid (KeepAt w (((w.alloc (.cells ev.vals 27)).alloc (.cells (Ev.zero 0).vals 27)).alloc (.cells (Ev.zero ev.kind).vals 27)) ev (Ev.zero ev.kind)) := KeepAt.start w ev
  have HC : Hid (∀ c ∈ cs, c ≠ .qc) := hcs
  have HI : Hid (∀ (k : Nat) (c : Ch), cs[k]? = some c → ∀ W : World, (Instr.index 9 (.string (partsOf cs)) (.int .i64 (k : Int))).run Tryz.prog W = .ok (.int .u8 (c.byte.toNat : Int)) W) := index_part cs
  have hsz := partsOf_size cs
  obtain ⟨S, hS⟩ : ∃ S, partsOf cs = S := ⟨_, rfl⟩
  rw [hS] at HI hsz ⊢
  obtain ⟨m, hm⟩ : ∃ m, cs.length = m := ⟨_, rfl⟩
  have HM : Hid (cs.length = m) := hm
  rw [hm] at hsz hlen
  obtain ⟨fin, hfin⟩ : ∃ x, keepC cs ev (Ev.zero ev.kind) = x := ⟨_, rfl⟩
  rw [hfin]
  have HF : Hid (keepC cs ev (Ev.zero ev.kind) = fin) := hfin
  clear hS hm hcs hfin
  unfold Ev.vals Ev.zero at HK
  unfold Ev.vals
  go_enter Tryz.func149, Tryz.ntmps149
  go_wp2
  go_loopw [6] (fun v wr => ∃ i : Nat, i ≤ m ∧ v = .int .i64 i ∧ KeepAt w wr ev (keepC (cs.take i) ev (Ev.zero ev.kind))) (fun v _ => m - (intOf v).toNat)
  case atStart => exact ⟨0, Nat.zero_le _, rfl, HK.out⟩
  case round =>
    obtain ⟨i, hi, rfl, hka⟩ := hrel
    have HA : Hid (KeepAt w wr ev (keepC (cs.take i) ev (Ev.zero ev.kind))) := hka
    clear hka HK
    by_cases hlt : i < m
    · obtain ⟨c, hc⟩ : ∃ c, cs[i]? = some c := ⟨_, List.getElem?_eq_getElem (by rw [HM.out]; exact hlt)⟩
      have HX := HI.out i c hc
      have hnc : c ≠ .qc := HC.out c (List.mem_of_getElem? hc)
      have HT : Hid (keepC (cs.take (i + 1)) ev (Ev.zero ev.kind) = c.K ev (keepC (cs.take i) ev (Ev.zero ev.kind))) := by
        show _ = _
        rw [take_more hc, keepC_snoc]
      obtain ⟨kk, hkk⟩ : ∃ kk, keepC (cs.take i) ev (Ev.zero ev.kind) = kk := ⟨_, rfl⟩
      rw [hkk] at HA HT
      obtain ⟨p0, p1, p2, p3, p4, p5, p6, p7, p8, p9, p10, p11, p12, p13⟩ := HA.out.e.cells
      obtain ⟨f0, f1, f2, f3, f4, f5, f6, f7, f8, f9, f10, f11, f12, f13⟩ := HA.out.k.frees
      obtain ⟨q0, q1, q2, q3, q4, q5, q6, q7, q8, q9, q10, q11, q12, q13⟩ := HA.out.k.cells
      clear HI HC hkk hc
      cases c with
      | qc => exact absurd rfl hnc
      | _ =>
        clear hnc
        dsimp only [Ch.byte] at HX
        go_wp2
        go_roundw
        case rel =>
          refine ⟨i + 1, by omega, by go_num, ?_⟩
          rw [HT.out]
          exact HA.out.set _ _ rfl
        case measure => simp [intOf]; omega
    · have he : cs.take i = cs := List.take_of_length_le (by rw [HM.out]; omega)
      rw [he, HF.out] at HA
      obtain ⟨q0, q1, q2, q3, q4, q5, q6, q7, q8, q9, q10, q11, q12, q13⟩ := HA.out.k.cells
      obtain ⟨r0, r1, r2, r3, r4, r5, r6, r7, r8, r9, r10, r11, r12, r13⟩ := HA.out.r.zcells
      obtain ⟨f0, f1, f2, f3, f4, f5, f6, f7, f8, f9, f10, f11, f12, f13⟩ := HA.out.r.frees
      clear HI HC he
      go_wp2
      refine bodyPost_ret (v := .agg #[.int .i64 fin.kind, .int .i64 fin.session, .int .i64 fin.window, .int .i64 fin.pane, .int .i64 fin.index, .int .i64 fin.offset, .int .i64 fin.tick, .int .i64 fin.number, .int .i64 fin.flag, .string fin.name, .string fin.text, .string fin.layout, .string fin.visible, .bool fin.zoom]) (by simp [results, Tryz.results149, go_sem, r0, r1, r2, r3, r4, r5, r6, r7, r8, r9, r10, r11, r12, r13]) rfl ?_
      exact ⟨rfl, below14 HA.out.b (by omega) _ _ _ _ _ _ _ _ _ _ _ _ _ _⟩

end Go.Proofs.YtplolaondmeccaaGreatDoor
