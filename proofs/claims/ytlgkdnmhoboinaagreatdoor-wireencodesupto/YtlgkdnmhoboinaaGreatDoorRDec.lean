/-
  The document's way of reading a line, by plain functions.
-/
import Derived.Test.YtlgkdnmhoboinaaGreatDoorRTab
import Derived.Test.YtlgkdnmhoboinaaGreatDoorWTotalW
namespace Go.Proofs.YtlgkdnmhoboinaaGreatDoor
open Go.RowKit
set_option linter.unusedVariables false

def before (l : List UInt8) : List UInt8 := l.takeWhile (· != 32)
def behind (l : List UInt8) : List UInt8 := (l.dropWhile (· != 32)).drop 1

noncomputable def rdAll : List Ch → List UInt8 → Ev → Ev
  | [], _, e => e
  | [c], l, e => c.rd l e
  | c :: d :: cs, l, e => rdAll (d :: cs) (behind l) (c.rd (before l) e)

def Rd (F : FSpec) (c : Ch) : Prop := ∀ t g e, F.read t = some g → c.rd t e = g e

inductive Rds : List FSpec → List Ch → Prop
  | one (F c) : Rd F c → Rds [F] [c]
  | v : Rds [fColon, fEsc 0 1024] [.qv]
  | more (F c G fs d cs) : Rd F c → Rds (G :: fs) (d :: cs) → Rds (F :: G :: fs) (c :: d :: cs)

theorem before_join (a r : List UInt8) (h : ¬ (32 : UInt8) ∈ a) : before (a ++ 32 :: r) = a := by
  unfold before
  rw [List.takeWhile_append_of_pos (nb_all h)]
  simp
theorem behind_join (a r : List UInt8) (h : ¬ (32 : UInt8) ∈ a) : behind (a ++ 32 :: r) = r := by
  unfold behind
  rw [List.dropWhile_append_of_pos (nb_all h)]
  simp
theorem tw_self : ∀ a : List UInt8, ¬ (32 : UInt8) ∈ a → a.takeWhile (· != 32) = a ∧ a.dropWhile (· != 32) = []
  | [], _ => ⟨rfl, rfl⟩
  | c :: a, h => by
    have hc : (c != 32) = true := nb_all h c (by simp)
    obtain ⟨h1, h2⟩ := tw_self a (fun hm => h (List.mem_cons_of_mem _ hm))
    rw [List.takeWhile_cons_of_pos (p := (· != 32)) hc, List.dropWhile_cons_of_pos (p := (· != 32)) hc, h1, h2]
    exact ⟨rfl, rfl⟩
theorem before_all (a : List UInt8) (h : ¬ (32 : UInt8) ∈ a) : before a = a := (tw_self a h).1
theorem behind_all (a : List UInt8) (h : ¬ (32 : UInt8) ∈ a) : behind a = [] := by
  unfold behind
  rw [(tw_self a h).2]
  rfl
theorem apart (l : List UInt8) (h : (32 : UInt8) ∈ l) : l = before l ++ 32 :: behind l := by
  have := drop_split l h
  unfold before behind
  rw [← this, List.takeWhile_append_dropWhile]

theorem cutK_two {k : Nat} {l : List UInt8} (h : (cutK (k + 1) l).length ≠ 1) : (32 : UInt8) ∈ l ∧ cutK (k + 1) l = before l :: cutK k (behind l) := by
  have e : cutK (k + 1) l = if 32 ∈ l then before l :: cutK k (behind l) else [l] := rfl
  rw [e] at h ⊢
  by_cases hm : (32 : UInt8) ∈ l
  · rw [if_pos hm]
    exact ⟨hm, rfl⟩
  · rw [if_neg hm] at h
    exact absurd rfl h

theorem rdAll_ok {fs : List FSpec} {cs : List Ch} (h : Rds fs cs) : ∀ (l : List UInt8) (a e : Ev), (cutK (fs.length - 1) l).length = fs.length → readAll fs (cutK (fs.length - 1) l) a = some e → rdAll cs l a = e := by
  induction h with
  | one F c hF =>
    intro l a e _ h
    obtain ⟨g, h1, h2⟩ := readAll_cons (ts := []) (t := l) h
    cases h2
    exact hF l g a h1
  | v =>
    intro l a e hl h
    obtain ⟨hm, hc⟩ := cutK_two (k := 0) (l := l) (by rw [show (0 + 1) = 1 from rfl]; rw [show cutK 1 l = cutK ([fColon, fEsc 0 1024].length - 1) l from rfl, hl]; decide)
    have h' : readAll [fColon, fEsc 0 1024] (before l :: [behind l]) a = some e := by rw [← h]; exact congrArg (fun x => readAll _ x a) hc.symm
    obtain ⟨g, h1, h2⟩ := readAll_cons h'
    obtain ⟨h3, rfl⟩ := read_colon h1
    obtain ⟨g, h4, h5⟩ := readAll_cons (ts := []) (t := behind l) h2
    cases h5
    obtain ⟨u, h6, _, _, rfl⟩ := read_esc h4
    have h7 : l = [58, 32] ++ behind l := by
      have := apart l hm
      rw [h3] at this
      exact this
    show (if [58, 32] <+: l then { a with text := str ((unesc (l.drop 2)).getD []) } else a) = _
    rw [if_pos ⟨behind l, h7.symm⟩]
    have h8 : l.drop 2 = behind l := by rw [h7]; rfl
    rw [h8, unesc_some h6]
    rfl
  | more F c G fs d cs hF _ ih =>
    intro l a e hl h
    have hn : (F :: G :: fs).length - 1 = fs.length + 1 := by simp
    rw [hn] at hl h
    obtain ⟨hm, hc⟩ := cutK_two (k := fs.length) (l := l) (by rw [hl]; simp)
    rw [hc] at hl h
    obtain ⟨g, h1, h2⟩ := readAll_cons h
    show rdAll (d :: cs) (behind l) (c.rd (before l) a) = e
    rw [hF _ g a h1]
    exact ih (behind l) (g a) e (by simpa using hl) h2

theorem rd_num {m : Int} {f : NF} {c : Ch} (h : ∀ l e, c.rd l e = f.set ((numOf l).getD 0) e) : Rd (fNum m f) c := fun t g e hr => by
  obtain ⟨n, h1, _, rfl⟩ := read_num hr
  rw [h, numOf_some h1]
  rfl
theorem rd_id {q : UInt8} {f : NF} {c : Ch} (h : ∀ l e, c.rd l e = f.set ((idOf q l).getD 0) e) : Rd (fId q f) c := fun t g e hr => by
  obtain ⟨n, h1, rfl⟩ := read_id hr
  rw [h, idOf_some h1]
  rfl
theorem rd_name : Rd fName .qN := fun t g e hr => by obtain ⟨_, rfl⟩ := read_name hr; rfl
theorem rd_word : Rd fWord .qW := fun t g e hr => by obtain ⟨_, rfl⟩ := read_word hr; rfl
theorem rd_layout : Rd (fPlan .layout) .qP := fun t g e hr => by obtain ⟨_, rfl⟩ := read_plan hr; rfl
theorem rd_visible : Rd (fPlan .visible) .qV := fun t g e hr => by obtain ⟨_, rfl⟩ := read_plan hr; rfl
theorem rd_zoom : Rd fZoom .qz := fun t g e hr => by
  obtain ⟨z, rfl, rfl⟩ := read_zoom hr
  cases z <;> simp [Ch.rd]
theorem rd_esc {lo hi : Nat} {c : Ch} (h : ∀ l e, c.rd l e = { e with text := str ((unesc l).getD []) }) : Rd (fEsc lo hi) c := fun t g e hr => by
  obtain ⟨u, h1, _, _, rfl⟩ := read_esc hr
  rw [h, unesc_some h1]
  rfl

theorem rds_row (k : Nat) (h1 : 1 ≤ k) (h2 : k ≤ 23) (h4 : k ≠ 4) : Rds (fieldsOf k) (chs k) := by
  rcases (show k = 1 ∨ k = 2 ∨ k = 3 ∨ k = 5 ∨ k = 6 ∨ k = 7 ∨ k = 8 ∨ k = 9 ∨ k = 10 ∨ k = 11 ∨ k = 12 ∨ k = 13 ∨ k = 14 ∨ k = 15 ∨ k = 16 ∨ k = 17 ∨ k = 18 ∨ k = 19 ∨ k = 20 ∨ k = 21 ∨ k = 22 ∨ k = 23 by omega) with rfl | rfl | rfl | rfl | rfl | rfl | rfl | rfl | rfl | rfl | rfl | rfl | rfl | rfl | rfl | rfl | rfl | rfl | rfl | rfl | rfl | rfl
  all_goals unfold fieldsOf chs
  all_goals repeat' first
    | exact Rds.v
    | refine Rds.one _ _ ?_
    | refine Rds.more _ _ _ _ _ _ ?_ ?_
  all_goals first
    | exact rd_num (fun _ _ => rfl)
    | exact rd_id (fun _ _ => rfl)
    | exact rd_name
    | exact rd_word
    | exact rd_layout
    | exact rd_visible
    | exact rd_zoom
    | exact rd_esc (fun _ _ => rfl)

theorem words_tight : ∀ k, k < 25 → (wordOf k).all (· != 32) = true := by decide
theorem word_nb (k : Nat) (h : k ≤ 24) : ¬ (32 : UInt8) ∈ wordOf k := fun hm => by
  have := List.all_eq_true.1 (words_tight k (by omega)) _ hm
  exact absurd this (by decide)
theorem head_word : ∀ k, k < 24 → 1 ≤ k → k ≠ 4 → headOf k = wordOf k ++ [32] := by decide
theorem kAt_of (k : Nat) (h1 : 1 ≤ k) (h2 : k ≤ 24) (h4 : k ≠ 4) : ∃ i, i < 23 ∧ kAt i = k := by
  by_cases h : k < 4
  · exact ⟨k - 1, by omega, by unfold kAt; rw [if_pos (by omega)]; omega⟩
  · exact ⟨k - 2, by omega, by unfold kAt; rw [if_neg (by omega)]; omega⟩
theorem kAt_in {i : Nat} (h : i < 23) : 1 ≤ kAt i ∧ kAt i ≤ 24 ∧ kAt i ≠ 4 := by unfold kAt; split <;> omega

/-- A line that is one is found in the table. -/
theorem dec_found (l : List UInt8) (hp : [37] <+: l) (hg : decS l ≠ badEv l) :
    ∃ i, i < 23 ∧ wordOf (kAt i) = before l ∧ encS (rdAll (chs (kAt i)) (behind l) (Ev.zero (kAt i : Nat))) = some l := by
  have henc := (enc_dec l).resolve_left hg
  have hk := kindS_pos l
  obtain ⟨k, hkk⟩ : ∃ k, kindS l = k := ⟨_, rfl⟩
  by_cases h25 : kindS l = 25
  · exact absurd (by unfold decS; rw [if_pos h25]; rfl) hg
  cases hr : readS (kindS l) l with
  | none => exact absurd (by unfold decS; rw [if_neg h25, hr]; rfl) hg
  | some e =>
    have hd : decS l = e := by unfold decS; rw [if_neg h25, hr]; rfl
    rw [hd] at henc
    rw [hkk] at hr h25 hk
    have h4 : k ≠ 4 := by
      rintro rfl
      obtain ⟨t, ht, _⟩ := readS_body hr
      exact escB_head t (ht ▸ hp)
    obtain ⟨i, hi, hik⟩ := kAt_of k hk.1 (by omega) h4
    refine ⟨i, hi, ?_⟩
    rw [hik]
    have hh := readS_head hr
    obtain ⟨r, hl⟩ := hh
    have hs := hr
    unfold readS at hs
    rw [if_pos ⟨r, hl⟩] at hs
    have hs' : (if (cutK ((fieldsOf k).length - 1) (l.drop (headOf k).length)).length < (fieldsOf k).length then none else readAll (fieldsOf k) (cutK ((fieldsOf k).length - 1) (l.drop (headOf k).length)) (Ev.zero k)) = some e := hs
    split at hs'
    · cases hs'
    · rename_i hlen
      have hle := cutK_length ((fieldsOf k).length - 1) (l.drop (headOf k).length)
      have hfl := (fields_len k hk.1 (by omega)).1
      have hdr : l.drop (headOf k).length = r := by rw [← hl, List.drop_left]
      rw [hdr] at hs' hlen hle
      by_cases h24 : k = 24
      · subst h24
        obtain ⟨g, g1, g2⟩ := readAll_cons (F := fReason) (fs := []) (t := r) (ts := []) hs'
        cases g2
        rcases read_reason g1 with ⟨rfl, rfl⟩ | ⟨q, rfl, g3⟩
        · have hw : l = wordOf 24 := by rw [← hl, List.append_nil]; rfl
          refine ⟨by rw [hw, before_all _ (word_nb 24 (by decide))], ?_⟩
          rw [hw, behind_all _ (word_nb 24 (by decide)), ← hw]
          have hu : rdAll (chs 24) [] (Ev.zero (24 : Nat)) = id (Ev.zero (24 : Nat)) := by
            show ({ Ev.zero (24 : Nat) with text := str ((unesc []).getD []) } : Ev) = Ev.zero (24 : Nat)
            rw [unesc_some (show esc [] = [] from rfl)]
            rfl
          rw [hu]
          exact henc.1
        · have hw : l = wordOf 24 ++ 32 :: q := by rw [← hl]; rfl
          rw [hw, before_join _ _ (word_nb 24 (by decide)), behind_join _ _ (word_nb 24 (by decide)), ← hw]
          refine ⟨rfl, ?_⟩
          have hu : rdAll (chs 24) q (Ev.zero (24 : Nat)) = g (Ev.zero (24 : Nat)) := rd_esc (lo := 1) (hi := 1024) (c := .qx) (fun _ _ => rfl) q g _ g3
          rw [hu]
          exact henc.1
      · have hw : l = wordOf k ++ 32 :: r := by
          rw [← hl, head_word k (by omega) hk.1 h4, List.append_assoc]
          rfl
        rw [hw, before_join _ _ (word_nb k (by omega)), behind_join _ _ (word_nb k (by omega)), ← hw]
        refine ⟨rfl, ?_⟩
        rw [rdAll_ok (rds_row k hk.1 (by omega) h4) r _ e (by omega) hs']
        exact henc.1

theorem rd_fits (c : Ch) (l : List UInt8) (hl : l.length ≤ slim) (e : Ev) (he : e.Fits) : (c.rd l e).Fits := by
  have hn : ∀ f : NF, (f.set ((numOf l).getD 0) e).Fits := fun f => by
    cases h : numOf l with
    | none => exact fits_set he f 0 (by decide) (by decide)
    | some n => exact fits_set he f n (of_numOf h).1.1 (of_numOf h).1.2
  have hi : ∀ (q : UInt8) (f : NF), (f.set ((idOf q l).getD 0) e).Fits := fun q f => by
    cases h : idOf q l with
    | none => exact fits_set he f 0 (by decide) (by decide)
    | some n => obtain ⟨r, _, h2, _⟩ := of_idOf h; exact fits_set he f n h2.1.1 h2.1.2
  have ht : ∀ m : List UInt8, m.length ≤ slim → ({ e with text := str ((unesc m).getD []) } : Ev).Fits := fun m hm => by
    cases h : unesc m with
    | none => exact fits_text he [] (Nat.zero_le _)
    | some u =>
      have := of_unesc h
      have h3 := (esc_length u).1
      rw [this] at h3
      exact fits_text he u (Nat.le_trans h3 hm)
  cases c with
  | qt => exact hn .tick
  | qn => exact hn .number
  | qf => exact hn .flag
  | qo => exact hn .offset
  | qi => exact hn .index
  | qs => exact hi 36 .session
  | qw => exact hi 64 .window
  | qp => exact hi 37 .pane
  | qN => exact fits_name he l hl
  | qW => exact fits_name he l hl
  | qP => exact fits_plan he .layout l hl
  | qV => exact fits_plan he .visible l hl
  | qz => exact fits_zoom he _
  | qd => exact ht l hl
  | qm => exact ht l hl
  | qx => exact ht l hl
  | qc => exact he
  | qv =>
    show (if [58, 32] <+: l then ({ e with text := str ((unesc (l.drop 2)).getD []) } : Ev) else e).Fits
    split
    · exact ht _ (by rw [List.length_drop]; omega)
    · exact he

theorem before_len (l : List UInt8) : (before l).length ≤ l.length := by
  have := congrArg List.length (List.takeWhile_append_dropWhile (p := (· != (32 : UInt8))) (l := l))
  rw [List.length_append] at this
  unfold before
  omega
theorem behind_len (l : List UInt8) : (behind l).length ≤ l.length := by
  have := congrArg List.length (List.takeWhile_append_dropWhile (p := (· != (32 : UInt8))) (l := l))
  rw [List.length_append] at this
  unfold behind
  rw [List.length_drop]
  omega

end Go.Proofs.YtlgkdnmhoboinaaGreatDoor
