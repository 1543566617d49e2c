/-
  A screen scrolls by one row.
-/
import Derived.Test.YtooahffclghcjaaGreatDoorVPushB
import Derived.Test.YtooahffclghcjaaGreatDoorVTell
import Derived.Deep.RegionHeld3
import Derived.BigRegion
namespace Go.Proofs.YtooahffclghcjaaGreatDoor
open Go.RowKit
set_option linter.unusedVariables false
set_option maxRecDepth 100000

theorem moved_len (rs : List (Nat × List Gl)) (ba : Int) : (moved rs ba).length = rs.length := by cases rs <;> simp [moved]
theorem moved_fst (rs : List (Nat × List Gl)) (ba : Int) : ∀ k, k ∈ (moved rs ba).map Prod.fst ↔ k ∈ rs.map Prod.fst := by
  intro k
  cases rs with
  | nil => simp [moved]
  | cons r rest =>
    simp only [moved, List.map_append, List.map_cons, List.map_nil, List.mem_append, List.mem_cons, List.mem_nil_iff, or_false]
    exact or_comm
set_option maxHeartbeats 4000000 in
theorem scrollUp_one {w0 w : World} {b : Nat} {s : Sc} {G : Nat} {r : Nat × List Gl} {rest : List (Nat × List Gl)} {hs : List (Value × List Gl)} (h : Scr w0 w b s G (r :: rest) hs) (lim : Nat) (hlim : s.lim = (lim : Int)) (hl2 : lim ≤ 2000) (hlen : hs.length ≤ lim) (hrl : r.2.length ≤ 1000) (hn : rest.length + 1 ≤ 1000) (htop : s.top = 0) (hmain : s.main = .pointer none) (hbot : s.bot = (rest.length : Int)) : Calls Tryz.prog 74 #[.pointer (some ⟨b, 0, none⟩), .int .i64 1] w fun x w' => x = .returned (.tuple #[]) ∧ ∃ v hs', hs'.map Prod.snd = kept lim (hs.map Prod.snd) r.2 ∧ hs'.length ≤ lim ∧ Scr w0 w' b { s with past := v } G (moved (r :: rest) s.cur.ba) hs' ∧ But (s.past.ownBlock.toList ++ (b :: G :: (r :: rest).map Prod.fst)) w w' := by
  obtain ⟨m, hm⟩ : ∃ m, rest.length = m := ⟨_, rfl⟩
  have HM := hidK hm
  have HS := hidK h
  have HAl : Hid (∀ W, ScAt W b s → Calls Tryz.prog 91 #[.pointer (some ⟨b, 0, none⟩)] W fun r w' => r = .returned (.bool false) ∧ W = w') := fun W hW => alternate_no hW hmain
  have HPu : Hid (∀ W, Scr w0 W b s G (r :: rest) hs → Calls Tryz.prog 92 #[.pointer (some ⟨b, 38, none⟩), .slice (some ⟨r.1, 0, none⟩) r.2.length r.2.length] W fun x w' => x = .returned (.tuple #[]) ∧ ∃ v hs', hs'.map Prod.snd = kept lim (hs.map Prod.snd) r.2 ∧ hs'.length ≤ lim ∧ Scr w0 w' b { s with past := v } G (r :: rest) hs' ∧ But (s.past.ownBlock.toList ++ (b :: G :: (r :: rest).map Prod.fst)) W w') := fun W hW => push_any hW lim hlim hl2 hlen (by simp) hrl
  have HDr : Hid (∀ W v, Scn W b { s with past := v } G (r :: rest) → Calls Tryz.prog 93 #[.pointer (some ⟨b, 0, none⟩), .int .i64 0, .int .i64 1] W fun x w' => x = .returned (.tuple #[]) ∧ Scn w' b { s with past := v } G (moved (r :: rest) s.cur.ba) ∧ But [G, r.1] W w') := fun W v hW => dropRows_one hW hn hbot hrl
  have HTop := hidK htop
  have c40 := h.scn.at_.c40
  have c41 := h.scn.at_.c41
  rw [htop] at c40
  rw [hbot, hm] at c41
  rw [hm] at hn
  clear h htop hmain hbot hm hlim hl2 hlen
  go_enter Tryz.func74, Tryz.ntmps74
  go_wp2_with (go_at_call 91; refine (HAl.out _ HS.out.scn.at_).mono ?_; rintro e w1 ⟨rfl, rfl⟩)
  go_region
  rw [show (min 1 ((m : Int) + 1)) = 1 by omega]
  refine gen_exit (fun X => Below w.heap.size w X) (Below.drew (Below.refl _ _)) ?_
  intro X0 hX0
  have HX0 := hidK hX0
  clear c40 c41 hX0
  go_wp2_with fail
  go_loopw [27] (fun i wr => ∃ k : Nat, k ≤ 1 ∧ i = .int .i64 (k : Int) ∧ Hid ((k = 0 → Below w.heap.size w wr) ∧ (k = 1 → ∃ v hs', hs'.map Prod.snd = kept lim (hs.map Prod.snd) r.2 ∧ hs'.length ≤ lim ∧ Scr w0 wr b { s with past := v } G (moved (r :: rest) s.cur.ba) hs' ∧ But (s.past.ownBlock.toList ++ (b :: G :: (r :: rest).map Prod.fst)) w wr))) (fun i _ => 1 - (intOf i).toNat)
  case atStart => exact ⟨0, by omega, rfl, fun _ => HX0.out, fun h => by cases h⟩
  case round =>
    obtain ⟨k, hk, rfl, HR⟩ := hrel
    cases k with
    | zero =>
      have hb0 := HR.out.1 rfl
      have hS0 := HS.out.more hb0
      have HS0 := hidK hS0
      have HB0 := hidK hb0
      have c2 := hS0.scn.at_.c2
      rw [hS0.scn.val, List.length_cons, HM.out] at c2
      have cG : wr.cell? ⟨G, 0, none⟩ = some (.slice (some ⟨r.1, 0, none⟩) r.2.length r.2.length) := hS0.scn.rows.cell (i := 0) rfl
      have HBx : Hid (Below wr.heap.size wr wr.drew) := (Below.refl _ _).drew
      clear hS0 hb0
      go_wp2_with fail
      go_region_held3 (fun X => X.cell? ⟨b, 2, none⟩ = some (.slice (some ⟨G, 0, none⟩) (m + 1) (m + 1)) ∧ X.cell? ⟨G, 0, none⟩ = some (.slice (some ⟨r.1, 0, none⟩) r.2.length r.2.length)) (simp [*]) ((go_at_call 92; refine (HPu.out _ (HS0.out.more HBx.out)).mono ?_; rintro e w2 ⟨rfl, v2, hs2, q1, q2, q3, q4⟩; have HQ := hidK (And.intro q1 (And.intro q2 q3)); have HQ4 := hidK q4; have d2 : w2.cell? ⟨b, 2, none⟩ = some (.slice (some ⟨G, 0, none⟩) (m + 1) (m + 1)) := (by have h9 := q3.scn.at_.c2; rw [q3.scn.val, List.length_cons, HM.out] at h9; exact h9); have dG : w2.cell? ⟨G, 0, none⟩ = some (.slice (some ⟨r.1, 0, none⟩) r.2.length r.2.length) := q3.scn.rows.cell (i := 0) rfl; have d40 : w2.cell? ⟨b, 40, none⟩ = some (.int .i64 0) := (by have h9 := q3.scn.at_.c40; simp only at h9; rw [HTop.out] at h9; exact h9); clear q1 q2 q3 q4))
      all_goals (
        go_wp2_with fail
        refine (HDr.out _ v2 HQ.out.2.2.scn).mono ?_
        rintro e w3 ⟨rfl, hd, hbd⟩
        have HD := hidK (And.intro hd hbd)
        clear hd hbd d2 dG d40
        go_wp2_with fail
        go_roundw
        case rel => exact ⟨1, by omega, by go_num, (fun h => by cases h), fun _ => ⟨v2, hs2, HQ.out.1, HQ.out.2.1, HQ.out.2.2.turn HD.out.1 HD.out.2 (fun k hk => by simp at hk; rcases hk with rfl | rfl <;> simp) rfl (moved_fst _ _), (But.of (HB0.out.trans (HBx.out.mono HB0.out.size))).trans (HQ4.out.trans (HD.out.2.mono (fun k _ hk => List.mem_append_right _ (by simp at hk; rcases hk with rfl | rfl <;> simp))))⟩⟩
        case measure => simp [intOf])
    | succ j =>
      obtain rfl : j = 0 := by omega
      have H1 := hidK (HR.out.2 rfl)
      clear HR
      go_wp2_with fail
      go_end0
      exact ⟨rfl, H1.out⟩
set_option maxHeartbeats 4000000 in
/-- A line feed at the region's bottom. -/
theorem lineFeed_last {w0 w : World} {b : Nat} {s : Sc} {G : Nat} {r : Nat × List Gl} {rest : List (Nat × List Gl)} {hs : List (Value × List Gl)} (h : Scr w0 w b s G (r :: rest) hs) (lim : Nat) (hlim : s.lim = (lim : Int)) (hl2 : lim ≤ 2000) (hlen : hs.length ≤ lim) (hrl : r.2.length ≤ 1000) (hn : rest.length + 1 ≤ 1000) (htop : s.top = 0) (hmain : s.main = .pointer none) (hbot : s.bot = (rest.length : Int)) (hy : s.cur.y = s.bot) : Calls Tryz.prog 52 #[.pointer (some ⟨b, 0, none⟩)] w fun x w' => x = .returned (.tuple #[]) ∧ ∃ v hs', hs'.map Prod.snd = kept lim (hs.map Prod.snd) r.2 ∧ hs'.length ≤ lim ∧ Scr w0 w' b { s with past := v, cur := { s.cur with wt := false } } G (moved (r :: rest) s.cur.ba) hs' ∧ But (s.past.ownBlock.toList ++ (b :: G :: (r :: rest).map Prod.fst)) w w' := by
  have HS := hidK h
  have c14 := h.scn.at_.c14
  have c41 := h.scn.at_.c41
  rw [hy] at c14
  have HUp : Hid (∀ W, Below w.heap.size w W → Calls Tryz.prog 74 #[.pointer (some ⟨b, 0, none⟩), .int .i64 1] W fun x w' => x = .returned (.tuple #[]) ∧ ∃ v hs', hs'.map Prod.snd = kept lim (hs.map Prod.snd) r.2 ∧ hs'.length ≤ lim ∧ Scr w0 w' b { s with past := v } G (moved (r :: rest) s.cur.ba) hs' ∧ But (s.past.ownBlock.toList ++ (b :: G :: (r :: rest).map Prod.fst)) W w') := fun W hW => scrollUp_one (h.more hW) lim hlim hl2 hlen hrl hn htop hmain hbot
  clear h hlim hl2 hlen htop hmain hbot hy
  go_enter Tryz.func52, Tryz.ntmps52
  go_wp2_with fail
  go_quiet (fail)
  go_wp2_with fail
  refine (HUp.out _ (below_drewN _ _)).mono ?_
  rintro e w2 ⟨rfl, v2, hs2, q1, q2, q3, q4⟩
  have HQ := hidK (And.intro q1 (And.intro q2 q3))
  have HQ4 := hidK q4
  have c22 := q3.scn.at_.c22
  have f22 := q3.scn.at_.free 22
  clear q1 q2 q3 q4 c14 c41
  go_wp2_with fail
  go_end0
  obtain ⟨q1, q2, q3⟩ := HQ.out
  have hS : ScAt (w2.setCell ⟨b, 22, none⟩ (.bool false)) b { s with past := v2, cur := { s.cur with wt := false } } := .fin (put_at q3.scn.at_ 22 _) (by rfl)
  obtain ⟨t1, t2⟩ := q3.scn.turn hS rfl (But.one 22 _)
  exact ⟨rfl, v2, hs2, q1, q2, q3.turn t1 (But.one 22 _) (fun k hk => by simp at hk; simp [hk]) rfl (fun _ => Iff.rfl), ((But.of (below_drewN _ _)).trans HQ4.out).setCell (p := ⟨b, 22, none⟩) (.inl (List.mem_append_right _ (by simp))) _⟩
end Go.Proofs.YtooahffclghcjaaGreatDoor
