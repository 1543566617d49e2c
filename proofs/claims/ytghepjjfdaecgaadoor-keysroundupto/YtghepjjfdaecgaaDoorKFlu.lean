/-
  Keys: New, Held, Flush.
-/
import Derived.Test.YtghepjjfdaecgaaDoorKFeedB
import Derived.BigQuiet
import Derived.Deep.QuietTactic
namespace Go.Proofs.YtghepjjfdaecgaaDoor
open Go.RowKit
set_option linter.unusedVariables false
set_option maxRecDepth 100000

set_option maxHeartbeats 1000000 in
theorem new_any (w : World) : Calls Tryd.prog 9 #[] w fun r w' => r = .returned (.pointer (some ⟨w.heap.size, 0, none⟩)) ∧ w' = w.alloc (.cells #[.slice none 0 0] 54) := by
  go_enter Tryd.func9, Tryd.ntmps9
  go_wp2_with fail
  go_ret
  exact ⟨rfl, rfl⟩
/-- A new decoder, at any base behind it. -/
theorem Dc.fresh {w : World} (d : Nat) (hT : Tabs w) (hd : w.heap[d]? = some (.cells #[.slice none 0 0] 54 (0, 0))) (hlo : 4 < d) : Dc w.heap.size d w w (.slice none 0 0) [] := by
  have h4 := World.block_lt_of_cell? w _ (hT.u8.2 0 (by decide)).1
  exact ⟨Ap.refl _ _ _, hd, Owns.nil _ _, Nat.le_refl _, fun g hg => ⟨Nat.lt_of_le_of_lt hg h4, by omega⟩⟩
set_option maxHeartbeats 1000000 in
theorem held_any {B d : Nat} {w0 w : World} {v : Value} {l : List UInt8} (h : Dc B d w0 w v l) : Calls Tryd.prog 11 #[.pointer (some ⟨d, 0, none⟩)] w fun r w' => r = .returned (.string (str l)) ∧ w = w' := by
  have c0 := h.cell
  have hcv := h.own.text (P := Tryd.prog) 52 9 5 underBy Tryd.underlying5 Tryd.underlying9
  obtain ⟨a, n, c, rfl⟩ := owns_slice h.own
  clear h
  go_enter Tryd.func11, Tryd.ntmps11
  go_wp2_with fail
  go_ret
  exact ⟨rfl, rfl⟩
/-- Bytes told one by one. -/
def goF : List UInt8 → Int → List (Int × Int)
  | [], _ => []
  | b :: r, m => if 128 ≤ b.toNat then [] else ((loneF b.toNat).1, (loneF b.toNat).2 + m) :: goF r 0
theorem flush_go : ∀ (l : List UInt8) (m : Int), flushF.go l m = goF l m
  | [], _ => rfl
  | b :: r, m => by
    unfold flushF.go goF
    split
    · rfl
    · rw [flush_go r 0]
theorem flush_eq (h : List UInt8) : flushF h = if (behindF h).2 ≠ 0 ∧ (behindF h).1 = [] then [(27, 0)] else goF (behindF h).1 (behindF h).2 := by
  unfold flushF
  simp only [flush_go]
theorem goF_few : ∀ (l : List UInt8) (m : Int), (goF l m).length ≤ l.length
  | [], _ => Nat.le_refl _
  | b :: r, m => by
    unfold goF
    split
    · simp
    · have := goF_few r 0
      simp only [List.length_cons]; omega
/-- How far the telling has come. -/
structure Fl (w wr : World) (tv : Value) (p : List UInt8) (k : Nat) (mk : Int) (K : List (Int × Int)) : Prop where
  below : Below w.heap.size w wr
  keys : ∃ ks, KeysAt wr w.heap.size tv ks ∧ ks ++ goF (p.drop k) mk = K ∧ ks.length ≤ 1 + k
  mods : mk = 0 ∨ mk = 2
theorem Fl.more {w wr w2 : World} {tv : Value} {p : List UInt8} {k : Nat} {mk : Int} {K : List (Int × Int)} (h : Fl w wr tv p k mk K) (hb : Below wr.heap.size wr w2) : Fl w w2 tv p k mk K := by
  obtain ⟨ks, h1, h2, h3⟩ := h.keys
  exact ⟨below_step h.below hb, ⟨ks, h1.below hb, h2, h3⟩, h.mods⟩
set_option maxHeartbeats 4000000 in
theorem flush_walk {B d : Nat} {w0 w : World} {v : Value} {l : List UInt8} (h : Dc B d w0 w v l) (hl : l.length ≤ 999) (hne : ¬ ((behindF l).2 ≠ 0 ∧ (behindF l).1 = [])) :
    Calls Tryd.prog 16 #[.pointer (some ⟨d, 0, none⟩)] w fun r w' => ∃ lv, r = .returned lv ∧ Fd B d w0 w w' lv [] (goF (behindF l).1 (behindF l).2) := by
  have HBe := hidK (behind_any h)
  have HD := hidK h
  have hlen : (behindF l).1.length ≤ 999 := by
    unfold behindF
    split
    · simp only [List.length_cons] at hl ⊢; omega
    · exact hl
  obtain ⟨p, hp⟩ : ∃ p, (behindF l).1 = p := ⟨_, rfl⟩
  obtain ⟨m, hm⟩ : ∃ m, (behindF l).2 = m := ⟨_, rfl⟩
  have hmm := behind_mods l
  rw [hp] at HBe hne hlen
  rw [hm] at HBe hne hmm
  rw [hp, hm]
  clear h hp hm hl
  obtain ⟨K, hK⟩ : ∃ K, goF p m = K := ⟨_, rfl⟩
  have HK := hidK hK
  rw [hK]
  obtain ⟨N, hN⟩ : ∃ N, p.length = N := ⟨_, rfl⟩
  rw [hN] at hlen
  have HN := hidK hN
  have hcond : m = 0 ∨ ((m == 0) = false ∧ ((N : Int) == 0) = false ∧ ¬ m = 0 ∧ ¬ (N : Int) = 0) := by
    by_cases h0 : m = 0
    · left; exact h0
    · right
      have : p ≠ [] := fun e => hne ⟨h0, e⟩
      have : p.length ≠ 0 := fun e => this (List.length_eq_zero_iff.1 e)
      exact ⟨by simpa using h0, by simp; omega, h0, by omega⟩
  have HM : Hid (m = 0 ∨ m = 2) := hmm
  clear hne hK hN hmm
  rcases hcond with c1 | ⟨c1, c2, c3, c4⟩
  · subst c1
    go_enter Tryd.func16, Tryd.ntmps16
    go_wp2_with fail
    refine HBe.out.mono ?_
    rintro e w2 ⟨⟨ad, n, c, rfl, hs⟩, rfl⟩
    obtain ⟨ad', c', e1, hcc, hsee⟩ := hs
    have e3 : ad = ad' ∧ n = N ∧ c = c' := by
      injection e1 with q1 q2 q3
      exact ⟨q1, q2.trans HN.out, q3⟩
    obtain ⟨rfl, rfl, rfl⟩ := e3
    have HSee := hidK hsee
    clear e1 hsee hcc
    go_wp2_with fail
    go_loopw [26, 3, 5] (fun i tv mv wr => ∃ (k : Nat) (mk : Int), k ≤ n ∧ i = .int .i64 k ∧ mv = .int .i64 mk ∧ Hid (Fl w wr tv p k mk K)) (fun i _ _ _ => n - (intOf i).toNat)
    case atStart => exact ⟨0, _, Nat.zero_le _, rfl, rfl, ⟨Below.refl _ _, ⟨[], KeysAt.nil _ _, HK.out, Nat.zero_le _⟩, by first | exact HM.out | exact .inl rfl⟩⟩
    case round =>
      obtain ⟨k, mk, hk, rfl, rfl, HF⟩ := hrel
      obtain ⟨ks, hks, hgo, hfew⟩ := HF.out.keys
      obtain ⟨tad, tc, rfl⟩ := hks.slice
      obtain ⟨tn, htn⟩ : ∃ tn, ks.length = tn := ⟨_, rfl⟩
      rw [htn] at hks HF ⊢
      have HKs := hidK (And.intro hks (And.intro hgo hfew))
      clear hks hgo hfew
      by_cases hlt : k < n
      · have hkp : k < p.length := by rw [HN.out]; exact hlt
        obtain ⟨g, o, rfl, hcell⟩ := HSee.out (fun e => by rw [e] at hkp; simp at hkp)
        have hc := hcell k hkp
        obtain ⟨b, hb⟩ : ∃ b, p[k] = b := ⟨_, rfl⟩
        rw [hb] at hc
        have hc2 : wr.cell? ⟨g, o + k, none⟩ = some (.int .u8 b.toNat) := (HF.out.below.cell (World.block_lt_of_cell? w _ hc)).trans hc
        have hdr : p.drop k = b :: p.drop (k + 1) := by rw [List.drop_eq_getElem_cons hkp, hb]
        have HDr := hidK hdr
        have hi1 : (k : Int) < (n : Int) := by omega
        obtain ⟨bn, hbn⟩ : ∃ bn, b.toNat = bn := ⟨_, rfl⟩
        have HBn := hidK hbn
        rw [hbn] at hc2
        clear hcell hc hb hkp hbn hdr
        by_cases h128 : 128 ≤ bn
        · have i128 : (128 : Int) ≤ (bn : Int) := by omega
          have HE : Hid (ks = K) := by
            show _ = _
            rw [← HKs.out.2.1, HDr.out]
            unfold goF
            rw [if_pos (by rw [HBn.out]; exact h128), List.append_nil]
          have HDp := hidK (drop_any (HD.out.more HF.out.below).rebase)
          clear h128
          go_wp2_with fail
          refine HDp.out.mono ?_
          rintro e w5 ⟨rfl, ⟨v5, hd5⟩, hf5⟩
          have HR : Hid (Fd B d w0 w w5 (.slice tad tn tc) [] K) := by
            rw [← HE.out]
            exact ⟨⟨v5, (HD.out.more HF.out.below).onto hd5⟩, (Ft.of HF.out.below).trans hf5, HKs.out.1.ft hf5 (HD.out.more HF.out.below).dtype, Nat.le_trans HF.out.below.size hd5.ap.size⟩
          clear hd5 hf5
          go_wp2_with fail
          go_ret
          exact ⟨_, rfl, HR.out⟩
        · have i128 : ¬ (128 : Int) ≤ (bn : Int) := by omega
          have HLo := hidK (lone_any bn (by omega))
          obtain ⟨x, hx⟩ : ∃ x, (loneF bn).1 = x := ⟨_, rfl⟩
          obtain ⟨y, hy⟩ : ∃ y, (loneF bn).2 = y := ⟨_, rfl⟩
          have HWm : Hid (∀ X, Calls Tryd.prog 32 #[.agg #[.int .i64 x, .int .i64 y], .int .i64 mk] X fun e w' => e = .returned (.agg #[.int .i64 x, .int .i64 (y + mk)]) ∧ Below X.heap.size X w') := withMods_any x y mk _ (by
            have h1 := lone_mods bn
            have h2 := HF.out.mods
            rw [hy] at h1
            rcases h2 with e | e
            · subst e; exact or_zero h1
            · subst e; exact or_two h1)
          rw [hx, hy] at HLo
          have HE : Hid (ks ++ [(x, y + mk)] ++ goF (p.drop (k + 1)) 0 = K) := by
            show _ = _
            rw [← HKs.out.2.1, HDr.out]
            conv => rhs; unfold goF
            rw [if_neg (by rw [HBn.out]; exact h128), HBn.out, hx, hy]
            simp
          have HKn : Hid (k < n ∧ n ≤ 999) := ⟨hlt, hlen⟩
          clear h128 hx hy
          go_wp2_with fail
          refine (HLo.out _).mono ?_
          rintro e w3 ⟨rfl, hb3⟩
          have HB3 := hidK hb3
          clear hb3
          go_wp2_with fail
          refine (HWm.out _).mono ?_
          rintro e w4 ⟨rfl, hb4⟩
          have hb5 := below_step HB3.out hb4
          have HB5 := hidK hb5
          have hke := (HKs.out.1.below hb5).below ((Below.refl _ _).alloc (Nat.le_refl _) (.cells #[.int .i64 x, .int .i64 (y + mk)] 30))
          have HKe := hidK hke
          have HS4 : Hid (w.heap.size ≤ (w4.alloc (.cells #[.int .i64 x, .int .i64 (y + mk)] 30)).heap.size) := by have h1 := HF.out.below.size; have h2 := hb5.size; show _ ≤ _; simp; omega
          clear hb4 hb5 hke
          go_wp2_with (at_builtin; refine wpList_append_key _ rfl (.tmp 32) (.tmp 37) rfl w.heap.size _ ks rfl HKe.out w4.heap.size (x, y + mk) rfl (heap_alloc_new w4 _) ?x1 HS4.out ?_; (case x1 => have h1 := HKs.out.2.2; have h2 := HKn.out; omega); intro tv' w6 hk6 hg6; have HR : Hid (Fl w w6 tv' p (k + 1) 0 K) := (by
            have hbw : Below w.heap.size w (w4.alloc (.cells #[.int .i64 x, .int .i64 (y + mk)] 30)) := below_step (below_step HF.out.below HB5.out) ((Below.refl _ _).alloc (Nat.le_refl _) _)
            exact ⟨hbw.grown hg6 HS4.out (fun q hq => (HKe.out.blk hq).1), ⟨_, hk6, HE.out, by have := HKs.out.2.2; simp; omega⟩, .inl rfl⟩); clear hk6 hg6)
          go_roundw
          case rel => exact ⟨k + 1, 0, by omega, by first | rfl | go_num, rfl, HR⟩
          case measure => simp [intOf]; omega
      · obtain rfl : k = n := by omega
        have HE : Hid (ks = K) := by
          show _ = _
          rw [← HKs.out.2.1, List.drop_of_length_le (by rw [HN.out]; exact Nat.le_refl _)]
          unfold goF
          rw [List.append_nil]
        have HDp := hidK (drop_any (HD.out.more HF.out.below).rebase)
        go_wp2_with fail
        refine HDp.out.mono ?_
        rintro e w5 ⟨rfl, ⟨v5, hd5⟩, hf5⟩
        have HR : Hid (Fd B d w0 w w5 (.slice tad tn tc) [] K) := by
          rw [← HE.out]
          exact ⟨⟨v5, (HD.out.more HF.out.below).onto hd5⟩, (Ft.of HF.out.below).trans hf5, HKs.out.1.ft hf5 (HD.out.more HF.out.below).dtype, Nat.le_trans HF.out.below.size hd5.ap.size⟩
        clear hd5 hf5
        go_wp2_with fail
        go_ret
        exact ⟨_, rfl, HR.out⟩
  · go_enter Tryd.func16, Tryd.ntmps16
    go_wp2_with fail
    refine HBe.out.mono ?_
    rintro e w2 ⟨⟨ad, n, c, rfl, hs⟩, rfl⟩
    obtain ⟨ad', c', e1, hcc, hsee⟩ := hs
    have e3 : ad = ad' ∧ n = N ∧ c = c' := by
      injection e1 with q1 q2 q3
      exact ⟨q1, q2.trans HN.out, q3⟩
    obtain ⟨rfl, rfl, rfl⟩ := e3
    have HSee := hidK hsee
    clear e1 hsee hcc
    go_wp2_with fail
    go_loopw [26, 3, 5] (fun i tv mv wr => ∃ (k : Nat) (mk : Int), k ≤ n ∧ i = .int .i64 k ∧ mv = .int .i64 mk ∧ Hid (Fl w wr tv p k mk K)) (fun i _ _ _ => n - (intOf i).toNat)
    case atStart => exact ⟨0, _, Nat.zero_le _, rfl, rfl, ⟨Below.refl _ _, ⟨[], KeysAt.nil _ _, HK.out, Nat.zero_le _⟩, by first | exact HM.out | exact .inl rfl⟩⟩
    case round =>
      obtain ⟨k, mk, hk, rfl, rfl, HF⟩ := hrel
      obtain ⟨ks, hks, hgo, hfew⟩ := HF.out.keys
      obtain ⟨tad, tc, rfl⟩ := hks.slice
      obtain ⟨tn, htn⟩ : ∃ tn, ks.length = tn := ⟨_, rfl⟩
      rw [htn] at hks HF ⊢
      have HKs := hidK (And.intro hks (And.intro hgo hfew))
      clear hks hgo hfew
      by_cases hlt : k < n
      · have hkp : k < p.length := by rw [HN.out]; exact hlt
        obtain ⟨g, o, rfl, hcell⟩ := HSee.out (fun e => by rw [e] at hkp; simp at hkp)
        have hc := hcell k hkp
        obtain ⟨b, hb⟩ : ∃ b, p[k] = b := ⟨_, rfl⟩
        rw [hb] at hc
        have hc2 : wr.cell? ⟨g, o + k, none⟩ = some (.int .u8 b.toNat) := (HF.out.below.cell (World.block_lt_of_cell? w _ hc)).trans hc
        have hdr : p.drop k = b :: p.drop (k + 1) := by rw [List.drop_eq_getElem_cons hkp, hb]
        have HDr := hidK hdr
        have hi1 : (k : Int) < (n : Int) := by omega
        obtain ⟨bn, hbn⟩ : ∃ bn, b.toNat = bn := ⟨_, rfl⟩
        have HBn := hidK hbn
        rw [hbn] at hc2
        clear hcell hc hb hkp hbn hdr
        by_cases h128 : 128 ≤ bn
        · have i128 : (128 : Int) ≤ (bn : Int) := by omega
          have HE : Hid (ks = K) := by
            show _ = _
            rw [← HKs.out.2.1, HDr.out]
            unfold goF
            rw [if_pos (by rw [HBn.out]; exact h128), List.append_nil]
          have HDp := hidK (drop_any (HD.out.more HF.out.below).rebase)
          clear h128
          go_wp2_with fail
          refine HDp.out.mono ?_
          rintro e w5 ⟨rfl, ⟨v5, hd5⟩, hf5⟩
          have HR : Hid (Fd B d w0 w w5 (.slice tad tn tc) [] K) := by
            rw [← HE.out]
            exact ⟨⟨v5, (HD.out.more HF.out.below).onto hd5⟩, (Ft.of HF.out.below).trans hf5, HKs.out.1.ft hf5 (HD.out.more HF.out.below).dtype, Nat.le_trans HF.out.below.size hd5.ap.size⟩
          clear hd5 hf5
          go_wp2_with fail
          go_ret
          exact ⟨_, rfl, HR.out⟩
        · have i128 : ¬ (128 : Int) ≤ (bn : Int) := by omega
          have HLo := hidK (lone_any bn (by omega))
          obtain ⟨x, hx⟩ : ∃ x, (loneF bn).1 = x := ⟨_, rfl⟩
          obtain ⟨y, hy⟩ : ∃ y, (loneF bn).2 = y := ⟨_, rfl⟩
          have HWm : Hid (∀ X, Calls Tryd.prog 32 #[.agg #[.int .i64 x, .int .i64 y], .int .i64 mk] X fun e w' => e = .returned (.agg #[.int .i64 x, .int .i64 (y + mk)]) ∧ Below X.heap.size X w') := withMods_any x y mk _ (by
            have h1 := lone_mods bn
            have h2 := HF.out.mods
            rw [hy] at h1
            rcases h2 with e | e
            · subst e; exact or_zero h1
            · subst e; exact or_two h1)
          rw [hx, hy] at HLo
          have HE : Hid (ks ++ [(x, y + mk)] ++ goF (p.drop (k + 1)) 0 = K) := by
            show _ = _
            rw [← HKs.out.2.1, HDr.out]
            conv => rhs; unfold goF
            rw [if_neg (by rw [HBn.out]; exact h128), HBn.out, hx, hy]
            simp
          have HKn : Hid (k < n ∧ n ≤ 999) := ⟨hlt, hlen⟩
          clear h128 hx hy
          go_wp2_with fail
          refine (HLo.out _).mono ?_
          rintro e w3 ⟨rfl, hb3⟩
          have HB3 := hidK hb3
          clear hb3
          go_wp2_with fail
          refine (HWm.out _).mono ?_
          rintro e w4 ⟨rfl, hb4⟩
          have hb5 := below_step HB3.out hb4
          have HB5 := hidK hb5
          have hke := (HKs.out.1.below hb5).below ((Below.refl _ _).alloc (Nat.le_refl _) (.cells #[.int .i64 x, .int .i64 (y + mk)] 30))
          have HKe := hidK hke
          have HS4 : Hid (w.heap.size ≤ (w4.alloc (.cells #[.int .i64 x, .int .i64 (y + mk)] 30)).heap.size) := by have h1 := HF.out.below.size; have h2 := hb5.size; show _ ≤ _; simp; omega
          clear hb4 hb5 hke
          go_wp2_with (at_builtin; refine wpList_append_key _ rfl (.tmp 32) (.tmp 37) rfl w.heap.size _ ks rfl HKe.out w4.heap.size (x, y + mk) rfl (heap_alloc_new w4 _) ?x1 HS4.out ?_; (case x1 => have h1 := HKs.out.2.2; have h2 := HKn.out; omega); intro tv' w6 hk6 hg6; have HR : Hid (Fl w w6 tv' p (k + 1) 0 K) := (by
            have hbw : Below w.heap.size w (w4.alloc (.cells #[.int .i64 x, .int .i64 (y + mk)] 30)) := below_step (below_step HF.out.below HB5.out) ((Below.refl _ _).alloc (Nat.le_refl _) _)
            exact ⟨hbw.grown hg6 HS4.out (fun q hq => (HKe.out.blk hq).1), ⟨_, hk6, HE.out, by have := HKs.out.2.2; simp; omega⟩, .inl rfl⟩); clear hk6 hg6)
          go_roundw
          case rel => exact ⟨k + 1, 0, by omega, by first | rfl | go_num, rfl, HR⟩
          case measure => simp [intOf]; omega
      · obtain rfl : k = n := by omega
        have HE : Hid (ks = K) := by
          show _ = _
          rw [← HKs.out.2.1, List.drop_of_length_le (by rw [HN.out]; exact Nat.le_refl _)]
          unfold goF
          rw [List.append_nil]
        have HDp := hidK (drop_any (HD.out.more HF.out.below).rebase)
        go_wp2_with fail
        refine HDp.out.mono ?_
        rintro e w5 ⟨rfl, ⟨v5, hd5⟩, hf5⟩
        have HR : Hid (Fd B d w0 w w5 (.slice tad tn tc) [] K) := by
          rw [← HE.out]
          exact ⟨⟨v5, (HD.out.more HF.out.below).onto hd5⟩, (Ft.of HF.out.below).trans hf5, HKs.out.1.ft hf5 (HD.out.more HF.out.below).dtype, Nat.le_trans HF.out.below.size hd5.ap.size⟩
        clear hd5 hf5
        go_wp2_with fail
        go_ret
        exact ⟨_, rfl, HR.out⟩
set_option maxHeartbeats 4000000 in
theorem flush_esc {B d : Nat} {w0 w : World} {v : Value} {l : List UInt8} (h : Dc B d w0 w v l) (hm : (behindF l).2 ≠ 0) (hp : (behindF l).1 = []) :
    Calls Tryd.prog 16 #[.pointer (some ⟨d, 0, none⟩)] w fun r w' => ∃ lv, r = .returned lv ∧ Fd B d w0 w w' lv [] [(27, 0)] := by
  have HBe := hidK (behind_any h)
  have HD := hidK h
  have hm2 : (behindF l).2 = 2 := by have := behind_mods l; omega
  rw [hm2, hp] at HBe
  clear h hm hp hm2
  go_enter Tryd.func16, Tryd.ntmps16
  go_wp2_with fail
  refine HBe.out.mono ?_
  rintro e w2 ⟨⟨ad, n, c, rfl, hs⟩, rfl⟩
  obtain ⟨ad', c', e1, hcc, hsee⟩ := hs
  have e3 : n = 0 := by
    injection e1 with q1 q2 q3
  subst e3
  clear e1 hsee hcc
  have HKe : Hid (KeysAt (w.alloc (.cells #[.int .i64 27, .int .i64 0] 30)) w.heap.size (.slice none 0 0) []) := KeysAt.nil _ _
  go_wp2_with (at_builtin; refine wpList_append_key _ rfl (.tmp 20) (.tmp 22) rfl w.heap.size _ [] rfl HKe.out w.heap.size (27, 0) rfl (heap_alloc_new w _) ?x1 ?x2 ?_; (case x1 => simp); (case x2 => simp); intro tv' w6 hk6 hg6; have HB6 : Hid (Below w.heap.size w w6) := (((Below.refl _ _).alloc (Nat.le_refl _) _).grown hg6 (by simp) (fun q hq => by cases hq)); have HK6 := hidK hk6; obtain ⟨tad, tc, rfl⟩ := hk6.slice; clear hk6 hg6)
  go_loopw [26, 3] (fun i tv wr => i = .int .i64 0 ∧ tv = .slice tad 1 tc ∧ wr = w6) (fun _ _ _ => 0)
  case atStart => exact ⟨rfl, rfl, rfl⟩
  case round =>
    obtain ⟨rfl, rfl, rfl⟩ := hrel
    have HDp := hidK (drop_any (HD.out.more HB6.out).rebase)
    go_wp2_with fail
    refine HDp.out.mono ?_
    rintro e w5 ⟨rfl, ⟨v5, hd5⟩, hf5⟩
    have HR : Hid (Fd B d w0 w w5 (.slice tad 1 tc) [] [(27, 0)]) := ⟨⟨v5, (HD.out.more HB6.out).onto hd5⟩, (Ft.of HB6.out).trans hf5, HK6.out.ft hf5 (HD.out.more HB6.out).dtype, Nat.le_trans HB6.out.size hd5.ap.size⟩
    clear hd5 hf5
    go_wp2_with fail
    go_ret
    exact ⟨_, rfl, HR.out⟩
theorem flush_any {B d : Nat} {w0 w : World} {v : Value} {l : List UInt8} (h : Dc B d w0 w v l) (hl : l.length ≤ 999) :
    Calls Tryd.prog 16 #[.pointer (some ⟨d, 0, none⟩)] w fun r w' => ∃ lv, r = .returned lv ∧ Fd B d w0 w w' lv [] (flushF l) := by
  rw [flush_eq]
  by_cases hc : (behindF l).2 ≠ 0 ∧ (behindF l).1 = []
  · rw [if_pos hc]
    exact flush_esc h hc.1 hc.2
  · rw [if_neg hc]
    exact flush_walk h hl hc
end Go.Proofs.YtghepjjfdaecgaaDoor
