/-
  Plans: a layout's cells are written.
-/
import Derived.Test.YtglncninkocgaabGreatDoorCT
import Derived.Test.YtglncninkocgaabGreatDoorCF
import Derived.Test.YtglncninkocgaabGreatDoorCC
import Derived.Deep.DeepCutAuto
import Derived.BigQuiet
namespace Go.Proofs.YtglncninkocgaabGreatDoor
open Go.RowKit
set_option linter.unusedVariables false
set_option maxRecDepth 20000

theorem Owns.last {w : World} {B g n cap : Nat} {l : List UInt8} {c : UInt8} (h : Owns w B (.slice (some ⟨g, 0, none⟩) n cap) (l ++ [c])) : n = l.length + 1 ∧ w.cell? ⟨g, l.length, none⟩ = some (.int .u8 c.toNat) ∧ Owns w B (.slice (some ⟨g, 0, none⟩) l.length cap) l ∧ l.length + 1 ≤ cap := by
  rcases h.2 with ⟨h1, _⟩ | ⟨g', cap', cur, h1, hb, hg, hn, hc, hs, ht⟩
  · cases h1
  · cases h1
    have hn' : (l ++ [c]).length = l.length + 1 := by simp
    have hcell := World.ownsRow.cells h (g := g) rfl l.length (.int .u8 c.toNat) (by simp [bv])
    refine ⟨hn', ?_, ⟨by simp, .inr ⟨g, cap, cur, rfl, hb, hg, by omega, hc, hs, ?_⟩⟩, by omega⟩
    · rw [show (⟨g, 0, none⟩ : Addr).add l.length = ⟨g, l.length, none⟩ by unfold Addr.add; split <;> simp_all] at hcell
      exact hcell
    · have := congrArg (List.take l.length) ht
      rw [List.take_take] at this
      rw [show min l.length ((l ++ [c]).length * 1) = l.length * 1 by simp] at this
      rw [this]
      simp
theorem Owns.shape {w : World} {B : Nat} {v : Value} {l : List UInt8} (h : Owns w B v l) : (v = .slice none 0 0 ∧ l = []) ∨ ∃ g cap, v = .slice (some ⟨g, 0, none⟩) l.length cap ∧ l.length ≤ cap := by
  rcases h.2 with ⟨h1, h2⟩ | ⟨g, cap, cur, h1, hb, hg, hn, hc, hs, ht⟩
  · exact .inl ⟨h1, List.length_eq_zero_iff.1 h2⟩
  · exact .inr ⟨g, cap, h1, hn⟩

set_option maxHeartbeats 4000000 in
theorem shut_any (w0 w : World) (X : List (Nat × Obj)) (vt vo : Value) (lt lo : List UInt8) (c : UInt8) (hp : Pen w0 w X vt lt vo (lo ++ [c])) (hl : lt.length ≤ 1000000) (hlo : lo.length ≤ 1000000) : Calls Tryz.prog 54 #[vt, vo] w fun e w' => ∃ v' u', e = .returned (.tuple #[v', u']) ∧ Pen w0 w' X v' (lt ++ [c]) u' lo := by
  rcases hp.o.shape with ⟨_, h⟩ | ⟨g, cap, rfl, hcap⟩
  · simp at h
  obtain ⟨_, hc, ho, hcap2⟩ := hp.o.last
  obtain ⟨n, hn⟩ : ∃ n, lo.length = n := ⟨_, rfl⟩
  have hn2 : (lo ++ [c]).length = n + 1 := by simp [hn]
  rw [hn] at hc ho hcap2 hlo
  rw [hn2]
  have H0 : Hid (Pen w0 w X vt lt (.slice (some ⟨g, 0, none⟩) n cap) lo) := ⟨hp.t, ho, hp.ne, hp.b, hp.x⟩
  clear hp hn hn2 ho hcap
  have i1 : ((n : Int) < (n : Int) + 1) := by omega
  have i2 : (n : Int) ≤ (cap : Int) := by omega
  have i3 : (0 : Int) ≤ (n : Int) := by omega
  have hc' : w.drew.cell? ⟨g, n, none⟩ = some (.int .u8 (c.toNat : Int)) := hc
  go_enter Tryz.func54, Tryz.ntmps54
  go_wp2_with fail
  go_region_law (refine step_pen_byte w0 w.drew X rfl (.tmp 10) (.tmp 15) rfl vt _ lt lo c _ (by simp [Act.eval]) H0.out.drew (by simp [Act.eval]) (by omega) ?_; intro v1 w1 H1)
  all_goals go_wp2
  all_goals go_ret2
  all_goals exact ⟨_, _, rfl, H1.out⟩
/-- What a cell of a layout is like. -/
structure CellFit (c : CellV) : Prop where
  depth : 0 ≤ c.depth ∧ c.depth ≤ 64
  kind : c.kind = 1 ∨ c.kind = 2 ∨ c.kind = 3
  x : 0 ≤ c.x ∧ c.x ≤ 4611686018427387904
  y : 0 ≤ c.y ∧ c.y ≤ 4611686018427387904
  w : 0 ≤ c.w ∧ c.w ≤ 4611686018427387904
  h : 0 ≤ c.h ∧ c.h ≤ 4611686018427387904
  p : 0 ≤ c.p ∧ c.p ≤ 4611686018427387904
theorem CellFit.box {c : CellV} (h : CellFit c) : ∀ n ∈ [c.x, c.y, c.w, c.h], -9223372036854775808 ≤ n ∧ n ≤ 9223372036854775807 := by
  intro n hn
  obtain ⟨_, _, h1, h2, h3, h4, _⟩ := h
  simp only [List.mem_cons, List.not_mem_nil, or_false] at hn
  rcases hn with rfl | rfl | rfl | rfl <;> omega
theorem boxT_length (b : Box) : (boxT b).length ≤ 79 := by
  have b1 := putL_length b.w
  have b2 := putL_length b.h
  have b3 := putL_length b.x
  have b4 := putL_length b.y
  unfold boxT
  simp
  omega
theorem popTo_sum (d : Nat) (s : St) : (popTo d s).txt.length + (popTo d s).opn.length = s.txt.length + s.opn.length := by
  unfold popTo
  simp only [List.length_append, List.length_reverse, List.length_drop, List.length_take]
  omega
theorem step_len (pd : Int) (s : St) (c : CellV) : (stepB pd s c).txt.length + (stepB pd s c).opn.length ≤ s.txt.length + s.opn.length + 200 := by
  have h1 := popTo_sum c.depth.toNat s
  have h2 := boxT_length c.box
  have h3 := putL_length c.p
  have h4 : (comma c.depth.toNat pd).length ≤ 1 := by unfold comma; split <;> simp
  unfold stepB
  split
  · simp; omega
  · split
    · simp; omega
    · simp; omega
theorem fold_len : ∀ (l : List CellV) (pd : Int) (s : St), (foldB pd s l).txt.length + (foldB pd s l).opn.length ≤ s.txt.length + s.opn.length + 200 * l.length
  | [], _, _ => by simp [foldB]
  | c :: l, pd, s => by
    have h1 := step_len pd s c
    have h2 := fold_len l c.depth (stepB pd s c)
    have e : foldB pd s (c :: l) = foldB c.depth (stepB pd s c) l := rfl
    rw [e, List.length_cons]
    omega
theorem fold_take (l : List CellV) (k : Nat) (c : CellV) (h : l[k]? = some c) : foldB (-1) ⟨[], []⟩ (l.take (k + 1)) = stepB (lastD (-1) (l.take k)) (foldB (-1) ⟨[], []⟩ (l.take k)) c := by
  have e : l.take (k + 1) = l.take k ++ [c] := by rw [List.take_add_one, h]; rfl
  rw [e, fold_append]
  rfl
theorem lastD_take (l : List CellV) (k : Nat) (c : CellV) (h : l[k]? = some c) (pd : Int) : lastD pd (l.take (k + 1)) = c.depth := by
  have e : l.take (k + 1) = l.take k ++ [c] := by rw [List.take_add_one, h]; rfl
  rw [e, lastD_append]
  rfl
theorem popTo_back {d : Nat} {s : St} {lo : List UInt8} {c : UInt8} (h : s.opn = lo ++ [c]) (hd : d ≤ lo.length) : popTo d ⟨s.txt ++ [c], lo⟩ = popTo d s := by
  obtain ⟨tx, op⟩ := s
  simp only at h
  subst h
  unfold popTo
  simp only [St.mk.injEq]
  refine ⟨?_, ?_⟩
  · rw [List.drop_append_of_le_length hd]; simp
  · rw [List.take_append_of_le_length hd]

def sliceLen : Value → Nat
  | .slice _ n _ => n
  | _ => 0
theorem Owns.len {w : World} {B : Nat} {v : Value} {l : List UInt8} (h : Owns w B v l) : ∃ a cap, v = .slice a l.length cap := by
  rcases h.shape with ⟨rfl, rfl⟩ | ⟨g, cap, rfl, _⟩
  · exact ⟨none, 0, rfl⟩
  · exact ⟨_, cap, rfl⟩

set_option maxHeartbeats 8000000 in
theorem bodyOf_any (w0 : World) (hN : NumV w0) (b off cap n : Nat) (l : List CellV) (hs : SeenIn w0 b off l) (hn : l.length = n) (hn1 : n ≤ 63) (hc : ∀ c ∈ l, CellFit c) : Calls Tryz.prog 39 #[.slice (some ⟨b, off, none⟩) n cap] w0 fun e w' => e = .returned (.string (str (popTo 0 (foldB (-1) ⟨[], []⟩ l)).txt)) ∧ Below w0.heap.size w0 w' := by
  have H0 : Hid (Pen w0 w0 [] (.slice none 0 0) [] (.slice none 0 0) []) := (⟨Owns.nil _ _, Owns.nil _ _, (fun k h => by cases h), Below.refl _ _, (fun p hp => by cases hp)⟩ : Pen _ _ _ _ _ _ _)
  have HS : Hid (SeenIn w0 b off l) := hs
  have HN : Hid (l.length = n) := hn
  have HF : Hid (∀ c ∈ l, CellFit c) := hc
  have HNv : Hid (NumV w0) := hN
  obtain ⟨S, hS⟩ : ∃ S : Nat → St, ∀ k, foldB (-1) ⟨[], []⟩ (l.take k) = S k := ⟨_, fun _ => rfl⟩
  have HSt : Hid (∀ k, foldB (-1) ⟨[], []⟩ (l.take k) = S k) := hS
  have HLn : Hid (∀ k, k ≤ n → (S k).txt.length + (S k).opn.length ≤ 12600) := fun k hk => by
    have := fold_len (l.take k) (-1) ⟨[], []⟩
    rw [hS k, List.length_take] at this
    simp at this
    omega
  clear hs hn hc hN hS
  go_enter Tryz.func39, Tryz.ntmps39
  go_wp2_with fail
  go_loopw [3, 4, 9] (fun vt vo vi wr => ∃ k : Nat, k ≤ n ∧ vi = .int .i64 k ∧ Hid (Pen w0 wr [] vt (S k).txt vo (S k).opn)) (fun _ _ v _ => n - (intOf v).toNat)
  case atStart => exact ⟨0, Nat.zero_le _, rfl, by have e : S 0 = ⟨[], []⟩ := (HSt.out 0).symm; rw [e]; exact H0⟩
  case round =>
    obtain ⟨k, hk, rfl, HP⟩ := hrel
    clear H0
    by_cases hlt : k < n
    · obtain ⟨c, hx⟩ : ∃ c, l[k]? = some c := ⟨_, List.getElem?_eq_getElem (by rw [HN.out]; exact hlt)⟩
      have HX : Hid (l[k]? = some c) := hx
      obtain ⟨q0, q1, q2, q3, q4, q5, q6⟩ := (HS.out.below HP.out.b) k c hx
      have hf := HF.out c (List.mem_of_getElem? hx)
      have HCf : Hid (CellFit c) := hf
      obtain ⟨dd, hd1⟩ : ∃ d : Nat, c.depth = d := ⟨c.depth.toNat, by have := hf.depth; omega⟩
      have hd64 : dd ≤ 64 := by have := hf.depth; omega
      obtain ⟨c0, ck, cx, cy, cw, ch, cp⟩ := c
      simp only at hd1
      subst hd1
      obtain ⟨s0, hs0⟩ : ∃ s, S k = s := ⟨_, rfl⟩
      have HS0 : Hid (S k = s0) := hs0
      have HL0 : Hid (s0.txt.length + s0.opn.length ≤ 12600) := by rw [← hs0]; exact HLn.out k (by omega)
      rw [hs0] at HP
      obtain ⟨G, hG⟩ : ∃ G, wr.heap.size = G := ⟨_, rfl⟩
      obtain ⟨C, hC⟩ : ∃ C : Nat × Obj, C = (G, .cells #[.int .i64 (dd : Int), .int .i64 ck, .int .i64 cx, .int .i64 cy, .int .i64 cw, .int .i64 ch, .int .i64 cp] 36) := ⟨_, rfl⟩
      have HP1 : Hid (Pen w0 (wr.alloc (.cells #[.int .i64 (dd : Int), .int .i64 ck, .int .i64 cx, .int .i64 cy, .int .i64 cw, .int .i64 ch, .int .i64 cp] 36)) [C] u3 s0.txt u4 s0.opn) := by rw [hC, ← hG]; exact HP.out.more _
      have HCe : Hid (∀ Y v l v2 l2, Pen w0 Y [C] v l v2 l2 → ∀ (o : Nat), Y.cell? ⟨G, o, none⟩ = (#[.int .i64 (dd : Int), .int .i64 ck, .int .i64 cx, .int .i64 cy, .int .i64 cw, .int .i64 ch, .int .i64 cp] : Array Value)[o]?) := fun Y v l v2 l2 hY o => by
        have := (hY.x C (List.mem_cons_self ..)).1
        rw [hC] at this
        exact cell_atN this o
      clear hx hf hs0 hC HP
      go_wp2_with fail
      clear hG q0 q1 q2 q3 q4 q5 q6
      go_loopw [3, 4] (fun vt vo wr' => ∃ s' : St, Hid (Pen w0 wr' [C] vt s'.txt vo s'.opn) ∧ Hid (popTo dd s' = popTo dd s0) ∧ Hid (s'.txt.length + s'.opn.length ≤ 12600)) (fun _ vo _ => sliceLen vo)
      case atStart => exact ⟨s0, HP1, rfl, HL0⟩
      case round =>
        obtain ⟨s', H1, H2, H3⟩ := hrel
        clear HP1 HL0
        obtain ⟨a4, c4, h4⟩ := H1.out.o.len
        obtain ⟨m, hm⟩ : ∃ m, s'.opn.length = m := ⟨_, rfl⟩
        rw [hm] at h4
        subst h4
        have cd := HCe.out _ _ _ _ _ H1.out 0
        simp only [List.getElem?_toArray, List.getElem?_cons_zero] at cd
        by_cases hgt : dd < m
        · have hz : (dd : Int) < (m : Int) := by omega
          obtain ⟨lo, cc, hlo⟩ : ∃ lo cc, s'.opn = lo ++ [cc] := by
            rcases List.eq_nil_or_concat s'.opn with h | ⟨lo, cc, h⟩
            · rw [h] at hm; simp at hm; omega
            · exact ⟨lo, cc, by rw [h, List.concat_eq_append]⟩
          have hml : lo.length + 1 = m := by rw [← hm, hlo]; simp
          have HSh : Hid (Calls Tryz.prog 54 #[u3, .slice a4 m c4] wr fun e w' => ∃ v' u', e = .returned (.tuple #[v', u']) ∧ Pen w0 w' [C] v' (s'.txt ++ [cc]) u' lo) := by
            have h := H1.out
            rw [hlo] at h
            have h3 := H3.out
            exact shut_any w0 wr [C] u3 (.slice a4 m c4) s'.txt lo cc h (by omega) (by omega)
          have HB : Hid (popTo dd ⟨s'.txt ++ [cc], lo⟩ = popTo dd s0) := by show _ = _; rw [popTo_back hlo (by omega)]; exact H2.out
          have HL : Hid ((s'.txt ++ [cc]).length + lo.length ≤ 12600) := by
            have h3 := H3.out
            rw [hm] at h3
            show _ ≤ _
            simp
            omega
          have HM : Hid (lo.length + 1 = m) := hml
          clear hlo hml hm H1 H2 H3
          go_wp2_with (go_at_call 54; refine HSh.out.mono ?_; rintro e w2 ⟨v2, x2, rfl, hp2⟩; have H5 := hidden hp2; clear hp2)
          obtain ⟨a5, c5, h5⟩ := H5.out.o.len
          go_roundw
          case rel => exact ⟨⟨s'.txt ++ [cc], lo⟩, H5, HB, HL⟩
          case measure =>
            have := HM.out
            rw [h5]
            simp [sliceLen]
            omega
        · have hz : ¬ (dd : Int) < (m : Int) := by omega
          have HE : Hid (s' = popTo dd s0) := by
            show _ = _
            rw [← H2.out, popTo_id (by omega)]
          obtain ⟨pd, hpd⟩ : ∃ pd, lastD (-1) (l.take k) = pd := ⟨_, rfl⟩
          have HPd : Hid (lastD (-1) (l.take k) = pd) := hpd
          have HPv : Hid ((k = 0 ∧ pd = -1) ∨ ∃ j, k = j + 1 ∧ ∀ X, Below w0.heap.size w0 X → X.cell? ⟨b, off + j * 7, none⟩ = some (.int .i64 pd)) := by
            rcases k with _ | j
            · exact .inl ⟨rfl, by rw [← hpd]; rfl⟩
            · refine .inr ⟨j, rfl, fun X hX => ?_⟩
              obtain ⟨pc, hpc⟩ : ∃ c, l[j]? = some c := ⟨_, List.getElem?_eq_getElem (by rw [HN.out]; omega)⟩
              have e := lastD_take l j pc hpc (-1)
              rw [← hpd, e]
              exact ((HS.out.below hX) j pc hpc).q0
          clear hpd
          go_wp2_with fail
          go_cut [37] (fun v wx => v = .bool (decide ((dd : Int) ≤ pd)) ∧ Hid (Pen w0 wx [C] u3 s'.txt (.slice a4 m c4) s'.opn))
          case first =>
            rcases HPv.out with ⟨rfl, hq⟩ | ⟨j, rfl, hq⟩
            · have hdn : decide ((dd : Int) ≤ pd) = false := by simp; omega
              clear HPv
              go_quiet (fail)
              go_wp2
              go_meet
              exact ⟨by rw [hdn], H1.out.below (below_drewN (Below.refl _ _) _)⟩
            · have hcell := hq wr H1.out.b
              have hq2 : wr.drew.cell? ⟨b, off + j * 7, none⟩ = some (.int .i64 pd) := hcell
              have hj : (j : Int) < (n : Int) := by omega
              have hj0 : (0 : Int) < (j : Int) + 1 := by omega
              clear HPv hq
              go_quiet (fail)
              go_wp2
              go_meet
              exact ⟨rfl, H1.out.below (below_drewN (Below.refl _ _) _)⟩
          case rest =>
            obtain ⟨hb37, H6⟩ := hcut
            subst hb37
            have HBx : Hid (∀ v lt Y, Pen w0 Y [C] v lt (.slice a4 m c4) s'.opn → lt.length ≤ 1000000 → Calls Tryz.prog 55 #[v, .agg #[.int .i64 (dd : Int), .int .i64 ck, .int .i64 cx, .int .i64 cy, .int .i64 cw, .int .i64 ch, .int .i64 cp]] Y fun e w' => ∃ v', e = .returned v' ∧ Pen w0 w' [C] v' (lt ++ boxT ⟨cx, cy, cw, ch⟩) (.slice a4 m c4) s'.opn) := fun v lt Y hY hl => appendBox_any w0 Y [C] HNv.out v (.slice a4 m c4) lt s'.opn ⟨dd, ck, cx, cy, cw, ch, cp⟩ HCf.out.box hY hl
            have hl3 : s'.txt.length ≤ 12600 := by have := H3.out; omega
            have ho3 : s'.opn.length ≤ 12600 := by have := H3.out; omega
            clear H1 H2 H3 hm hgt hz cd HPv
            have hkk := HCf.out.kind
            simp only at hkk
            by_cases hcm : (dd : Int) ≤ pd
            · have hdt : decide ((dd : Int) ≤ pd) = true := by simpa using hcm
              rcases hkk with rfl | rfl | rfl
              · have HSk : Hid (S (k + 1) = ⟨s'.txt ++ (comma dd pd ++ (boxT ⟨cx, cy, cw, ch⟩ ++ 44 :: putL cp)), s'.opn⟩) := by
                  show _ = _
                  rw [← HSt.out (k + 1), fold_take l k _ HX.out, HSt.out k, HS0.out, HPd.out]
                  unfold stepB
                  simp only [Int.toNat_natCast]
                  rw [HE.out]
                  rfl
                have HCm : Hid (comma dd pd = [44]) := by show _ = _; unfold comma; rw [if_pos hcm]
                have hbl := boxT_length ⟨cx, cy, cw, ch⟩
                have hpl := putL_length cp
                go_wp2_with (first | (refine wpList_pen_byte w0 wc [C] rfl _ _ rfl u3 _ _ _ 44 _ (by simp [Act.eval]) H6.out (by simp [Act.eval]) (by omega) ?_; intro v7 w7 H7; have r0 : w7.cell? ⟨G, 0, none⟩ = some (.int .i64 (dd : Int)) := HCe.out _ _ _ _ _ H7.out 0; have r1 : w7.cell? ⟨G, 1, none⟩ = some (.int .i64 1) := HCe.out _ _ _ _ _ H7.out 1; have r2 : w7.cell? ⟨G, 2, none⟩ = some (.int .i64 cx) := HCe.out _ _ _ _ _ H7.out 2; have r3 : w7.cell? ⟨G, 3, none⟩ = some (.int .i64 cy) := HCe.out _ _ _ _ _ H7.out 3; have r4 : w7.cell? ⟨G, 4, none⟩ = some (.int .i64 cw) := HCe.out _ _ _ _ _ H7.out 4; have r5 : w7.cell? ⟨G, 5, none⟩ = some (.int .i64 ch) := HCe.out _ _ _ _ _ H7.out 5; have r6 : w7.cell? ⟨G, 6, none⟩ = some (.int .i64 cp) := HCe.out _ _ _ _ _ H7.out 6) | (go_at_call 55; refine (HBx.out _ _ _ H7.out (by simp; omega)).mono ?_; rintro e w8 ⟨v8, rfl, hp8⟩; have H8 := hidden hp8; have t1 : w8.cell? ⟨G, 1, none⟩ = some (.int .i64 1) := HCe.out _ _ _ _ _ hp8 1; clear hp8))
                have t6 : w8.drew.cell? ⟨G, 6, none⟩ = some (.int .i64 cp) := HCe.out _ _ _ _ _ H8.out.drew 6
                have t8 : (w8.alloc (.cells #[.int .u8 44] 5)).drew.cell? ⟨G, 6, none⟩ = some (.int .i64 cp) := HCe.out _ _ _ _ _ ((H8.out.below ((Below.refl _ _).alloc (Nat.le_refl _) _)).drew) 6
                go_region_law (first
                  | (refine step_pen_str w0 w10 [C] rfl (.tmp 48) (.tmp 51) rfl v9 _ _ _ (by simp [Act.eval]) H10.out (str (putL cp)) (by simp [Act.eval]) (by simp [str_size]; omega) ?_; intro v11 w11 H11)
                  | (refine step_pen_byte w0 w8.drew [C] rfl (.tmp 46) (.tmp 47) rfl v8 _ _ _ 44 _ (by simp [Act.eval]) H8.out.drew (by simp [Act.eval]) (by simp; omega) ?_; intro v9 w9 H9; have t7 : w9.cell? ⟨G, 6, none⟩ = some (.int .i64 cp) := HCe.out _ _ _ _ _ H9.out 6)
                  | (go_simp; go_at_call 56; refine (box_step cp _ w0 HNv.out H9.out.b (by have := HCf.out.p; simp only at this; omega)).mono ?_; rintro e w10 ⟨rfl, hb10⟩; have H10 := hidden (H9.out.below hb10); clear hb10))
                all_goals (
                  go_wp2
                  go_roundw
                  case rel => exact ⟨k + 1, by omega, by go_num, by rw [HSk.out]; exact hidden (by have h := H11.out.less (Y := []) (fun p hp => by cases hp); simp only [HCm.out]; simpa [str_data] using h)⟩
                  case measure => simp [intOf]; omega)
              · have HSk : Hid (S (k + 1) = ⟨s'.txt ++ (comma dd pd ++ (boxT ⟨cx, cy, cw, ch⟩ ++ [123])), s'.opn ++ [125]⟩) := by
                  show _ = _
                  rw [← HSt.out (k + 1), fold_take l k _ HX.out, HSt.out k, HS0.out, HPd.out]
                  unfold stepB
                  simp only [Int.toNat_natCast]
                  rw [HE.out]
                  rfl
                have HCm : Hid (comma dd pd = [44]) := by show _ = _; unfold comma; rw [if_pos hcm]
                have hbl := boxT_length ⟨cx, cy, cw, ch⟩
                have hpl := putL_length cp
                go_wp2_with (first | (refine wpList_pen_byte w0 wc [C] rfl _ _ rfl u3 _ _ _ 44 _ (by simp [Act.eval]) H6.out (by simp [Act.eval]) (by omega) ?_; intro v7 w7 H7; have r0 : w7.cell? ⟨G, 0, none⟩ = some (.int .i64 (dd : Int)) := HCe.out _ _ _ _ _ H7.out 0; have r1 : w7.cell? ⟨G, 1, none⟩ = some (.int .i64 2) := HCe.out _ _ _ _ _ H7.out 1; have r2 : w7.cell? ⟨G, 2, none⟩ = some (.int .i64 cx) := HCe.out _ _ _ _ _ H7.out 2; have r3 : w7.cell? ⟨G, 3, none⟩ = some (.int .i64 cy) := HCe.out _ _ _ _ _ H7.out 3; have r4 : w7.cell? ⟨G, 4, none⟩ = some (.int .i64 cw) := HCe.out _ _ _ _ _ H7.out 4; have r5 : w7.cell? ⟨G, 5, none⟩ = some (.int .i64 ch) := HCe.out _ _ _ _ _ H7.out 5; have r6 : w7.cell? ⟨G, 6, none⟩ = some (.int .i64 cp) := HCe.out _ _ _ _ _ H7.out 6) | (go_at_call 55; refine (HBx.out _ _ _ H7.out (by simp; omega)).mono ?_; rintro e w8 ⟨v8, rfl, hp8⟩; have H8 := hidden hp8; have t1 : w8.cell? ⟨G, 1, none⟩ = some (.int .i64 2) := HCe.out _ _ _ _ _ hp8 1; clear hp8) | (refine wpList_pen_byte w0 w8 [C] rfl _ _ rfl v8 _ _ _ 123 _ (by simp [Act.eval]) H8.out (by simp [Act.eval]) (by simp; omega) ?_; intro v9 w9 H9) | (refine wpList_pen_open w0 w9 [C] rfl _ _ rfl v9 _ _ _ 125 _ (by simp [Act.eval]) H9.out (by simp [Act.eval]) (by omega) ?_; intro v10 w10 H10))
                go_roundw
                case rel => exact ⟨k + 1, by omega, by go_num, by rw [HSk.out]; exact hidden (by have h := H10.out.less (Y := []) (fun p hp => by cases hp); simp only [HCm.out]; simpa using h)⟩
                case measure => simp [intOf]; omega
              · have HSk : Hid (S (k + 1) = ⟨s'.txt ++ (comma dd pd ++ (boxT ⟨cx, cy, cw, ch⟩ ++ [91])), s'.opn ++ [93]⟩) := by
                  show _ = _
                  rw [← HSt.out (k + 1), fold_take l k _ HX.out, HSt.out k, HS0.out, HPd.out]
                  unfold stepB
                  simp only [Int.toNat_natCast]
                  rw [HE.out]
                  rfl
                have HCm : Hid (comma dd pd = [44]) := by show _ = _; unfold comma; rw [if_pos hcm]
                have hbl := boxT_length ⟨cx, cy, cw, ch⟩
                have hpl := putL_length cp
                go_wp2_with (first | (refine wpList_pen_byte w0 wc [C] rfl _ _ rfl u3 _ _ _ 44 _ (by simp [Act.eval]) H6.out (by simp [Act.eval]) (by omega) ?_; intro v7 w7 H7; have r0 : w7.cell? ⟨G, 0, none⟩ = some (.int .i64 (dd : Int)) := HCe.out _ _ _ _ _ H7.out 0; have r1 : w7.cell? ⟨G, 1, none⟩ = some (.int .i64 3) := HCe.out _ _ _ _ _ H7.out 1; have r2 : w7.cell? ⟨G, 2, none⟩ = some (.int .i64 cx) := HCe.out _ _ _ _ _ H7.out 2; have r3 : w7.cell? ⟨G, 3, none⟩ = some (.int .i64 cy) := HCe.out _ _ _ _ _ H7.out 3; have r4 : w7.cell? ⟨G, 4, none⟩ = some (.int .i64 cw) := HCe.out _ _ _ _ _ H7.out 4; have r5 : w7.cell? ⟨G, 5, none⟩ = some (.int .i64 ch) := HCe.out _ _ _ _ _ H7.out 5; have r6 : w7.cell? ⟨G, 6, none⟩ = some (.int .i64 cp) := HCe.out _ _ _ _ _ H7.out 6) | (go_at_call 55; refine (HBx.out _ _ _ H7.out (by simp; omega)).mono ?_; rintro e w8 ⟨v8, rfl, hp8⟩; have H8 := hidden hp8; have t1 : w8.cell? ⟨G, 1, none⟩ = some (.int .i64 3) := HCe.out _ _ _ _ _ hp8 1; clear hp8) | (refine wpList_pen_byte w0 w8 [C] rfl _ _ rfl v8 _ _ _ 91 _ (by simp [Act.eval]) H8.out (by simp [Act.eval]) (by simp; omega) ?_; intro v9 w9 H9) | (refine wpList_pen_open w0 w9 [C] rfl _ _ rfl v9 _ _ _ 93 _ (by simp [Act.eval]) H9.out (by simp [Act.eval]) (by omega) ?_; intro v10 w10 H10))
                go_roundw
                case rel => exact ⟨k + 1, by omega, by go_num, by rw [HSk.out]; exact hidden (by have h := H10.out.less (Y := []) (fun p hp => by cases hp); simp only [HCm.out]; simpa using h)⟩
                case measure => simp [intOf]; omega
            · have hdt : decide ((dd : Int) ≤ pd) = false := by simpa using hcm
              rcases hkk with rfl | rfl | rfl
              · have HSk : Hid (S (k + 1) = ⟨s'.txt ++ (comma dd pd ++ (boxT ⟨cx, cy, cw, ch⟩ ++ 44 :: putL cp)), s'.opn⟩) := by
                  show _ = _
                  rw [← HSt.out (k + 1), fold_take l k _ HX.out, HSt.out k, HS0.out, HPd.out]
                  unfold stepB
                  simp only [Int.toNat_natCast]
                  rw [HE.out]
                  rfl
                have HCm : Hid (comma dd pd = []) := by show _ = _; unfold comma; rw [if_neg hcm]
                have hbl := boxT_length ⟨cx, cy, cw, ch⟩
                have hpl := putL_length cp
                have r0 : wc.cell? ⟨G, 0, none⟩ = some (.int .i64 (dd : Int)) := HCe.out _ _ _ _ _ H6.out 0
                have r1 : wc.cell? ⟨G, 1, none⟩ = some (.int .i64 1) := HCe.out _ _ _ _ _ H6.out 1
                have r2 : wc.cell? ⟨G, 2, none⟩ = some (.int .i64 cx) := HCe.out _ _ _ _ _ H6.out 2
                have r3 : wc.cell? ⟨G, 3, none⟩ = some (.int .i64 cy) := HCe.out _ _ _ _ _ H6.out 3
                have r4 : wc.cell? ⟨G, 4, none⟩ = some (.int .i64 cw) := HCe.out _ _ _ _ _ H6.out 4
                have r5 : wc.cell? ⟨G, 5, none⟩ = some (.int .i64 ch) := HCe.out _ _ _ _ _ H6.out 5
                have r6 : wc.cell? ⟨G, 6, none⟩ = some (.int .i64 cp) := HCe.out _ _ _ _ _ H6.out 6
                go_wp2_with (first | (go_at_call 55; refine (HBx.out _ _ _ H6.out (by omega)).mono ?_; rintro e w8 ⟨v8, rfl, hp8⟩; have H8 := hidden hp8; have t1 : w8.cell? ⟨G, 1, none⟩ = some (.int .i64 1) := HCe.out _ _ _ _ _ hp8 1; clear hp8))
                have t6 : w8.drew.cell? ⟨G, 6, none⟩ = some (.int .i64 cp) := HCe.out _ _ _ _ _ H8.out.drew 6
                have t8 : (w8.alloc (.cells #[.int .u8 44] 5)).drew.cell? ⟨G, 6, none⟩ = some (.int .i64 cp) := HCe.out _ _ _ _ _ ((H8.out.below ((Below.refl _ _).alloc (Nat.le_refl _) _)).drew) 6
                go_region_law (first
                  | (refine step_pen_str w0 w10 [C] rfl (.tmp 48) (.tmp 51) rfl v9 _ _ _ (by simp [Act.eval]) H10.out (str (putL cp)) (by simp [Act.eval]) (by simp [str_size]; omega) ?_; intro v11 w11 H11)
                  | (refine step_pen_byte w0 w8.drew [C] rfl (.tmp 46) (.tmp 47) rfl v8 _ _ _ 44 _ (by simp [Act.eval]) H8.out.drew (by simp [Act.eval]) (by simp; omega) ?_; intro v9 w9 H9; have t7 : w9.cell? ⟨G, 6, none⟩ = some (.int .i64 cp) := HCe.out _ _ _ _ _ H9.out 6)
                  | (go_simp; go_at_call 56; refine (box_step cp _ w0 HNv.out H9.out.b (by have := HCf.out.p; simp only at this; omega)).mono ?_; rintro e w10 ⟨rfl, hb10⟩; have H10 := hidden (H9.out.below hb10); clear hb10))
                all_goals (
                  go_wp2
                  go_roundw
                  case rel => exact ⟨k + 1, by omega, by go_num, by rw [HSk.out]; exact hidden (by have h := H11.out.less (Y := []) (fun p hp => by cases hp); simp only [HCm.out, List.nil_append]; simpa [str_data] using h)⟩
                  case measure => simp [intOf]; omega)
              · have HSk : Hid (S (k + 1) = ⟨s'.txt ++ (comma dd pd ++ (boxT ⟨cx, cy, cw, ch⟩ ++ [123])), s'.opn ++ [125]⟩) := by
                  show _ = _
                  rw [← HSt.out (k + 1), fold_take l k _ HX.out, HSt.out k, HS0.out, HPd.out]
                  unfold stepB
                  simp only [Int.toNat_natCast]
                  rw [HE.out]
                  rfl
                have HCm : Hid (comma dd pd = []) := by show _ = _; unfold comma; rw [if_neg hcm]
                have hbl := boxT_length ⟨cx, cy, cw, ch⟩
                have hpl := putL_length cp
                have r0 : wc.cell? ⟨G, 0, none⟩ = some (.int .i64 (dd : Int)) := HCe.out _ _ _ _ _ H6.out 0
                have r1 : wc.cell? ⟨G, 1, none⟩ = some (.int .i64 2) := HCe.out _ _ _ _ _ H6.out 1
                have r2 : wc.cell? ⟨G, 2, none⟩ = some (.int .i64 cx) := HCe.out _ _ _ _ _ H6.out 2
                have r3 : wc.cell? ⟨G, 3, none⟩ = some (.int .i64 cy) := HCe.out _ _ _ _ _ H6.out 3
                have r4 : wc.cell? ⟨G, 4, none⟩ = some (.int .i64 cw) := HCe.out _ _ _ _ _ H6.out 4
                have r5 : wc.cell? ⟨G, 5, none⟩ = some (.int .i64 ch) := HCe.out _ _ _ _ _ H6.out 5
                have r6 : wc.cell? ⟨G, 6, none⟩ = some (.int .i64 cp) := HCe.out _ _ _ _ _ H6.out 6
                go_wp2_with (first | (go_at_call 55; refine (HBx.out _ _ _ H6.out (by omega)).mono ?_; rintro e w8 ⟨v8, rfl, hp8⟩; have H8 := hidden hp8; have t1 : w8.cell? ⟨G, 1, none⟩ = some (.int .i64 2) := HCe.out _ _ _ _ _ hp8 1; clear hp8) | (refine wpList_pen_byte w0 w8 [C] rfl _ _ rfl v8 _ _ _ 123 _ (by simp [Act.eval]) H8.out (by simp [Act.eval]) (by simp; omega) ?_; intro v9 w9 H9) | (refine wpList_pen_open w0 w9 [C] rfl _ _ rfl v9 _ _ _ 125 _ (by simp [Act.eval]) H9.out (by simp [Act.eval]) (by omega) ?_; intro v10 w10 H10))
                go_roundw
                case rel => exact ⟨k + 1, by omega, by go_num, by rw [HSk.out]; exact hidden (by have h := H10.out.less (Y := []) (fun p hp => by cases hp); simp only [HCm.out, List.nil_append]; simpa using h)⟩
                case measure => simp [intOf]; omega
              · have HSk : Hid (S (k + 1) = ⟨s'.txt ++ (comma dd pd ++ (boxT ⟨cx, cy, cw, ch⟩ ++ [91])), s'.opn ++ [93]⟩) := by
                  show _ = _
                  rw [← HSt.out (k + 1), fold_take l k _ HX.out, HSt.out k, HS0.out, HPd.out]
                  unfold stepB
                  simp only [Int.toNat_natCast]
                  rw [HE.out]
                  rfl
                have HCm : Hid (comma dd pd = []) := by show _ = _; unfold comma; rw [if_neg hcm]
                have hbl := boxT_length ⟨cx, cy, cw, ch⟩
                have hpl := putL_length cp
                have r0 : wc.cell? ⟨G, 0, none⟩ = some (.int .i64 (dd : Int)) := HCe.out _ _ _ _ _ H6.out 0
                have r1 : wc.cell? ⟨G, 1, none⟩ = some (.int .i64 3) := HCe.out _ _ _ _ _ H6.out 1
                have r2 : wc.cell? ⟨G, 2, none⟩ = some (.int .i64 cx) := HCe.out _ _ _ _ _ H6.out 2
                have r3 : wc.cell? ⟨G, 3, none⟩ = some (.int .i64 cy) := HCe.out _ _ _ _ _ H6.out 3
                have r4 : wc.cell? ⟨G, 4, none⟩ = some (.int .i64 cw) := HCe.out _ _ _ _ _ H6.out 4
                have r5 : wc.cell? ⟨G, 5, none⟩ = some (.int .i64 ch) := HCe.out _ _ _ _ _ H6.out 5
                have r6 : wc.cell? ⟨G, 6, none⟩ = some (.int .i64 cp) := HCe.out _ _ _ _ _ H6.out 6
                go_wp2_with (first | (go_at_call 55; refine (HBx.out _ _ _ H6.out (by omega)).mono ?_; rintro e w8 ⟨v8, rfl, hp8⟩; have H8 := hidden hp8; have t1 : w8.cell? ⟨G, 1, none⟩ = some (.int .i64 3) := HCe.out _ _ _ _ _ hp8 1; clear hp8) | (refine wpList_pen_byte w0 w8 [C] rfl _ _ rfl v8 _ _ _ 91 _ (by simp [Act.eval]) H8.out (by simp [Act.eval]) (by simp; omega) ?_; intro v9 w9 H9) | (refine wpList_pen_open w0 w9 [C] rfl _ _ rfl v9 _ _ _ 93 _ (by simp [Act.eval]) H9.out (by simp [Act.eval]) (by omega) ?_; intro v10 w10 H10))
                go_roundw
                case rel => exact ⟨k + 1, by omega, by go_num, by rw [HSk.out]; exact hidden (by have h := H10.out.less (Y := []) (fun p hp => by cases hp); simp only [HCm.out, List.nil_append]; simpa using h)⟩
                case measure => simp [intOf]; omega
    · obtain rfl : k = n := by omega
      have HE : Hid (S k = foldB (-1) ⟨[], []⟩ l) := by
        show _ = _
        rw [← HSt.out k, List.take_of_length_le (by rw [HN.out]; omega)]
      obtain ⟨s0, hs0⟩ : ∃ s, S k = s := ⟨_, rfl⟩
      have HF0 : Hid (popTo 0 s0 = popTo 0 (foldB (-1) ⟨[], []⟩ l)) := by show _ = _; rw [← HE.out, hs0]
      have HL0 : Hid (s0.txt.length + s0.opn.length ≤ 12600) := by rw [← hs0]; exact HLn.out k (by omega)
      rw [hs0] at HP
      clear hs0 HE
      go_wp2_with fail
      go_loopw [3, 4] (fun vt vo wr' => ∃ s' : St, Hid (Pen w0 wr' [] vt s'.txt vo s'.opn) ∧ Hid (popTo 0 s' = popTo 0 s0) ∧ Hid (s'.txt.length + s'.opn.length ≤ 12600)) (fun _ vo _ => sliceLen vo)
      case atStart => exact ⟨s0, HP, rfl, HL0⟩
      case round =>
        obtain ⟨s', H1, H2, H3⟩ := hrel
        clear HP HL0
        obtain ⟨a4, c4, h4⟩ := H1.out.o.len
        obtain ⟨m, hm⟩ : ∃ m, s'.opn.length = m := ⟨_, rfl⟩
        rw [hm] at h4
        subst h4
        by_cases hgt : 0 < m
        · have hz : (0 : Int) < (m : Int) := by omega
          obtain ⟨lo, cc, hlo⟩ : ∃ lo cc, s'.opn = lo ++ [cc] := by
            rcases List.eq_nil_or_concat s'.opn with h | ⟨lo, cc, h⟩
            · rw [h] at hm; simp at hm; omega
            · exact ⟨lo, cc, by rw [h, List.concat_eq_append]⟩
          have hml : lo.length + 1 = m := by rw [← hm, hlo]; simp
          have HSh : Hid (Calls Tryz.prog 54 #[u3, .slice a4 m c4] wr fun e w' => ∃ v' u', e = .returned (.tuple #[v', u']) ∧ Pen w0 w' [] v' (s'.txt ++ [cc]) u' lo) := by
            have h := H1.out
            rw [hlo] at h
            have h3 := H3.out
            exact shut_any w0 wr [] u3 (.slice a4 m c4) s'.txt lo cc h (by omega) (by omega)
          have HB : Hid (popTo 0 ⟨s'.txt ++ [cc], lo⟩ = popTo 0 s0) := by show _ = _; rw [popTo_back hlo (by omega)]; exact H2.out
          have HL : Hid ((s'.txt ++ [cc]).length + lo.length ≤ 12600) := by
            have h3 := H3.out
            rw [hm] at h3
            show _ ≤ _
            simp
            omega
          have HM : Hid (lo.length + 1 = m) := hml
          clear hlo hml hm H1 H2 H3
          go_wp2_with (go_at_call 54; refine HSh.out.mono ?_; rintro e w2 ⟨v2, x2, rfl, hp2⟩; have H5 := hidden hp2; clear hp2)
          obtain ⟨a5, c5, h5⟩ := H5.out.o.len
          go_roundw
          case rel => exact ⟨⟨s'.txt ++ [cc], lo⟩, H5, HB, HL⟩
          case measure =>
            have := HM.out
            rw [h5]
            simp [sliceLen]
            omega
        · have hz : ¬ (0 : Int) < (m : Int) := by omega
          have HEq : Hid (s'.txt = (popTo 0 (foldB (-1) ⟨[], []⟩ l)).txt) := by
            show _ = _
            rw [← HF0.out, ← H2.out, popTo_id (by omega)]
          have HBl : Hid (Below w0.heap.size w0 wr) := H1.out.b
          have hcv := H1.out.t.text (P := Tryz.prog) 67 9 5 Tryz.underlying67 Tryz.underlying5 Tryz.underlying9
          clear hm H1 H2 H3
          go_wp2
          go_ret
          exact ⟨ret_str (by rw [HEq.out]), HBl.out⟩
end Go.Proofs.YtglncninkocgaabGreatDoor
