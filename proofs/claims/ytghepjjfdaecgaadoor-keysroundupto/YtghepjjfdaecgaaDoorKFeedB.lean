/-
  Keys: Feed, on its text.
-/
import Derived.Test.YtghepjjfdaecgaaDoorKFeed
namespace Go.Proofs.YtghepjjfdaecgaaDoor
open Go.RowKit
set_option linter.unusedVariables false
set_option maxRecDepth 100000

theorem feed_cons (h : List UInt8) (c : UInt8) (r : List UInt8) : feedF h (c :: r) = ((feedF (takeF h c).1 r).1, if (takeF h c).2.1 = 0 then (feedF (takeF h c).1 r).2 else (takeF h c).2 :: (feedF (takeF h c).1 r).2) := rfl
theorem feed_append : ∀ (a b h : List UInt8), feedF h (a ++ b) = ((feedF (feedF h a).1 b).1, (feedF h a).2 ++ (feedF (feedF h a).1 b).2)
  | [], b, h => by simp [feedF]
  | c :: a, b, h => by
    rw [List.cons_append, feed_cons, feed_cons, feed_append a b (takeF h c).1]
    simp only []
    split <;> simp
theorem feed_one (h : List UInt8) (b : UInt8) : feedF h [b] = ((takeF h b).1, if (takeF h b).2.1 = 0 then [] else [(takeF h b).2]) := rfl
theorem full_short {l : List UInt8} (h : fullB l = false) : l.length ≤ 3 := by
  match l with
  | [] => simp
  | [_] => simp
  | [_, _] => simp
  | [_, _, _] => simp
  | a :: b :: c :: d :: r => rw [full_long] at h; cases h
theorem behind_len (l : List UInt8) : l.length ≤ (behindF l).1.length + 1 := by
  unfold behindF
  split
  · simp
  · simp
theorem take0_len (b : UInt8) : (take0 b).1.length ≤ 1 := by
  unfold take0
  split
  · simp
  · split
    · simp
    · split <;> simp
theorem chF_len (h : List UInt8) (b : UInt8) : (chF h b).1.length ≤ 4 := by
  unfold chF
  simp only []
  split
  · split
    · have := take0_len b; omega
    · simp
  · rename_i hf
    have h1 := full_short (l := (behindF (h ++ [b])).1) (by simpa using hf)
    have h2 := behind_len (h ++ [b])
    simp only [] at h2 ⊢
    omega
theorem take_len (h : List UInt8) (b : UInt8) (hl : h.length ≤ 255) : (takeF h b).1.length ≤ 255 := by
  by_cases h0 : h = []
  · subst h0
    show (take0 b).1.length ≤ 255
    have := take0_len b; omega
  · by_cases h1 : h.take 2 = [27, 91]
    · rw [takeF_seq h1]
      unfold seqT
      split
      · have := take0_len b; omega
      · split
        · split
          · simp
          · simp only [List.length_append, List.length_cons, List.length_nil]; omega
        · simp
    · by_cases h2 : h.take 2 = [27, 79]
      · rw [takeF_shift h2]; simp
      · by_cases h3 : h = [27]
        · subst h3
          have e : takeF [27] b = if b = 91 ∨ b = 79 then ([27, b], (0, 0)) else if b.toNat < 128 then ([], mods2 (loneF b.toNat)) else chF [27] b := rfl
          rw [e]
          split
          · simp
          · split
            · simp
            · have := chF_len [27] b; omega
        · rw [takeF_chr h0 h1 h2 h3]
          have := chF_len h b; omega
theorem feed_len : ∀ (t h : List UInt8), h.length ≤ 255 → (feedF h t).1.length ≤ 255
  | [], h, hl => hl
  | b :: t, h, hl => feed_len t _ (take_len h b hl)
theorem feed_few : ∀ (t h : List UInt8), (feedF h t).2.length ≤ t.length
  | [], h => Nat.le_refl _
  | b :: t, h => by
    have := feed_few t (takeF h b).1
    unfold feedF
    simp only []
    split
    · simp only [List.length_cons]; omega
    · simp only [List.length_cons]; omega
/-- What Feed leaves. -/
structure Fd (B d : Nat) (w0 w w' : World) (lv : Value) (l : List UInt8) (ks : List (Int × Int)) : Prop where
  dc : ∃ v', Dc B d w0 w' v' l
  ft : Ft d w w'
  keys : KeysAt w' w.heap.size lv ks
  size : w.heap.size ≤ w'.heap.size
theorem Dc.rebase {B d : Nat} {w0 w : World} {v : Value} {l : List UInt8} (h : Dc B d w0 w v l) : Dc B d w w v l := ⟨Ap.refl _ _ _, h.blk, h.own, h.bw, h.lo⟩
theorem Dc.onto {B d : Nat} {w0 w w' : World} {v v' : Value} {l l' : List UInt8} (h : Dc B d w0 w v l) (k : Dc B d w w' v' l') : Dc B d w0 w' v' l' := ⟨h.ap.trans k.ap, k.blk, k.own, h.bs, h.lo⟩
theorem Dc.dtype {B d : Nat} {w0 w : World} {v : Value} {l : List UInt8} (h : Dc B d w0 w v l) : ∃ v T, T ≠ 30 ∧ w.heap[d]? = some (.cells v T (0, 0)) := ⟨_, _, by decide, h.blk⟩
/-- Keys are appended, the decoder stands. -/
theorem Dc.keysGrow {B d : Nat} {w0 w w' : World} {v tv : Value} {l : List UInt8} {ks : List (Int × Int)} {C : Nat} (h : Dc B d w0 w v l) (hk : KeysAt w C tv ks) (hC : B ≤ C) (hg : w.grownBy w' tv.ownBlock) : Dc B d w0 w' v l := by
  have hne : ∀ (k : Nat) (cs : Array Value) (T : TypeId), w.heap[k]? = some (.cells cs T (0, 0)) → T ≠ 30 → w'.heap[k]? = some (.cells cs T (0, 0)) := fun k cs T hk1 hT => by
    refine (hg.block k (lt_block hk1) (fun e => ?_)).trans hk1
    obtain ⟨_, cur, hk2⟩ := hk.blk e.symm
    have h1 := hk2.symm.trans hk1
    simp only [Option.some.injEq, Obj.cells.injEq] at h1
    exact hT h1.2.1.symm
  refine ⟨h.ap.grown hg (fun k hk1 => Nat.le_trans hC (hk.blk hk1).1) h.bw, hne d _ _ h.blk (by decide), h.own.keep fun g hg2 => ?_, h.bs, h.lo⟩
  rcases h.own.2 with ⟨e, _⟩ | ⟨g', cap, cur, e, _, hk2, _⟩
  · rw [e] at hg2; cases hg2
  · rw [e] at hg2; cases hg2
    rw [hk2]
    exact hne _ _ _ hk2 (by decide)
theorem Ft.keysGrow {d : Nat} {w w1 w' : World} {tv : Value} {ks : List (Int × Int)} (h : Ft d w w1) (hk : KeysAt w1 w.heap.size tv ks) (hg : w1.grownBy w' tv.ownBlock) (hs : w.heap.size ≤ w1.heap.size) : Ft d w w' := fun k cs T fr hk1 hT hd => by
  have h1 := lt_block hk1
  refine (hg.block k (by omega) (fun e => ?_)).trans (h k cs T fr hk1 hT hd)
  have := (hk.blk e.symm).1
  omega
theorem Fd.more {B d : Nat} {w0 w w1 w2 : World} {lv : Value} {l : List UInt8} {ks : List (Int × Int)} (h : Fd B d w0 w w1 lv l ks) (hb : Below w1.heap.size w1 w2) : Fd B d w0 w w2 lv l ks := by
  obtain ⟨v, hd⟩ := h.dc
  exact ⟨⟨v, hd.more hb⟩, h.ft.trans (Ft.of hb), h.keys.below hb, Nat.le_trans h.size hb.size⟩
theorem Fd.grow {B d : Nat} {w0 w w1 w2 : World} {lv lv' : Value} {l : List UInt8} {ks : List (Int × Int)} {k : Int × Int} (h : Fd B d w0 w w1 lv l ks) (hB : B ≤ w.heap.size) (hk : KeysAt w2 w.heap.size lv' (ks ++ [k])) (hg : w1.grownBy w2 lv.ownBlock) : Fd B d w0 w w2 lv' l (ks ++ [k]) := by
  obtain ⟨v, hd⟩ := h.dc
  exact ⟨⟨v, hd.keysGrow h.keys hB hg⟩, h.ft.keysGrow h.keys hg h.size, hk, Nat.le_trans h.size hg.size⟩
set_option maxHeartbeats 4000000 in
theorem feed_any {B d : Nat} {w0 w : World} {v : Value} {l : List UInt8} (h : Dc B d w0 w v l) (hT : Tabs w0) (hl : l.length ≤ 255) (t : List UInt8) (ht : t.length ≤ 9000000) :
    Calls Tryd.prog 10 #[.pointer (some ⟨d, 0, none⟩), .string (str t)] w fun r w' => ∃ lv, r = .returned lv ∧ Fd B d w0 w w' lv (feedF l t).1 (feedF l t).2 := by
  have HD := hidK h
  have HTT := hidK hT
  have HBC : Hid (B ≤ w.heap.size) := h.bw
  obtain ⟨N, hN⟩ : ∃ N, t.length = N := ⟨_, rfl⟩
  obtain ⟨S, hS⟩ : ∃ S, str t = S := ⟨_, rfl⟩
  have hSz : S.size = N := by rw [← hS]; exact hN
  have HAt : Hid (∀ (k : Nat) (hk : k < S.size) (hk2 : k < t.length), S[k] = t[k]) := fun k hk hk2 => by subst hS; rfl
  have HN := hidK hN
  have HL : Hid (l.length ≤ 255) := hl
  have hN2 : N ≤ 9000000 := by omega
  rw [hS]
  clear h hT hN hS hl ht
  go_enter Tryd.func10, Tryd.ntmps10
  go_wp2_with fail
  go_loopw [10, 5] (fun i tv wr => ∃ k : Nat, k ≤ N ∧ i = .int .i64 k ∧ Hid (Fd B d w0 w wr tv (feedF l (t.take k)).1 (feedF l (t.take k)).2)) (fun i _ _ => N - (intOf i).toNat)
  case atStart => exact ⟨0, Nat.zero_le _, rfl, ⟨⟨_, HD.out⟩, Ft.refl _ _, KeysAt.nil _ _, Nat.le_refl _⟩⟩
  case round =>
    obtain ⟨k, hk, rfl, HF⟩ := hrel
    obtain ⟨ad, c', rfl⟩ := HF.out.keys.slice
    obtain ⟨n', hn'⟩ : ∃ n', (feedF l (t.take k)).2.length = n' := ⟨_, rfl⟩
    rw [hn'] at HF ⊢
    by_cases hlt : k < N
    · have hkS : k < S.size := by omega
      have hkt : k < t.length := by rw [HN.out]; exact hlt
      have hgc := HAt.out k hkS hkt
      obtain ⟨b, hb⟩ : ∃ b, t[k] = b := ⟨_, rfl⟩
      rw [hb] at hgc
      obtain ⟨v1, hd1⟩ := HF.out.dc
      have hle := feed_len (t.take k) l HL.out
      have HTk := hidK (take_any hd1.rebase (hd1.tabs HTT.out) (by omega) b)
      have hsn : t.take (k + 1) = t.take k ++ [b] := by rw [List.take_succ_eq_append_getElem hkt, hb]
      have hfe : feedF l (t.take (k + 1)) = ((takeF (feedF l (t.take k)).1 b).1, (feedF l (t.take k)).2 ++ if (takeF (feedF l (t.take k)).1 b).2.1 = 0 then [] else [(takeF (feedF l (t.take k)).1 b).2]) := by rw [hsn, feed_append, feed_one]
      have HFe := hidK hfe
      have hfw := feed_few (t.take k) l
      have HFw : Hid ((feedF l (t.take k)).2.length ≤ 9000000) := by
        have : (t.take k).length ≤ N := by rw [List.length_take]; omega
        show _ ≤ _
        omega
      obtain ⟨x, hx⟩ : ∃ x, (takeF (feedF l (t.take k)).1 b).2.1 = x := ⟨_, rfl⟩
      obtain ⟨y, hy⟩ : ∃ y, (takeF (feedF l (t.take k)).1 b).2.2 = y := ⟨_, rfl⟩
      obtain ⟨l', hl'⟩ : ∃ l', (takeF (feedF l (t.take k)).1 b).1 = l' := ⟨_, rfl⟩
      have HXY : Hid ((takeF (feedF l (t.take k)).1 b) = (l', (x, y))) := by show _ = _; rw [← hx, ← hy, ← hl']
      rw [HXY.out] at HTk
      have HD1 := hidK hd1
      clear hd1 hb hsn hfe hfw hx hy hl' hle hkt
      obtain ⟨bn, hbn⟩ : ∃ bn, b.toNat = bn := ⟨_, rfl⟩
      rw [hbn] at HTk
      have hgn : (S[k]'hkS).toNat = bn := by rw [hgc]; exact hbn
      clear hgc hbn
      go_wp2_with fail
      refine HTk.out.mono ?_
      rintro e w1 ⟨rfl, ⟨v2, hd2⟩, hf2⟩
      have hk2 := (HF.out.keys).ft hf2 HD1.out.dtype
      have hsz : w.heap.size ≤ w1.heap.size := Nat.le_trans HF.out.size hd2.ap.size
      have hF1 : Fd B d w0 w w1 (.slice ad n' c') l' (feedF l (t.take k)).2 := ⟨⟨v2, HD1.out.onto hd2⟩, HF.out.ft.trans hf2, hk2, hsz⟩
      obtain ⟨V, hV⟩ : ∃ V, w1.alloc (.cells #[.int .i64 x, .int .i64 y] 30) = V := ⟨_, rfl⟩
      obtain ⟨Q, hQ⟩ : ∃ Q, w1.heap.size = Q := ⟨_, rfl⟩
      have hbV : Below w1.heap.size w1 V := by rw [← hV]; exact (Below.refl _ _).alloc (Nat.le_refl _) _
      have hqV : V.heap[Q]? = some (.cells #[.int .i64 x, .int .i64 y] 30 (0, 0)) := by rw [← hV, ← hQ]; exact heap_alloc_new w1 _
      have q0 : V.cell? ⟨Q, 0, none⟩ = some (.int .i64 x) := cell_at hqV 0
      have q1 : V.cell? ⟨Q, 1, none⟩ = some (.int .i64 y) := cell_at hqV 1
      have HFV := hidK (hF1.more hbV)
      clear hd2 hf2 hk2 hsz hF1 hbV hqV
      by_cases hx0 : x = 0
      · subst hx0
        have HR : Hid (Fd B d w0 w V (.slice ad n' c') (feedF l (t.take (k + 1))).1 (feedF l (t.take (k + 1))).2) := by
          rw [HFe.out, HXY.out]
          simp only [if_true, List.append_nil]
          exact HFV.out
        go_wp2_with fail
        go_roundw
        case rel => exact ⟨k + 1, by omega, by first | rfl | go_num, HR⟩
        case measure => simp [intOf]; omega
      · have e0 : (x == 0) = false := by simpa using hx0
        have HFx : Hid (feedF l (t.take (k + 1)) = (l', (feedF l (t.take k)).2 ++ [(x, y)])) := by
          show _ = _
          rw [HFe.out, HXY.out]
          simp only [if_neg hx0]
        obtain ⟨ks, hks⟩ : ∃ ks, (feedF l (t.take k)).2 = ks := ⟨_, rfl⟩
        rw [hks] at HFV HFx HFw
        have hB1 : w.heap.size ≤ (V.alloc (.cells #[.int .i64 x, .int .i64 y] 30)).heap.size := by have := HFV.out.size; simp; omega
        have HB1 := hidK hB1
        have hke := HFV.out.keys.below ((Below.refl _ _).alloc (Nat.le_refl _) (.cells #[.int .i64 x, .int .i64 y] 30))
        have HKe := hidK hke
        have HFA := hidK (HFV.out.more ((Below.refl _ _).alloc (Nat.le_refl _) (.cells #[.int .i64 x, .int .i64 y] 30)))
        clear hx0 hks hB1 hke
        go_wp2_with (at_builtin; refine wpList_append_key _ rfl (.tmp 21) (.tmp 23) rfl w.heap.size _ ks rfl HKe.out V.heap.size (x, y) rfl (heap_alloc_new V _) ?x1 HB1.out ?_; (case x1 => have := HFw.out; omega); intro tv' w2 hk3 hg3; have HR : Hid (Fd B d w0 w w2 tv' (feedF l (t.take (k + 1))).1 (feedF l (t.take (k + 1))).2) := (by rw [HFx.out]; exact HFA.out.grow HBC.out hk3 hg3); clear hk3 hg3)
        go_roundw
        case rel => exact ⟨k + 1, by omega, by first | rfl | go_num, HR⟩
        case measure => simp [intOf]; omega
    · obtain rfl : k = N := by omega
      have HE : Hid (t.take k = t) := List.take_of_length_le (by rw [HN.out]; exact Nat.le_refl _)
      rw [HE.out] at HF
      go_wp2_with fail
      go_ret
      exact ⟨_, rfl, HF.out⟩
end Go.Proofs.YtghepjjfdaecgaaDoor
