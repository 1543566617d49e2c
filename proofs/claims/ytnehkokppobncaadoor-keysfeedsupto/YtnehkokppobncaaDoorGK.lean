/-
  Keys: lists of keys; Feed.
  Keys: Feed, on its text.
  Keys: New, Held, Flush.
-/
import Derived.Test.YtnehkokppobncaaDoorGJ
import Derived.BigQuiet
import Derived.Deep.QuietTactic
namespace Go.Proofs.YtnehkokppobncaaDoor
open Go.RowKit
set_option linter.unusedVariables false
set_option maxRecDepth 100000

def keyV (k : Int × Int) : List Value := [.int .i64 k.1, .int .i64 k.2]
/-- A list of keys that is one's own. -/
def KeysAt (w : World) (B : Nat) (v : Value) (ks : List (Int × Int)) : Prop := w.ownsRow B 36 2 v ks.length (ks.flatMap keyV)
theorem keys_flat (ks : List (Int × Int)) : (ks.flatMap keyV).length = ks.length * 2 := by
  induction ks with
  | nil => rfl
  | cons k r ih => rw [List.flatMap_cons, List.length_append, ih]; simp [keyV]; omega
theorem KeysAt.nil (w : World) (B : Nat) : KeysAt w B (.slice none 0 0) [] := World.ownsRow_nil w B _ _
theorem KeysAt.keep {w w' : World} {B : Nat} {v : Value} {ks : List (Int × Int)} (h : KeysAt w B v ks) (hk : ∀ g, v.ownBlock = some g → w'.heap[g]? = w.heap[g]?) : KeysAt w' B v ks := by
  refine ⟨h.1, ?_⟩
  rcases h.2 with h0 | ⟨g, cap, cur, rfl, hb, hg, r⟩
  · exact .inl h0
  · exact .inr ⟨g, cap, cur, rfl, hb, (hk g rfl).trans hg, r⟩
theorem KeysAt.blk {w : World} {B : Nat} {v : Value} {ks : List (Int × Int)} (h : KeysAt w B v ks) {g : Nat} (hg : v.ownBlock = some g) : B ≤ g ∧ ∃ cur, w.heap[g]? = some (.cells cur 36 (0, 0)) := by
  rcases h.2 with ⟨e, _⟩ | ⟨g', cap, cur, e, hb, hk, _⟩
  · rw [e] at hg; cases hg
  · rw [e] at hg; cases hg
    exact ⟨hb, cur, hk⟩
theorem KeysAt.ft {w w' : World} {B d : Nat} {v : Value} {ks : List (Int × Int)} (h : KeysAt w B v ks) (hf : Ft d w w') (hd : ∃ v T, T ≠ 36 ∧ w.heap[d]? = some (.cells v T (0, 0))) : KeysAt w' B v ks := by
  refine h.keep fun g hg => ?_
  obtain ⟨_, cur, hk⟩ := h.blk hg
  rw [hk]
  refine hf g _ _ _ hk (by decide) ?_
  intro e
  obtain ⟨v', T, hT, hd⟩ := hd
  rw [e, hd] at hk
  simp only [Option.some.injEq, Obj.cells.injEq] at hk
  exact hT hk.2.1
theorem KeysAt.below {w w' : World} {B : Nat} {v : Value} {ks : List (Int × Int)} (h : KeysAt w B v ks) (hb : Below w.heap.size w w') : KeysAt w' B v ks := h.keep fun g hg => by
  obtain ⟨_, cur, hk⟩ := h.blk hg
  exact hb.block g (lt_block hk)
theorem KeysAt.slice {w : World} {B : Nat} {v : Value} {ks : List (Int × Int)} (h : KeysAt w B v ks) : ∃ a c, v = .slice a ks.length c := by
  rcases h.2 with ⟨e, h0⟩ | ⟨g', cap, cur, e, hb, hk, _⟩
  · exact ⟨_, _, by rw [e, h0]⟩
  · exact ⟨_, _, e⟩
theorem infoKeyE : (Tryd.prog.info? 36).map (fun i => (i.zero, i.size, i.bytes)) = some (some (.agg #[.int .i64 0, .int .i64 0]), 2, 16) := by kernel_rfl
theorem underKeys : Tryd.prog.underlying 27 = some (.slice 36) := by kernel_rfl
/-- A key is appended. -/
theorem wpList_append_key (w : World) {ops : Array Oper} {rest : List Oper} {o : Oper} {a : Act} {Q : Exit → Act → World → Prop} (hgd : o.guard = none) (s x : Operand)
    (ho : o.op = .call { callee := .builtin .append, args := #[s, x], argTypes := #[27, 27] })
    (B : Nat) (v : Value) (ks : List (Int × Int)) (hs : a.eval s = v) (hown : KeysAt w B v ks) (G : Nat) (k : Int × Int) (hx : a.eval x = .slice (some ⟨G, 0, none⟩) 1 1) (hG : w.heap[G]? = some (.cells #[.int .i64 k.1, .int .i64 k.2] 36 (0, 0)))
    (hlen : ks.length ≤ 20000000) (hbase : B ≤ w.heap.size)
    (h : ∀ v' w', KeysAt w' B v' (ks ++ [k]) → w.grownBy w' v.ownBlock → wpList Tryd.prog ops Q rest (a.put o.dst v') w') : wpList Tryd.prog ops Q (o :: rest) a w := by
  obtain ⟨i0, hi, hz0, hz1, hz2⟩ := info_parts infoKeyE
  refine wpList_append_own w hgd s x 27 ho B 36 i0 (.agg #[.int .i64 0, .int .i64 0]) 2 16 underKeys hi hz0 hz1 hz2 rfl (by decide) v ks.length (ks.flatMap keyV) hs hown ⟨G, 0, none⟩ 1 1 (keyV k) hx rfl ?_ ?_ (by unfold maxLen; omega) (by omega) hbase ?_
  · intro j u hu
    rw [addr_add, Nat.zero_add, cell_at hG j]
    match j, hu with
    | 0, hu => exact hu
    | 1, hu => exact hu
    | j + 2, hu => simp [keyV] at hu
  · intro u hu
    simp only [keyV, List.mem_cons, List.not_mem_nil, or_false] at hu
    rcases hu with e | e <;> rw [e] <;> rfl
  · intro v' w' h2 h3 _
    refine h v' w' ?_ h3
    unfold KeysAt
    rw [List.length_append, List.flatMap_append]
    simpa using h2
end Go.Proofs.YtnehkokppobncaaDoor

namespace Go.Proofs.YtnehkokppobncaaDoor
open Go.RowKit
set_option linter.unusedVariables false
set_option maxRecDepth 100000

theorem feed_cons (h : List UInt8) (c : UInt8) (r : List UInt8) : feedF h (c :: r) = ((feedF (takeF h c).1 r).1, if (takeF h c).2.1 = 0 then (feedF (takeF h c).1 r).2 else (takeF h c).2 :: (feedF (takeF h c).1 r).2) := rfl
theorem feed_append : ∀ (a b h : List UInt8), feedF h (a ++ b) = ((feedF (feedF h a).1 b).1, (feedF h a).2 ++ (feedF (feedF h a).1 b).2)
  | [], b, h => by simp [feedF]
  | c :: a, b, h => by
    rw [List.cons_append, feed_cons, feed_cons, feed_append a b (takeF h c).1]
    simp only []
    split <;> simp
theorem feed_one (h : List UInt8) (b : UInt8) : feedF h [b] = ((takeF h b).1, if (takeF h b).2.1 = 0 then [] else [(takeF h b).2]) := rfl
theorem full_short {l : List UInt8} (h : fullB l = false) : l.length ≤ 3 := by
  match l with
  | [] => simp
  | [_] => simp
  | [_, _] => simp
  | [_, _, _] => simp
  | a :: b :: c :: d :: r => rw [full_long] at h; cases h
theorem behind_len (l : List UInt8) : l.length ≤ (behindF l).1.length + 1 := by
  unfold behindF
  split
  · simp
  · simp
theorem take0_len (b : UInt8) : (take0 b).1.length ≤ 1 := by
  unfold take0
  split
  · simp
  · split
    · simp
    · split <;> simp
theorem chF_len (h : List UInt8) (b : UInt8) : (chF h b).1.length ≤ 4 := by
  unfold chF
  simp only []
  split
  · split
    · have := take0_len b; omega
    · simp
  · rename_i hf
    have h1 := full_short (l := (behindF (h ++ [b])).1) (by simpa using hf)
    have h2 := behind_len (h ++ [b])
    simp only [] at h2 ⊢
    omega
theorem take_len (h : List UInt8) (b : UInt8) (hl : h.length ≤ 255) : (takeF h b).1.length ≤ 255 := by
  by_cases h0 : h = []
  · subst h0
    show (take0 b).1.length ≤ 255
    have := take0_len b; omega
  · by_cases h1 : h.take 2 = [27, 91]
    · rw [takeF_seq h1]
      unfold seqT
      split
      · have := take0_len b; omega
      · split
        · split
          · simp
          · simp only [List.length_append, List.length_cons, List.length_nil]; omega
        · simp
    · by_cases h2 : h.take 2 = [27, 79]
      · rw [takeF_shift h2]; simp
      · by_cases h3 : h = [27]
        · subst h3
          have e : takeF [27] b = if b = 91 ∨ b = 79 then ([27, b], (0, 0)) else if b.toNat < 128 then ([], mods2 (loneF b.toNat)) else chF [27] b := rfl
          rw [e]
          split
          · simp
          · split
            · simp
            · have := chF_len [27] b; omega
        · rw [takeF_chr h0 h1 h2 h3]
          have := chF_len h b; omega
theorem feed_len : ∀ (t h : List UInt8), h.length ≤ 255 → (feedF h t).1.length ≤ 255
  | [], h, hl => hl
  | b :: t, h, hl => feed_len t _ (take_len h b hl)
theorem feed_few : ∀ (t h : List UInt8), (feedF h t).2.length ≤ t.length
  | [], h => Nat.le_refl _
  | b :: t, h => by
    have := feed_few t (takeF h b).1
    unfold feedF
    simp only []
    split
    · simp only [List.length_cons]; omega
    · simp only [List.length_cons]; omega
/-- What Feed leaves. -/
structure Fd (B d : Nat) (w0 w w' : World) (lv : Value) (l : List UInt8) (ks : List (Int × Int)) : Prop where
  dc : ∃ v', Dc B d w0 w' v' l
  ft : Ft d w w'
  keys : KeysAt w' w.heap.size lv ks
  size : w.heap.size ≤ w'.heap.size
theorem Dc.rebase {B d : Nat} {w0 w : World} {v : Value} {l : List UInt8} (h : Dc B d w0 w v l) : Dc B d w w v l := ⟨Ap.refl _ _ _, h.blk, h.own, h.bw, h.lo⟩
theorem Dc.onto {B d : Nat} {w0 w w' : World} {v v' : Value} {l l' : List UInt8} (h : Dc B d w0 w v l) (k : Dc B d w w' v' l') : Dc B d w0 w' v' l' := ⟨h.ap.trans k.ap, k.blk, k.own, h.bs, h.lo⟩
theorem Dc.dtype {B d : Nat} {w0 w : World} {v : Value} {l : List UInt8} (h : Dc B d w0 w v l) : ∃ v T, T ≠ 36 ∧ w.heap[d]? = some (.cells v T (0, 0)) := ⟨_, _, by decide, h.blk⟩
/-- Keys are appended, the decoder stands. -/
theorem Dc.keysGrow {B d : Nat} {w0 w w' : World} {v tv : Value} {l : List UInt8} {ks : List (Int × Int)} {C : Nat} (h : Dc B d w0 w v l) (hk : KeysAt w C tv ks) (hC : B ≤ C) (hg : w.grownBy w' tv.ownBlock) : Dc B d w0 w' v l := by
  have hne : ∀ (k : Nat) (cs : Array Value) (T : TypeId), w.heap[k]? = some (.cells cs T (0, 0)) → T ≠ 36 → w'.heap[k]? = some (.cells cs T (0, 0)) := fun k cs T hk1 hT => by
    refine (hg.block k (lt_block hk1) (fun e => ?_)).trans hk1
    obtain ⟨_, cur, hk2⟩ := hk.blk e.symm
    have h1 := hk2.symm.trans hk1
    simp only [Option.some.injEq, Obj.cells.injEq] at h1
    exact hT h1.2.1.symm
  refine ⟨h.ap.grown hg (fun k hk1 => Nat.le_trans hC (hk.blk hk1).1) h.bw, hne d _ _ h.blk (by decide), h.own.keep fun g hg2 => ?_, h.bs, h.lo⟩
  rcases h.own.2 with ⟨e, _⟩ | ⟨g', cap, cur, e, _, hk2, _⟩
  · rw [e] at hg2; cases hg2
  · rw [e] at hg2; cases hg2
    rw [hk2]
    exact hne _ _ _ hk2 (by decide)
theorem Ft.keysGrow {d : Nat} {w w1 w' : World} {tv : Value} {ks : List (Int × Int)} (h : Ft d w w1) (hk : KeysAt w1 w.heap.size tv ks) (hg : w1.grownBy w' tv.ownBlock) (hs : w.heap.size ≤ w1.heap.size) : Ft d w w' := fun k cs T fr hk1 hT hd => by
  have h1 := lt_block hk1
  refine (hg.block k (by omega) (fun e => ?_)).trans (h k cs T fr hk1 hT hd)
  have := (hk.blk e.symm).1
  omega
theorem Fd.more {B d : Nat} {w0 w w1 w2 : World} {lv : Value} {l : List UInt8} {ks : List (Int × Int)} (h : Fd B d w0 w w1 lv l ks) (hb : Below w1.heap.size w1 w2) : Fd B d w0 w w2 lv l ks := by
  obtain ⟨v, hd⟩ := h.dc
  exact ⟨⟨v, hd.more hb⟩, h.ft.trans (Ft.of hb), h.keys.below hb, Nat.le_trans h.size hb.size⟩
theorem Fd.grow {B d : Nat} {w0 w w1 w2 : World} {lv lv' : Value} {l : List UInt8} {ks : List (Int × Int)} {k : Int × Int} (h : Fd B d w0 w w1 lv l ks) (hB : B ≤ w.heap.size) (hk : KeysAt w2 w.heap.size lv' (ks ++ [k])) (hg : w1.grownBy w2 lv.ownBlock) : Fd B d w0 w w2 lv' l (ks ++ [k]) := by
  obtain ⟨v, hd⟩ := h.dc
  exact ⟨⟨v, hd.keysGrow h.keys hB hg⟩, h.ft.keysGrow h.keys hg h.size, hk, Nat.le_trans h.size hg.size⟩
set_option maxHeartbeats 4000000 in
theorem feed_any {B d : Nat} {w0 w : World} {v : Value} {l : List UInt8} (h : Dc B d w0 w v l) (hT : Tabs w0) (hl : l.length ≤ 255) (t : List UInt8) (ht : t.length ≤ 9000000) :
    Calls Tryd.prog 7 #[.pointer (some ⟨d, 0, none⟩), .string (str t)] w fun r w' => ∃ lv, r = .returned lv ∧ Fd B d w0 w w' lv (feedF l t).1 (feedF l t).2 := by
  have HD := hidK h
  have HTT := hidK hT
  have HBC : Hid (B ≤ w.heap.size) := h.bw
  obtain ⟨N, hN⟩ : ∃ N, t.length = N := ⟨_, rfl⟩
  obtain ⟨S, hS⟩ : ∃ S, str t = S := ⟨_, rfl⟩
  have hSz : S.size = N := by rw [← hS]; exact hN
  have HAt : Hid (∀ (k : Nat) (hk : k < S.size) (hk2 : k < t.length), S[k] = t[k]) := fun k hk hk2 => by subst hS; rfl
  have HN := hidK hN
  have HL : Hid (l.length ≤ 255) := hl
  have hN2 : N ≤ 9000000 := by omega
  rw [hS]
  clear h hT hN hS hl ht
  go_enter Tryd.func7, Tryd.ntmps7
  go_wp2_with fail
  go_loopw [10, 5] (fun i tv wr => ∃ k : Nat, k ≤ N ∧ i = .int .i64 k ∧ Hid (Fd B d w0 w wr tv (feedF l (t.take k)).1 (feedF l (t.take k)).2)) (fun i _ _ => N - (intOf i).toNat)
  case atStart => exact ⟨0, Nat.zero_le _, rfl, ⟨⟨_, HD.out⟩, Ft.refl _ _, KeysAt.nil _ _, Nat.le_refl _⟩⟩
  case round =>
    obtain ⟨k, hk, rfl, HF⟩ := hrel
    obtain ⟨ad, c', rfl⟩ := HF.out.keys.slice
    obtain ⟨n', hn'⟩ : ∃ n', (feedF l (t.take k)).2.length = n' := ⟨_, rfl⟩
    rw [hn'] at HF ⊢
    by_cases hlt : k < N
    · have hkS : k < S.size := by omega
      have hkt : k < t.length := by rw [HN.out]; exact hlt
      have hgc := HAt.out k hkS hkt
      obtain ⟨b, hb⟩ : ∃ b, t[k] = b := ⟨_, rfl⟩
      rw [hb] at hgc
      obtain ⟨v1, hd1⟩ := HF.out.dc
      have hle := feed_len (t.take k) l HL.out
      have HTk := hidK (take_any hd1.rebase (hd1.tabs HTT.out) (by omega) b)
      have hsn : t.take (k + 1) = t.take k ++ [b] := by rw [List.take_succ_eq_append_getElem hkt, hb]
      have hfe : feedF l (t.take (k + 1)) = ((takeF (feedF l (t.take k)).1 b).1, (feedF l (t.take k)).2 ++ if (takeF (feedF l (t.take k)).1 b).2.1 = 0 then [] else [(takeF (feedF l (t.take k)).1 b).2]) := by rw [hsn, feed_append, feed_one]
      have HFe := hidK hfe
      have hfw := feed_few (t.take k) l
      have HFw : Hid ((feedF l (t.take k)).2.length ≤ 9000000) := by
        have : (t.take k).length ≤ N := by rw [List.length_take]; omega
        show _ ≤ _
        omega
      obtain ⟨x, hx⟩ : ∃ x, (takeF (feedF l (t.take k)).1 b).2.1 = x := ⟨_, rfl⟩
      obtain ⟨y, hy⟩ : ∃ y, (takeF (feedF l (t.take k)).1 b).2.2 = y := ⟨_, rfl⟩
      obtain ⟨l', hl'⟩ : ∃ l', (takeF (feedF l (t.take k)).1 b).1 = l' := ⟨_, rfl⟩
      have HXY : Hid ((takeF (feedF l (t.take k)).1 b) = (l', (x, y))) := by show _ = _; rw [← hx, ← hy, ← hl']
      rw [HXY.out] at HTk
      have HD1 := hidK hd1
      clear hd1 hb hsn hfe hfw hx hy hl' hle hkt
      obtain ⟨bn, hbn⟩ : ∃ bn, b.toNat = bn := ⟨_, rfl⟩
      rw [hbn] at HTk
      have hgn : (S[k]'hkS).toNat = bn := by rw [hgc]; exact hbn
      clear hgc hbn
      go_wp2_with fail
      refine HTk.out.mono ?_
      rintro e w1 ⟨rfl, ⟨v2, hd2⟩, hf2⟩
      have hk2 := (HF.out.keys).ft hf2 HD1.out.dtype
      have hsz : w.heap.size ≤ w1.heap.size := Nat.le_trans HF.out.size hd2.ap.size
      have hF1 : Fd B d w0 w w1 (.slice ad n' c') l' (feedF l (t.take k)).2 := ⟨⟨v2, HD1.out.onto hd2⟩, HF.out.ft.trans hf2, hk2, hsz⟩
      obtain ⟨V, hV⟩ : ∃ V, w1.alloc (.cells #[.int .i64 x, .int .i64 y] 36) = V := ⟨_, rfl⟩
      obtain ⟨Q, hQ⟩ : ∃ Q, w1.heap.size = Q := ⟨_, rfl⟩
      have hbV : Below w1.heap.size w1 V := by rw [← hV]; exact (Below.refl _ _).alloc (Nat.le_refl _) _
      have hqV : V.heap[Q]? = some (.cells #[.int .i64 x, .int .i64 y] 36 (0, 0)) := by rw [← hV, ← hQ]; exact heap_alloc_new w1 _
      have q0 : V.cell? ⟨Q, 0, none⟩ = some (.int .i64 x) := cell_at hqV 0
      have q1 : V.cell? ⟨Q, 1, none⟩ = some (.int .i64 y) := cell_at hqV 1
      have HFV := hidK (hF1.more hbV)
      clear hd2 hf2 hk2 hsz hF1 hbV hqV
      by_cases hx0 : x = 0
      · subst hx0
        have HR : Hid (Fd B d w0 w V (.slice ad n' c') (feedF l (t.take (k + 1))).1 (feedF l (t.take (k + 1))).2) := by
          rw [HFe.out, HXY.out]
          simp only [if_true, List.append_nil]
          exact HFV.out
        go_wp2_with fail
        go_roundw
        case rel => exact ⟨k + 1, by omega, by first | rfl | go_num, HR⟩
        case measure => simp [intOf]; omega
      · have e0 : (x == 0) = false := by simpa using hx0
        have HFx : Hid (feedF l (t.take (k + 1)) = (l', (feedF l (t.take k)).2 ++ [(x, y)])) := by
          show _ = _
          rw [HFe.out, HXY.out]
          simp only [if_neg hx0]
        obtain ⟨ks, hks⟩ : ∃ ks, (feedF l (t.take k)).2 = ks := ⟨_, rfl⟩
        rw [hks] at HFV HFx HFw
        have hB1 : w.heap.size ≤ (V.alloc (.cells #[.int .i64 x, .int .i64 y] 36)).heap.size := by have := HFV.out.size; simp; omega
        have HB1 := hidK hB1
        have hke := HFV.out.keys.below ((Below.refl _ _).alloc (Nat.le_refl _) (.cells #[.int .i64 x, .int .i64 y] 36))
        have HKe := hidK hke
        have HFA := hidK (HFV.out.more ((Below.refl _ _).alloc (Nat.le_refl _) (.cells #[.int .i64 x, .int .i64 y] 36)))
        clear hx0 hks hB1 hke
        go_wp2_with (at_builtin; refine wpList_append_key _ rfl (.tmp 21) (.tmp 23) rfl w.heap.size _ ks rfl HKe.out V.heap.size (x, y) rfl (heap_alloc_new V _) ?x1 HB1.out ?_; (case x1 => have := HFw.out; omega); intro tv' w2 hk3 hg3; have HR : Hid (Fd B d w0 w w2 tv' (feedF l (t.take (k + 1))).1 (feedF l (t.take (k + 1))).2) := (by rw [HFx.out]; exact HFA.out.grow HBC.out hk3 hg3); clear hk3 hg3)
        go_roundw
        case rel => exact ⟨k + 1, by omega, by first | rfl | go_num, HR⟩
        case measure => simp [intOf]; omega
    · obtain rfl : k = N := by omega
      have HE : Hid (t.take k = t) := List.take_of_length_le (by rw [HN.out]; exact Nat.le_refl _)
      rw [HE.out] at HF
      go_wp2_with fail
      go_ret
      exact ⟨_, rfl, HF.out⟩
end Go.Proofs.YtnehkokppobncaaDoor

namespace Go.Proofs.YtnehkokppobncaaDoor
open Go.RowKit
set_option linter.unusedVariables false
set_option maxRecDepth 100000

set_option maxHeartbeats 1000000 in
theorem new_any (w : World) : Calls Tryd.prog 4 #[] w fun r w' => r = .returned (.pointer (some ⟨w.heap.size, 0, none⟩)) ∧ w' = w.alloc (.cells #[.slice none 0 0] 41) := by
  go_enter Tryd.func4, Tryd.ntmps4
  go_wp2_with fail
  go_ret
  exact ⟨rfl, rfl⟩
/-- A new decoder, at any base behind it. -/
theorem Dc.fresh {w : World} (d : Nat) (hT : Tabs w) (hd : w.heap[d]? = some (.cells #[.slice none 0 0] 41 (0, 0))) (hlo : 4 < d) : Dc w.heap.size d w w (.slice none 0 0) [] := by
  have h4 := World.block_lt_of_cell? w _ (hT.u8.2 0 (by decide)).1
  exact ⟨Ap.refl _ _ _, hd, Owns.nil _ _, Nat.le_refl _, fun g hg => ⟨Nat.lt_of_le_of_lt hg h4, by omega⟩⟩
set_option maxHeartbeats 1000000 in
theorem held_any {B d : Nat} {w0 w : World} {v : Value} {l : List UInt8} (h : Dc B d w0 w v l) : Calls Tryd.prog 10 #[.pointer (some ⟨d, 0, none⟩)] w fun r w' => r = .returned (.string (str l)) ∧ w = w' := by
  have c0 := h.cell
  have hcv := h.own.text (P := Tryd.prog) 39 9 5 underBy Tryd.underlying5 Tryd.underlying9
  obtain ⟨a, n, c, rfl⟩ := owns_slice h.own
  clear h
  go_enter Tryd.func10, Tryd.ntmps10
  go_wp2_with fail
  go_ret
  exact ⟨rfl, rfl⟩
/-- Bytes told one by one. -/
def goF : List UInt8 → Int → List (Int × Int)
  | [], _ => []
  | b :: r, m => if 128 ≤ b.toNat then [] else ((loneF b.toNat).1, (loneF b.toNat).2 + m) :: goF r 0
theorem flush_go : ∀ (l : List UInt8) (m : Int), flushF.go l m = goF l m
  | [], _ => rfl
  | b :: r, m => by
    unfold flushF.go goF
    split
    · rfl
    · rw [flush_go r 0]
theorem flush_eq (h : List UInt8) : flushF h = if (behindF h).2 ≠ 0 ∧ (behindF h).1 = [] then [(27, 0)] else goF (behindF h).1 (behindF h).2 := by
  unfold flushF
  simp only [flush_go]
theorem goF_few : ∀ (l : List UInt8) (m : Int), (goF l m).length ≤ l.length
  | [], _ => Nat.le_refl _
  | b :: r, m => by
    unfold goF
    split
    · simp
    · have := goF_few r 0
      simp only [List.length_cons]; omega
/-- How far the telling has come. -/
structure Fl (w wr : World) (tv : Value) (p : List UInt8) (k : Nat) (mk : Int) (K : List (Int × Int)) : Prop where
  below : Below w.heap.size w wr
  keys : ∃ ks, KeysAt wr w.heap.size tv ks ∧ ks ++ goF (p.drop k) mk = K ∧ ks.length ≤ 1 + k
  mods : mk = 0 ∨ mk = 2
theorem Fl.more {w wr w2 : World} {tv : Value} {p : List UInt8} {k : Nat} {mk : Int} {K : List (Int × Int)} (h : Fl w wr tv p k mk K) (hb : Below wr.heap.size wr w2) : Fl w w2 tv p k mk K := by
  obtain ⟨ks, h1, h2, h3⟩ := h.keys
  exact ⟨below_step h.below hb, ⟨ks, h1.below hb, h2, h3⟩, h.mods⟩
set_option maxHeartbeats 4000000 in
theorem flush_walk {B d : Nat} {w0 w : World} {v : Value} {l : List UInt8} (h : Dc B d w0 w v l) (hl : l.length ≤ 999) (hne : ¬ ((behindF l).2 ≠ 0 ∧ (behindF l).1 = [])) :
    Calls Tryd.prog 5 #[.pointer (some ⟨d, 0, none⟩)] w fun r w' => ∃ lv, r = .returned lv ∧ Fd B d w0 w w' lv [] (goF (behindF l).1 (behindF l).2) := by
  have HBe := hidK (behind_any h)
  have HD := hidK h
  have hlen : (behindF l).1.length ≤ 999 := by
    unfold behindF
    split
    · simp only [List.length_cons] at hl ⊢; omega
    · exact hl
  obtain ⟨p, hp⟩ : ∃ p, (behindF l).1 = p := ⟨_, rfl⟩
  obtain ⟨m, hm⟩ : ∃ m, (behindF l).2 = m := ⟨_, rfl⟩
  have hmm := behind_mods l
  rw [hp] at HBe hne hlen
  rw [hm] at HBe hne hmm
  rw [hp, hm]
  clear h hp hm hl
  obtain ⟨K, hK⟩ : ∃ K, goF p m = K := ⟨_, rfl⟩
  have HK := hidK hK
  rw [hK]
  obtain ⟨N, hN⟩ : ∃ N, p.length = N := ⟨_, rfl⟩
  rw [hN] at hlen
  have HN := hidK hN
  have hcond : m = 0 ∨ ((m == 0) = false ∧ ((N : Int) == 0) = false ∧ ¬ m = 0 ∧ ¬ (N : Int) = 0) := by
    by_cases h0 : m = 0
    · left; exact h0
    · right
      have : p ≠ [] := fun e => hne ⟨h0, e⟩
      have : p.length ≠ 0 := fun e => this (List.length_eq_zero_iff.1 e)
      exact ⟨by simpa using h0, by simp; omega, h0, by omega⟩
  have HM : Hid (m = 0 ∨ m = 2) := hmm
  clear hne hK hN hmm
  rcases hcond with c1 | ⟨c1, c2, c3, c4⟩
  · subst c1
    go_enter Tryd.func5, Tryd.ntmps5
    go_wp2_with fail
    refine HBe.out.mono ?_
    rintro e w2 ⟨⟨ad, n, c, rfl, hs⟩, rfl⟩
    obtain ⟨ad', c', e1, hcc, hsee⟩ := hs
    have e3 : ad = ad' ∧ n = N ∧ c = c' := by
      injection e1 with q1 q2 q3
      exact ⟨q1, q2.trans HN.out, q3⟩
    obtain ⟨rfl, rfl, rfl⟩ := e3
    have HSee := hidK hsee
    clear e1 hsee hcc
    go_wp2_with fail
    go_loopw [26, 3, 5] (fun i tv mv wr => ∃ (k : Nat) (mk : Int), k ≤ n ∧ i = .int .i64 k ∧ mv = .int .i64 mk ∧ Hid (Fl w wr tv p k mk K)) (fun i _ _ _ => n - (intOf i).toNat)
    case atStart => exact ⟨0, _, Nat.zero_le _, rfl, rfl, ⟨Below.refl _ _, ⟨[], KeysAt.nil _ _, HK.out, Nat.zero_le _⟩, by first | exact HM.out | exact .inl rfl⟩⟩
    case round =>
      obtain ⟨k, mk, hk, rfl, rfl, HF⟩ := hrel
      obtain ⟨ks, hks, hgo, hfew⟩ := HF.out.keys
      obtain ⟨tad, tc, rfl⟩ := hks.slice
      obtain ⟨tn, htn⟩ : ∃ tn, ks.length = tn := ⟨_, rfl⟩
      rw [htn] at hks HF ⊢
      have HKs := hidK (And.intro hks (And.intro hgo hfew))
      clear hks hgo hfew
      by_cases hlt : k < n
      · have hkp : k < p.length := by rw [HN.out]; exact hlt
        obtain ⟨g, o, rfl, hcell⟩ := HSee.out (fun e => by rw [e] at hkp; simp at hkp)
        have hc := hcell k hkp
        obtain ⟨b, hb⟩ : ∃ b, p[k] = b := ⟨_, rfl⟩
        rw [hb] at hc
        have hc2 : wr.cell? ⟨g, o + k, none⟩ = some (.int .u8 b.toNat) := (HF.out.below.cell (World.block_lt_of_cell? w _ hc)).trans hc
        have hdr : p.drop k = b :: p.drop (k + 1) := by rw [List.drop_eq_getElem_cons hkp, hb]
        have HDr := hidK hdr
        have hi1 : (k : Int) < (n : Int) := by omega
        obtain ⟨bn, hbn⟩ : ∃ bn, b.toNat = bn := ⟨_, rfl⟩
        have HBn := hidK hbn
        rw [hbn] at hc2
        clear hcell hc hb hkp hbn hdr
        by_cases h128 : 128 ≤ bn
        · have i128 : (128 : Int) ≤ (bn : Int) := by omega
          have HE : Hid (ks = K) := by
            show _ = _
            rw [← HKs.out.2.1, HDr.out]
            unfold goF
            rw [if_pos (by rw [HBn.out]; exact h128), List.append_nil]
          have HDp := hidK (drop_any (HD.out.more HF.out.below).rebase)
          clear h128
          go_wp2_with fail
          refine HDp.out.mono ?_
          rintro e w5 ⟨rfl, ⟨v5, hd5⟩, hf5⟩
          have HR : Hid (Fd B d w0 w w5 (.slice tad tn tc) [] K) := by
            rw [← HE.out]
            exact ⟨⟨v5, (HD.out.more HF.out.below).onto hd5⟩, (Ft.of HF.out.below).trans hf5, HKs.out.1.ft hf5 (HD.out.more HF.out.below).dtype, Nat.le_trans HF.out.below.size hd5.ap.size⟩
          clear hd5 hf5
          go_wp2_with fail
          go_ret
          exact ⟨_, rfl, HR.out⟩
        · have i128 : ¬ (128 : Int) ≤ (bn : Int) := by omega
          have HLo := hidK (lone_any bn (by omega))
          obtain ⟨x, hx⟩ : ∃ x, (loneF bn).1 = x := ⟨_, rfl⟩
          obtain ⟨y, hy⟩ : ∃ y, (loneF bn).2 = y := ⟨_, rfl⟩
          have HWm : Hid (∀ X, Calls Tryd.prog 13 #[.agg #[.int .i64 x, .int .i64 y], .int .i64 mk] X fun e w' => e = .returned (.agg #[.int .i64 x, .int .i64 (y + mk)]) ∧ Below X.heap.size X w') := withMods_any x y mk _ (by
            have h1 := lone_mods bn
            have h2 := HF.out.mods
            rw [hy] at h1
            rcases h2 with e | e
            · subst e; exact or_zero h1
            · subst e; exact or_two h1)
          rw [hx, hy] at HLo
          have HE : Hid (ks ++ [(x, y + mk)] ++ goF (p.drop (k + 1)) 0 = K) := by
            show _ = _
            rw [← HKs.out.2.1, HDr.out]
            conv => rhs; unfold goF
            rw [if_neg (by rw [HBn.out]; exact h128), HBn.out, hx, hy]
            simp
          have HKn : Hid (k < n ∧ n ≤ 999) := ⟨hlt, hlen⟩
          clear h128 hx hy
          go_wp2_with fail
          refine (HLo.out _).mono ?_
          rintro e w3 ⟨rfl, hb3⟩
          have HB3 := hidK hb3
          clear hb3
          go_wp2_with fail
          refine (HWm.out _).mono ?_
          rintro e w4 ⟨rfl, hb4⟩
          have hb5 := below_step HB3.out hb4
          have HB5 := hidK hb5
          have hke := (HKs.out.1.below hb5).below ((Below.refl _ _).alloc (Nat.le_refl _) (.cells #[.int .i64 x, .int .i64 (y + mk)] 36))
          have HKe := hidK hke
          have HS4 : Hid (w.heap.size ≤ (w4.alloc (.cells #[.int .i64 x, .int .i64 (y + mk)] 36)).heap.size) := by have h1 := HF.out.below.size; have h2 := hb5.size; show _ ≤ _; simp; omega
          clear hb4 hb5 hke
          go_wp2_with (at_builtin; refine wpList_append_key _ rfl (.tmp 32) (.tmp 37) rfl w.heap.size _ ks rfl HKe.out w4.heap.size (x, y + mk) rfl (heap_alloc_new w4 _) ?x1 HS4.out ?_; (case x1 => have h1 := HKs.out.2.2; have h2 := HKn.out; omega); intro tv' w6 hk6 hg6; have HR : Hid (Fl w w6 tv' p (k + 1) 0 K) := (by
            have hbw : Below w.heap.size w (w4.alloc (.cells #[.int .i64 x, .int .i64 (y + mk)] 36)) := below_step (below_step HF.out.below HB5.out) ((Below.refl _ _).alloc (Nat.le_refl _) _)
            exact ⟨hbw.grown hg6 HS4.out (fun q hq => (HKe.out.blk hq).1), ⟨_, hk6, HE.out, by have := HKs.out.2.2; simp; omega⟩, .inl rfl⟩); clear hk6 hg6)
          go_roundw
          case rel => exact ⟨k + 1, 0, by omega, by first | rfl | go_num, rfl, HR⟩
          case measure => simp [intOf]; omega
      · obtain rfl : k = n := by omega
        have HE : Hid (ks = K) := by
          show _ = _
          rw [← HKs.out.2.1, List.drop_of_length_le (by rw [HN.out]; exact Nat.le_refl _)]
          unfold goF
          rw [List.append_nil]
        have HDp := hidK (drop_any (HD.out.more HF.out.below).rebase)
        go_wp2_with fail
        refine HDp.out.mono ?_
        rintro e w5 ⟨rfl, ⟨v5, hd5⟩, hf5⟩
        have HR : Hid (Fd B d w0 w w5 (.slice tad tn tc) [] K) := by
          rw [← HE.out]
          exact ⟨⟨v5, (HD.out.more HF.out.below).onto hd5⟩, (Ft.of HF.out.below).trans hf5, HKs.out.1.ft hf5 (HD.out.more HF.out.below).dtype, Nat.le_trans HF.out.below.size hd5.ap.size⟩
        clear hd5 hf5
        go_wp2_with fail
        go_ret
        exact ⟨_, rfl, HR.out⟩
  · go_enter Tryd.func5, Tryd.ntmps5
    go_wp2_with fail
    refine HBe.out.mono ?_
    rintro e w2 ⟨⟨ad, n, c, rfl, hs⟩, rfl⟩
    obtain ⟨ad', c', e1, hcc, hsee⟩ := hs
    have e3 : ad = ad' ∧ n = N ∧ c = c' := by
      injection e1 with q1 q2 q3
      exact ⟨q1, q2.trans HN.out, q3⟩
    obtain ⟨rfl, rfl, rfl⟩ := e3
    have HSee := hidK hsee
    clear e1 hsee hcc
    go_wp2_with fail
    go_loopw [26, 3, 5] (fun i tv mv wr => ∃ (k : Nat) (mk : Int), k ≤ n ∧ i = .int .i64 k ∧ mv = .int .i64 mk ∧ Hid (Fl w wr tv p k mk K)) (fun i _ _ _ => n - (intOf i).toNat)
    case atStart => exact ⟨0, _, Nat.zero_le _, rfl, rfl, ⟨Below.refl _ _, ⟨[], KeysAt.nil _ _, HK.out, Nat.zero_le _⟩, by first | exact HM.out | exact .inl rfl⟩⟩
    case round =>
      obtain ⟨k, mk, hk, rfl, rfl, HF⟩ := hrel
      obtain ⟨ks, hks, hgo, hfew⟩ := HF.out.keys
      obtain ⟨tad, tc, rfl⟩ := hks.slice
      obtain ⟨tn, htn⟩ : ∃ tn, ks.length = tn := ⟨_, rfl⟩
      rw [htn] at hks HF ⊢
      have HKs := hidK (And.intro hks (And.intro hgo hfew))
      clear hks hgo hfew
      by_cases hlt : k < n
      · have hkp : k < p.length := by rw [HN.out]; exact hlt
        obtain ⟨g, o, rfl, hcell⟩ := HSee.out (fun e => by rw [e] at hkp; simp at hkp)
        have hc := hcell k hkp
        obtain ⟨b, hb⟩ : ∃ b, p[k] = b := ⟨_, rfl⟩
        rw [hb] at hc
        have hc2 : wr.cell? ⟨g, o + k, none⟩ = some (.int .u8 b.toNat) := (HF.out.below.cell (World.block_lt_of_cell? w _ hc)).trans hc
        have hdr : p.drop k = b :: p.drop (k + 1) := by rw [List.drop_eq_getElem_cons hkp, hb]
        have HDr := hidK hdr
        have hi1 : (k : Int) < (n : Int) := by omega
        obtain ⟨bn, hbn⟩ : ∃ bn, b.toNat = bn := ⟨_, rfl⟩
        have HBn := hidK hbn
        rw [hbn] at hc2
        clear hcell hc hb hkp hbn hdr
        by_cases h128 : 128 ≤ bn
        · have i128 : (128 : Int) ≤ (bn : Int) := by omega
          have HE : Hid (ks = K) := by
            show _ = _
            rw [← HKs.out.2.1, HDr.out]
            unfold goF
            rw [if_pos (by rw [HBn.out]; exact h128), List.append_nil]
          have HDp := hidK (drop_any (HD.out.more HF.out.below).rebase)
          clear h128
          go_wp2_with fail
          refine HDp.out.mono ?_
          rintro e w5 ⟨rfl, ⟨v5, hd5⟩, hf5⟩
          have HR : Hid (Fd B d w0 w w5 (.slice tad tn tc) [] K) := by
            rw [← HE.out]
            exact ⟨⟨v5, (HD.out.more HF.out.below).onto hd5⟩, (Ft.of HF.out.below).trans hf5, HKs.out.1.ft hf5 (HD.out.more HF.out.below).dtype, Nat.le_trans HF.out.below.size hd5.ap.size⟩
          clear hd5 hf5
          go_wp2_with fail
          go_ret
          exact ⟨_, rfl, HR.out⟩
        · have i128 : ¬ (128 : Int) ≤ (bn : Int) := by omega
          have HLo := hidK (lone_any bn (by omega))
          obtain ⟨x, hx⟩ : ∃ x, (loneF bn).1 = x := ⟨_, rfl⟩
          obtain ⟨y, hy⟩ : ∃ y, (loneF bn).2 = y := ⟨_, rfl⟩
          have HWm : Hid (∀ X, Calls Tryd.prog 13 #[.agg #[.int .i64 x, .int .i64 y], .int .i64 mk] X fun e w' => e = .returned (.agg #[.int .i64 x, .int .i64 (y + mk)]) ∧ Below X.heap.size X w') := withMods_any x y mk _ (by
            have h1 := lone_mods bn
            have h2 := HF.out.mods
            rw [hy] at h1
            rcases h2 with e | e
            · subst e; exact or_zero h1
            · subst e; exact or_two h1)
          rw [hx, hy] at HLo
          have HE : Hid (ks ++ [(x, y + mk)] ++ goF (p.drop (k + 1)) 0 = K) := by
            show _ = _
            rw [← HKs.out.2.1, HDr.out]
            conv => rhs; unfold goF
            rw [if_neg (by rw [HBn.out]; exact h128), HBn.out, hx, hy]
            simp
          have HKn : Hid (k < n ∧ n ≤ 999) := ⟨hlt, hlen⟩
          clear h128 hx hy
          go_wp2_with fail
          refine (HLo.out _).mono ?_
          rintro e w3 ⟨rfl, hb3⟩
          have HB3 := hidK hb3
          clear hb3
          go_wp2_with fail
          refine (HWm.out _).mono ?_
          rintro e w4 ⟨rfl, hb4⟩
          have hb5 := below_step HB3.out hb4
          have HB5 := hidK hb5
          have hke := (HKs.out.1.below hb5).below ((Below.refl _ _).alloc (Nat.le_refl _) (.cells #[.int .i64 x, .int .i64 (y + mk)] 36))
          have HKe := hidK hke
          have HS4 : Hid (w.heap.size ≤ (w4.alloc (.cells #[.int .i64 x, .int .i64 (y + mk)] 36)).heap.size) := by have h1 := HF.out.below.size; have h2 := hb5.size; show _ ≤ _; simp; omega
          clear hb4 hb5 hke
          go_wp2_with (at_builtin; refine wpList_append_key _ rfl (.tmp 32) (.tmp 37) rfl w.heap.size _ ks rfl HKe.out w4.heap.size (x, y + mk) rfl (heap_alloc_new w4 _) ?x1 HS4.out ?_; (case x1 => have h1 := HKs.out.2.2; have h2 := HKn.out; omega); intro tv' w6 hk6 hg6; have HR : Hid (Fl w w6 tv' p (k + 1) 0 K) := (by
            have hbw : Below w.heap.size w (w4.alloc (.cells #[.int .i64 x, .int .i64 (y + mk)] 36)) := below_step (below_step HF.out.below HB5.out) ((Below.refl _ _).alloc (Nat.le_refl _) _)
            exact ⟨hbw.grown hg6 HS4.out (fun q hq => (HKe.out.blk hq).1), ⟨_, hk6, HE.out, by have := HKs.out.2.2; simp; omega⟩, .inl rfl⟩); clear hk6 hg6)
          go_roundw
          case rel => exact ⟨k + 1, 0, by omega, by first | rfl | go_num, rfl, HR⟩
          case measure => simp [intOf]; omega
      · obtain rfl : k = n := by omega
        have HE : Hid (ks = K) := by
          show _ = _
          rw [← HKs.out.2.1, List.drop_of_length_le (by rw [HN.out]; exact Nat.le_refl _)]
          unfold goF
          rw [List.append_nil]
        have HDp := hidK (drop_any (HD.out.more HF.out.below).rebase)
        go_wp2_with fail
        refine HDp.out.mono ?_
        rintro e w5 ⟨rfl, ⟨v5, hd5⟩, hf5⟩
        have HR : Hid (Fd B d w0 w w5 (.slice tad tn tc) [] K) := by
          rw [← HE.out]
          exact ⟨⟨v5, (HD.out.more HF.out.below).onto hd5⟩, (Ft.of HF.out.below).trans hf5, HKs.out.1.ft hf5 (HD.out.more HF.out.below).dtype, Nat.le_trans HF.out.below.size hd5.ap.size⟩
        clear hd5 hf5
        go_wp2_with fail
        go_ret
        exact ⟨_, rfl, HR.out⟩
set_option maxHeartbeats 4000000 in
theorem flush_esc {B d : Nat} {w0 w : World} {v : Value} {l : List UInt8} (h : Dc B d w0 w v l) (hm : (behindF l).2 ≠ 0) (hp : (behindF l).1 = []) :
    Calls Tryd.prog 5 #[.pointer (some ⟨d, 0, none⟩)] w fun r w' => ∃ lv, r = .returned lv ∧ Fd B d w0 w w' lv [] [(27, 0)] := by
  have HBe := hidK (behind_any h)
  have HD := hidK h
  have hm2 : (behindF l).2 = 2 := by have := behind_mods l; omega
  rw [hm2, hp] at HBe
  clear h hm hp hm2
  go_enter Tryd.func5, Tryd.ntmps5
  go_wp2_with fail
  refine HBe.out.mono ?_
  rintro e w2 ⟨⟨ad, n, c, rfl, hs⟩, rfl⟩
  obtain ⟨ad', c', e1, hcc, hsee⟩ := hs
  have e3 : n = 0 := by
    injection e1 with q1 q2 q3
  subst e3
  clear e1 hsee hcc
  have HKe : Hid (KeysAt (w.alloc (.cells #[.int .i64 27, .int .i64 0] 36)) w.heap.size (.slice none 0 0) []) := KeysAt.nil _ _
  go_wp2_with (at_builtin; refine wpList_append_key _ rfl (.tmp 20) (.tmp 22) rfl w.heap.size _ [] rfl HKe.out w.heap.size (27, 0) rfl (heap_alloc_new w _) ?x1 ?x2 ?_; (case x1 => simp); (case x2 => simp); intro tv' w6 hk6 hg6; have HB6 : Hid (Below w.heap.size w w6) := (((Below.refl _ _).alloc (Nat.le_refl _) _).grown hg6 (by simp) (fun q hq => by cases hq)); have HK6 := hidK hk6; obtain ⟨tad, tc, rfl⟩ := hk6.slice; clear hk6 hg6)
  go_loopw [26, 3] (fun i tv wr => i = .int .i64 0 ∧ tv = .slice tad 1 tc ∧ wr = w6) (fun _ _ _ => 0)
  case atStart => exact ⟨rfl, rfl, rfl⟩
  case round =>
    obtain ⟨rfl, rfl, rfl⟩ := hrel
    have HDp := hidK (drop_any (HD.out.more HB6.out).rebase)
    go_wp2_with fail
    refine HDp.out.mono ?_
    rintro e w5 ⟨rfl, ⟨v5, hd5⟩, hf5⟩
    have HR : Hid (Fd B d w0 w w5 (.slice tad 1 tc) [] [(27, 0)]) := ⟨⟨v5, (HD.out.more HB6.out).onto hd5⟩, (Ft.of HB6.out).trans hf5, HK6.out.ft hf5 (HD.out.more HB6.out).dtype, Nat.le_trans HB6.out.size hd5.ap.size⟩
    clear hd5 hf5
    go_wp2_with fail
    go_ret
    exact ⟨_, rfl, HR.out⟩
theorem flush_any {B d : Nat} {w0 w : World} {v : Value} {l : List UInt8} (h : Dc B d w0 w v l) (hl : l.length ≤ 999) :
    Calls Tryd.prog 5 #[.pointer (some ⟨d, 0, none⟩)] w fun r w' => ∃ lv, r = .returned lv ∧ Fd B d w0 w w' lv [] (flushF l) := by
  rw [flush_eq]
  by_cases hc : (behindF l).2 ≠ 0 ∧ (behindF l).1 = []
  · rw [if_pos hc]
    exact flush_esc h hc.1 hc.2
  · rw [if_neg hc]
    exact flush_walk h hl hc
end Go.Proofs.YtnehkokppobncaaDoor
