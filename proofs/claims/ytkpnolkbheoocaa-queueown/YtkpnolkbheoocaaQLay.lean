/-
  The queue: layWithin.
-/
import Derived.Test.YtkpnolkbheoocaaQOwn
import Derived.Test.YtkpnolkbheoocaaQLine
import Derived.WalkKit
import Derived.Deep.RegionLaw
namespace Go.Proofs.Ytkpnolkbheoocaa
open Go.RowKit
set_option linter.unusedVariables false
set_option maxRecDepth 100000

theorem info5Q : (Try.prog.info? 5).map (fun i => (i.zero, i.size, i.bytes)) = some (some (.int .u8 0), 1, 1) := by kernel_rfl
theorem underBytes : Try.prog.underlying 50 = some (.slice 5) := by kernel_rfl

theorem QRaw.regrowB {w w2 : World} {b : Nat} {vb vp vb' : Value} {lim : Nat} {cl : Bool} {bs bs' : List UInt8} {ps : List Pc} {n' : Nat} {xs : List Value} (h : QRaw w b vb vp lim cl bs ps) (hg : But vb.ownBlock.toList w w2) (hr : Row w2 5 1 vb' n' xs) (hn : n' = bs'.length) (hx : xs = bs'.map bv) :
    QRaw (w2.setCell ⟨b, 2, none⟩ vb') b vb' vp lim cl bs' ps ∧ But (foot b vb vp) w (w2.setCell ⟨b, 2, none⟩ vb') := by
  subst hn hx
  have hlt := h.lt
  have hb2 : w2.heap[b]? = some (.cells #[.int .i64 (lim : Int), .bool cl, vb, vp] 53 (0, 0)) := (hg.block b (hlt b (by simp [foot])) (fun hh => h.bb (by simpa using hh))).trans h.cells
  refine ⟨⟨(set_cells hb2 _).2.1, hr.keep fun g hh => Below.heap_setCell _ _ _ _ (fun e => ?_), h.pieces.keep fun g hh => ?_⟩, But.setCell (hg.mono fun k _ hk => foot_mem.2 (.inr (.inl (by simpa using hk)))) (.inl (by simp [foot])) _⟩
  · subst e
    obtain ⟨cur, hc⟩ := hr.block hh
    have := hc.symm.trans hb2
    simp at this
  · rw [Below.heap_setCell _ _ _ _ (fun e => h.bp (Eq.subst (motive := fun x => vp.ownBlock = some x) (show g = b from e) hh))]
    exact hg.block g (h.pieces.lt g hh) (fun h3 => h.ap (by simpa using h3) hh)

theorem But.chain {S T : List Nat} {a b c : World} (h : But S a b) (k : But T b c) (hs : ∀ i ∈ T, i ∈ S ∨ a.heap.size ≤ i) : But S a c :=
  ⟨k.os.trans h.os, k.tape.trans h.tape, k.output.trans h.output, Nat.le_trans h.size k.size, fun i hi hn => (k.block i (Nat.lt_of_lt_of_le hi h.size) (fun hh => by rcases hs i hh with e | e; exact hn e; omega)).trans (h.block i hi hn)⟩
theorem spread_one {ps : List Pc} {p : Pc} (h : p ∈ ps) : p.n ≤ (spread Pc.o Pc.n ps).length := by
  induction ps with
  | nil => cases h
  | cons x ps ih =>
    rw [spread_cons, List.length_append, List.length_replicate]
    rcases List.mem_cons.1 h with rfl | h
    · omega
    · have := ih h
      omega

/-- What the second loop carries. -/
structure Laying (w wr : World) (b : Nat) (vb vp vbi : Value) (q : Qs) (ps : List Pc) (bs : List UInt8) : Prop where
  raw : QRaw wr b vbi vp q.lim q.cl bs ps
  but : But (foot b vb vp) w wr
  own : ∀ k, vbi.ownBlock = some k → vb.ownBlock = some k ∨ w.heap.size ≤ k
theorem Laying.foot {w wr : World} {b : Nat} {vb vp vbi : Value} {q : Qs} {ps : List Pc} {bs : List UInt8} (h : Laying w wr b vb vp vbi q ps bs) : ∀ k ∈ foot b vbi vp, k ∈ foot b vb vp ∨ w.heap.size ≤ k := by
  intro k hk
  rcases foot_mem.1 hk with e | e | e
  · exact .inl (foot_mem.2 (.inl e))
  · rcases h.own k e with e | e
    · exact .inl (foot_mem.2 (.inr (.inl e)))
    · exact .inr e
  · exact .inl (foot_mem.2 (.inr (.inr e)))
/-- Two appends. -/
theorem two_grown {wr X w1 X1 w2 : World} {vbi v1 v2 : Value} (hX : Below wr.heap.size wr X) (g1 : Grown X w1 vbi v1 vbi.ownBlock.toList) (hX1 : Below w1.heap.size w1 X1) (g2 : Grown X1 w2 v1 v2 v1.ownBlock.toList) :
    But vbi.ownBlock.toList wr w2 ∧ ∀ k, v2.ownBlock = some k → vbi.ownBlock = some k ∨ wr.heap.size ≤ k := by
  have b1 : But vbi.ownBlock.toList wr w1 := But.trans (.of hX) g1.but
  have o1 : ∀ k, v1.ownBlock = some k → vbi.ownBlock = some k ∨ wr.heap.size ≤ k := fun k hk => by
    rcases g1.own with e | e
    · exact .inl (e ▸ hk)
    · rw [e] at hk
      cases hk
      exact .inr hX.size
  refine ⟨(b1.trans (.of hX1)).chain g2.but (fun i hi => ?_), fun k hk => ?_⟩
  · rcases o1 i (by simpa using hi) with e | e
    · exact .inl (by simpa using e)
    · exact .inr e
  · rcases g2.own with e | e
    · exact o1 k (e ▸ hk)
    · rw [e] at hk
      cases hk
      exact .inr (Nat.le_trans b1.size hX1.size)
/-- One line more: the store. -/
theorem Laying.next {w wr w2 : World} {b : Nat} {vb vp vbi v2 : Value} {q : Qs} {ps : List Pc} {bs bs' : List UInt8} {n2 : Nat} {x2 : List Value} (h : Laying w wr b vb vp vbi q ps bs) (hg : But vbi.ownBlock.toList wr w2 ∧ ∀ k, v2.ownBlock = some k → vbi.ownBlock = some k ∨ wr.heap.size ≤ k) (r2 : Row w2 5 1 v2 n2 x2) (hn : n2 = bs'.length) (hx : x2 = bs'.map bv) :
    Laying w (w2.setCell ⟨b, 2, none⟩ v2) b vb vp v2 q ps bs' := by
  obtain ⟨h3, h4⟩ := h.raw.regrowB hg.1 r2 hn hx
  refine ⟨h3, h.but.chain h4 h.foot, fun k hk => ?_⟩
  rcases hg.2 k hk with e | e
  · exact h.own k e
  · exact .inr (Nat.le_trans h.but.size e)
theorem laid_end {w W0 wr w' : World} {b : Nat} {vb vp vbi : Value} {q : Qs} {ps : List Pc} {o : Int × Int} {ls : List (List UInt8)} (hW : But (foot b vb vp) w wr) (hs : w.heap.size ≤ W0.heap.size) (h : Laying W0 wr b vb vp vbi q ps (q.bs ++ flatF ls)) (ho : Owned wr w' b vbi vp q.lim q.cl (q.bs ++ flatF ls) (ownP ps o (sumF ls))) (hp : (∀ p ∈ ps, 0 < p.n) ∧ spread Pc.o Pc.n ps = q.os ∧ q.Ok) (hS : 0 < sumF ls) : Went0 w w' (foot b vb vp) b (layF q o ls) := by
  obtain ⟨vp', h1, h2, h3⟩ := ho
  refine ⟨foot b vbi vp', ⟨vbi, vp', _, h1, own_pos hp.1 o hS, ?_, rfl⟩, hW.chain h2 fun k hk => ?_, fun k hk => ?_⟩
  · rw [own_spread, hp.2.1]
    rfl
  · rcases h.foot k hk with e | e
    · exact .inl e
    · exact .inr (Nat.le_trans hs e)
  · rcases foot_mem.1 hk with e | e | e
    · exact .inl (foot_mem.2 (.inl e))
    · rcases h.own k e with e | e
      · exact .inl (foot_mem.2 (.inr (.inl e)))
      · exact .inr (Nat.le_trans hs e)
    · rcases h3 k e with e | e
      · exact .inl (foot_mem.2 (.inr (.inr e)))
      · exact .inr (Nat.le_trans hW.size e)

/-- What layWithin leaves. -/
def Laid (w w' : World) (F : List Nat) (b : Nat) (q : Qs) (bound E : Int) (o : Int × Int) (ls : List (List UInt8)) (x : Ending) : Prop :=
  x = .returned (.int .i64 (layE q bound E ls)) ∧ Went0 w w' F b (layQ q bound E o ls)

theorem lay_no {w W : World} {F : List Nat} {b : Nat} {q : Qs} {bound E : Int} {o : Int × Int} {ls : List (List UInt8)} {e : Int} (h : Went0 w W F b q) (he : layE q bound E ls = e) (hne : e ≠ 0) : Laid w W F b q bound E o ls (.returned (.int .i64 e)) := by
  refine ⟨by rw [he], ?_⟩
  unfold layQ
  rw [he, if_neg hne]
  exact h
set_option maxHeartbeats 4000000 in
theorem layWithin_any {w : World} {F : List Nat} {b : Nat} {q : Qs} {v : Value} {ls : List (List UInt8)} (hq : QAt w F b q) (hs : Strs w v ls) (hoff : ∀ g, v.ownBlock = some g → g ∉ F) (bound E : Int) (p t : Int) (ho : OwnOk (p, t)) (hE : E ≠ 0) (hb0 : -9223372036854775808 ≤ bound) (hb1 : bound ≤ 9223372036854775807)
    (hsmall : linesB ls = true → (q.bs.length : Int) + (sumF ls : Int) ≤ bound → q.bs.length + sumF ls ≤ 1000000) :
    Calls Try.prog 34 #[.pointer (some ⟨b, 0, none⟩), .int .i64 bound, .int .i64 E, .agg #[.int .i64 p, .int .i64 t], v] w fun x w' => Laid w w' F b q bound E (p, t) ls x := by
  obtain ⟨vb, vp, ps, hraw, hpos, hspr, hqok, rfl⟩ := hq
  obtain ⟨W0, hW0⟩ : ∃ W0, w.alloc (.cells #[.int .i64 p, .int .i64 t] 62) = W0 := ⟨_, rfl⟩
  obtain ⟨N0, hN0⟩ : ∃ N0, w.heap.size = N0 := ⟨_, rfl⟩
  have hw0 : Below w.heap.size w W0 := by rw [← hW0]; exact (Below.refl _ _).alloc (Nat.le_refl _) _
  have hpar : W0.heap[N0]? = some (.cells #[.int .i64 p, .int .i64 t] 62 (0, 0)) := by rw [← hW0, ← hN0]; exact heap_alloc_new w _
  have hN1 : N0 + 1 ≤ W0.heap.size := lt_of_block hpar
  have hfl : ∀ k ∈ foot b vb vp, k < N0 := by rw [← hN0]; exact hraw.lt
  have HW0 : Hid (w.alloc (.cells #[.int .i64 p, .int .i64 t] 62) = W0) := hW0
  have HN0 : Hid (w.heap.size = N0) := hN0
  have HFi : Hid (∀ W, Below W0.heap.size W0 W → Below w.heap.size w W) := fun W hW => hw0.trans (hW.mono (by omega))
  have HQ : Hid (∀ W, Below W0.heap.size W0 W → Went0 w W (foot b vb vp) b q) := fun W hW => ⟨_, ⟨vb, vp, ps, hraw.below (HFi.out W hW), hpos, hspr, rfl⟩, .of (HFi.out W hW), fun k hk => .inl hk⟩
  have HBt : Hid (∀ W, But (foot b vb vp) W0 W → But (foot b vb vp) w W ∧ W.heap[N0]? = some (.cells #[.int .i64 p, .int .i64 t] 62 (0, 0))) := fun W hW => ⟨(But.of hw0).trans hW, (hW.block N0 (by omega) (fun hh => by have := hfl N0 hh; omega)).trans hpar⟩
  obtain ⟨ad, n, cap, rfl, hn, hn1, hcell⟩ := hs.shape
  have HI : Hid (∀ (l : List UInt8) W, l.length ≤ 9223372036854775807 → Calls Try.prog 42 #[.string (str l)] W fun x w' => x = .returned (.bool (lineB l)) ∧ Below W.heap.size W w') := fun l W hl => isLine_any l W hl
  have HC : Hid (∀ W, But (foot b vb vp) W0 W → ∀ (i : Nat) (l : List UInt8), ls[i]? = some l → ∃ g o, ad = some ⟨g, o, none⟩ ∧ g < w.heap.size ∧ l.length ≤ 9223372036854775807 ∧ W.cell? ⟨g, o + i, none⟩ = some (.string (str l))) := fun W hW => hcell W fun g hg hlt => (HBt.out W hW).1.block g hlt (hoff g hg)
  have HN : Hid (ls.length = n) := hn
  have HRaw : Hid (QRaw W0 b vb vp q.lim q.cl q.bs ps) := hraw.below hw0
  have HE0 : Hid (E ≠ 0) := hE
  have HSm : Hid (linesB ls = true → (q.bs.length : Int) + (sumF ls : Int) ≤ bound → q.bs.length + sumF ls ≤ 1000000) := hsmall
  have HP : Hid ((∀ p ∈ ps, 0 < p.n) ∧ spread Pc.o Pc.n ps = q.os ∧ q.Ok) := ⟨hpos, hspr, hqok⟩
  have hfew := hqok.few
  clear hcell hn hs hraw hE hsmall hpos hspr hqok hoff ho hw0 hpar hfl hW0 hN0
  go_enter Try.func34, Try.ntmps34
  go_wp2_with fail
  rw [HW0.out, HN0.out]
  go_loopw [11, 18] (fun s11 s18 wr => ∃ i : Nat, i ≤ n ∧ s18 = .int .i64 i ∧ s11 = .int .i64 (sumF (ls.take i) : Int) ∧ Hid (linesB (ls.take i) = true) ∧ Hid (Below W0.heap.size W0 wr)) (fun _ v _ => n - (intOf v).toNat)
  case atStart => exact ⟨0, Nat.zero_le _, rfl, rfl, (rfl : linesB [] = true), Below.refl _ _⟩
  case round =>
    obtain ⟨i, hi, rfl, rfl, HLi, HB⟩ := hrel
    by_cases hlt : i < n
    · obtain ⟨l, hl⟩ : ∃ l, ls[i]? = some l := ⟨_, List.getElem?_eq_getElem (by rw [HN.out]; exact hlt)⟩
      obtain ⟨g, o, rfl, hg, hll, hc⟩ := HC.out wr (.of HB.out) i l hl
      have HT : Hid (ls.take (i + 1) = ls.take i ++ [l]) := by show _ = _; rw [List.take_add_one, hl]; rfl
      have HSz : Hid (sumF (ls.take i) ≤ i * 8193) := by
        have h1 := sum_short HLi.out
        rw [List.length_take, HN.out] at h1
        show _ ≤ _
        rwa [Nat.min_eq_left hi] at h1
      obtain ⟨S, hS⟩ : ∃ S, sumF (ls.take i) = S := ⟨_, rfl⟩
      have HS : Hid (sumF (ls.take i) = S) := hS
      have HI2 : Hid (∀ W, Calls Try.prog 42 #[.string (str l)] W fun x w' => x = .returned (.bool (lineB l)) ∧ Below W.heap.size W w') := fun W => HI.out l W hll
      have HLL : Hid (ls[i]? = some l) := hl
      have hm : (str l).size = l.length := rfl
      obtain ⟨m, hm2⟩ : ∃ m, l.length = m := ⟨_, rfl⟩
      rw [hm2] at hm hll
      have HM : Hid (l.length = m) := hm2
      have hSb : S ≤ i * 8193 := by rw [← hS]; exact HSz.out
      rw [hS]
      obtain ⟨z, hz⟩ : ∃ z, str l = z := ⟨_, rfl⟩
      rw [hz] at hm hc HI2
      have hz2 : z.size = m := hm
      clear hl hm2 hz hm hS
      by_cases hb : lineB l = true
      · have hmm : m ≤ 8192 := by rw [← HM.out]; exact line_short hb
        rw [hb] at HI2
        go_wp2_with (go_at_call 42; refine (HI2.out _).mono ?_; rintro x w1 ⟨rfl, hb1⟩)
        go_roundw
        case rel => exact ⟨i + 1, by omega, by go_num, by rw [HT.out, sum_snoc, HM.out, HS.out]; go_num, (by show _ = _; rw [HT.out, lines_snoc, HLi.out, hb]; rfl), HB.out.trans (hb1.mono HB.out.size)⟩
        case measure => simp [intOf]; omega
      · have hbf : lineB l = false := by cases hh : lineB l <;> simp_all
        rw [hbf] at HI2
        have HF : Hid (linesB ls = false) := lines_false HLL.out hbf
        go_wp2_with (go_at_call 42; refine (HI2.out _).mono ?_; rintro x w1 ⟨rfl, hb1⟩; have HB1 : Hid (Below W0.heap.size W0 w1) := HB.out.trans (hb1.mono HB.out.size); clear hb1)
        all_goals go_ret
        all_goals exact lay_no (e := 1) (HQ.out _ HB1.out) (by unfold layE; rw [if_pos HF.out]) (by decide)
    · obtain rfl : i = n := by omega
      have htk : ls.take i = ls := List.take_of_length_le (by rw [HN.out]; omega)
      rw [htk] at HLi ⊢
      obtain ⟨S, hS⟩ : ∃ S, sumF ls = S := ⟨_, rfl⟩
      have HS : Hid (sumF ls = S) := hS
      have hSb : S ≤ i * 8193 := by
        have h1 := sum_short HLi.out
        rwa [hS, HN.out] at h1
      rw [hS]
      have HE : Hid (layE q bound E ls = if q.cl = true then 141 else if S = 0 then 0 else if (q.bs.length : Int) + (S : Int) > bound then E else 0) := by show _ = _; unfold layE; rw [if_neg (by rw [HLi.out]; simp), HS.out]
      obtain ⟨B, hB⟩ : ∃ B, q.bs.length = B := ⟨_, rfl⟩
      have HSi : Hid (∀ W, Below W0.heap.size W0 W → Calls Try.prog 7 #[.pointer (some ⟨b, 0, none⟩)] W fun x w' => x = .returned (.int .i64 (B : Int)) ∧ W = w') := fun W hW => size_raw (HRaw.out.below hW) B hB (by omega)
      rw [hB] at HE hfew
      have HBs : Hid (q.bs.length = B) := hB
      have c1 := (HRaw.out.below HB.out).c1
      clear hS htk hB
      cases hcl : q.cl
      · rw [hcl] at c1 HE
        simp only [Bool.false_eq_true, if_false] at HE
        by_cases hS0 : S = 0
        · subst hS0
          rw [if_pos rfl] at HE
          have HL : Hid (layQ q bound E (p, t) ls = q) := by
            show _ = _
            unfold layQ
            rw [HE.out, if_pos rfl]
            exact lay_none q (p, t) HS.out
          go_wp2_with fail
          all_goals go_ret
          all_goals exact ⟨by rw [HE.out]; rfl, by rw [HL.out]; exact HQ.out _ HB.out⟩
        · rw [if_neg hS0] at HE
          have hS1 : ¬ (S : Int) = 0 := by omega
          by_cases hbd : (B : Int) + (S : Int) > bound
          · rw [if_pos hbd] at HE
            go_wp2_with (go_at_call 7; refine (HSi.out _ HB.out).mono ?_; rintro x w1 ⟨rfl, rfl⟩)
            all_goals go_ret
            all_goals exact lay_no (e := E) (HQ.out _ HB.out) HE.out HE0.out
          · rw [if_neg hbd] at HE
            have hsm : B + S ≤ 1000000 := by
              have h1 := HSm.out HLi.out
              rw [HBs.out, HS.out] at h1
              exact h1 (by omega)
            go_wp2_with (go_at_call 7; refine (HSi.out _ HB.out).mono ?_; rintro x w1 ⟨rfl, rfl⟩)
            clear c1
            go_loopw [49] (fun s49 wx => ∃ (k : Nat) (vbi : Value), k ≤ i ∧ s49 = .int .i64 k ∧ Hid (Laying W0 wx b vb vp vbi q ps (q.bs ++ flatF (ls.take k)))) (fun v _ => i - (intOf v).toNat)
            case atStart => exact ⟨0, vb, Nat.zero_le _, rfl, ⟨by simpa [flatF] using HRaw.out.below HB.out, .of HB.out, fun k hk => .inl hk⟩⟩
            case round =>
              obtain ⟨k, vbi, hk, rfl, HLy⟩ := hrel
              by_cases hlt2 : k < i
              · obtain ⟨l, hl⟩ : ∃ l, ls[k]? = some l := ⟨_, List.getElem?_eq_getElem (by rw [HN.out]; exact hlt2)⟩
                obtain ⟨g, o, rfl, hg, hll, hc⟩ := HC.out wr HLy.out.but k l hl
                have HT : Hid (flatF (ls.take (k + 1)) = flatF (ls.take k) ++ (l ++ [10])) := by show _ = _; rw [List.take_add_one, hl]; exact flat_snoc _ _
                have HLn : Hid ((q.bs ++ flatF (ls.take k)).length + (l.length + 1) ≤ 1000000) := by
                  have h1 := sum_take ls (k + 1)
                  rw [← flat_len, HT.out, HS.out, List.length_append, List.length_append, List.length_singleton] at h1
                  show _ ≤ _
                  rw [List.length_append, HBs.out]
                  omega
                obtain ⟨z, hz⟩ : ∃ z, str l = z := ⟨_, rfl⟩
                have HZ : Hid (str l = z) := hz
                rw [hz] at hc
                have c2 := HLy.out.raw.c2
                have cf := HLy.out.raw.free 2
                have HLy2 := HLy
                clear hl hz HLy
                have hz3 : z.size = l.length := by rw [← HZ.out]; rfl
                go_wp2_with (refine wpList_append_row wr rfl _ _ 50 9 rfl underBytes info5Q rfl (v := vbi) (by simp [Act.eval]) (u := .string z) (by simp [Act.eval]) HLy2.out.raw.bytes (Src.ofString _ Try.underlying9 z) ?x1 ?x2 ?x3)
                case x1 => have := HLn.out; omega
                case x2 => have := HLn.out; unfold maxLen; omega
                case x3 =>
                  intro v1 w1 hr1 hg1
                  go_wp2_with (refine wpList_append_row (w1.alloc (.cells #[.int .u8 10] 5)) rfl _ _ 50 50 rfl underBytes info5Q rfl (v := v1) (by simp [Act.eval]) (u := .slice (some ⟨w1.heap.size, 0, none⟩) 1 1) (by simp [Act.eval]) (hr1.out.below ((Below.refl _ _).alloc (Nat.le_refl _) _)) (Src.block underBytes _ _ [.int .u8 10] 5 1 (heap_alloc_new w1 _) rfl rfl) ?y1 ?y2 ?y3)
                  case y1 => have := HLn.out; simp only [List.length_append] at this; omega
                  case y2 => have := HLn.out; simp only [List.length_append] at this; unfold maxLen; omega
                  case y3 =>
                    intro v2 w2 hr2 hg2
                    have h2g := two_grown (Below.refl _ _) hg1.out ((Below.refl _ _).alloc (Nat.le_refl _) _) hg2.out
                    obtain ⟨-, -, e2, -, ef⟩ := HLy2.out.raw.ahead (Below.refl _ _) h2g.1 HLy2.out.raw.bbs
                    have HNx : Hid (Laying W0 (w2.setCell ⟨b, 2, none⟩ v2) b vb vp v2 q ps (q.bs ++ flatF (ls.take (k + 1)))) := by
                      refine HLy2.out.next h2g hr2.out ?_ ?_
                      · rw [HT.out]
                        simp only [List.length_append, List.length_singleton]
                        omega
                      · rw [HT.out, ← HZ.out]
                        simp only [List.map_append]
                        rfl
                    obtain ⟨ad2, cap2, rfl, -, -, -, -⟩ := hr2.out.shape
                    clear hr1 hg1 hr2 hg2 h2g HLy2 hc c2 cf
                    go_wp2
                    go_roundw
                    case rel => exact ⟨k + 1, _, by omega, by go_num, HNx⟩
                    case measure => simp [intOf]; omega
              · obtain rfl : k = i := by omega
                have htk : ls.take k = ls := List.take_of_length_le (by rw [HN.out]; omega)
                rw [htk] at HLy
                have hpar := (HBt.out wr HLy.out.but).2
                have p0 : wr.cell? ⟨N0, 0, none⟩ = some (.int .i64 p) := cell_atT hpar 0
                have p1 : wr.cell? ⟨N0, 1, none⟩ = some (.int .i64 t) := cell_atT hpar 1
                have HOw : Hid (Calls Try.prog 43 #[.pointer (some ⟨b, 0, none⟩), .agg #[.int .i64 p, .int .i64 t], .int .i64 (S : Int)] wr fun x w' => x = .returned (.tuple #[]) ∧ Owned wr w' b vbi vp q.lim q.cl (q.bs ++ flatF ls) (ownP ps (p, t) S)) := by
                  have h1 := HP.out
                  have h2 := h1.2.2.len
                  have h3 := spread_few (o := Pc.o) h1.1
                  rw [h1.2.1, h2, HBs.out] at h3
                  refine own_any (o := (p, t)) HLy.out.raw (by omega) (fun x hx => ?_) (by omega)
                  have h4 := spread_one hx
                  rw [h1.2.1, h2, HBs.out] at h4
                  omega
                have HFin : Hid (∀ w', Owned wr w' b vbi vp q.lim q.cl (q.bs ++ flatF ls) (ownP ps (p, t) S) → Went0 w w' (foot b vb vp) b (layQ q bound E (p, t) ls)) := by
                  intro w' ho
                  have e1 : layQ q bound E (p, t) ls = layF q (p, t) ls := by unfold layQ; rw [HE.out, if_pos rfl]
                  rw [e1]
                  rw [← HS.out] at ho
                  exact laid_end (W0 := W0) (HBt.out wr HLy.out.but).1 (HFi.out W0 (Below.refl _ _)).size HLy.out ho HP.out (by rw [HS.out]; omega)
                clear hpar htk HLy
                go_wp2_with (go_at_call 43; refine HOw.out.mono ?_; rintro x w2 ⟨rfl, hown⟩; have HW2 : Hid (Went0 w w2 (foot b vb vp) b (layQ q bound E (p, t) ls)) := HFin.out w2 hown; clear hown)
                all_goals go_ret
                all_goals exact ⟨by rw [HE.out]; rfl, HW2.out⟩
      · rw [hcl] at c1 HE
        simp only [if_true] at HE
        go_wp2_with fail
        all_goals go_ret
        all_goals exact lay_no (e := 141) (HQ.out _ HB.out) HE.out (by decide)

end Go.Proofs.Ytkpnolkbheoocaa
