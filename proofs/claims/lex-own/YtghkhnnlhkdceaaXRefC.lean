/-
  Lines of commands: the document's word.
-/
import Derived.Test.YtghkhnnlhkdceaaXRefB
import Derived.Test.YtghkhnnlhkdceaaXSame
import Derived.Laws.AppendOwnNone
namespace Go.Proofs.Ytghkhnnlhkdceaa
open Go.RowKit
set_option linter.unusedVariables false
set_option maxRecDepth 100000

/-- One owned row of bytes appended to another. -/
theorem wpList_append_piece {P : Program} (w : World) {ops : Array Oper} {rest : List Oper} {o : Oper} {a : Act} {Q : Exit → Act → World → Prop} (hgd : o.guard = none) (s x : Operand) (t : TypeId)
    (ho : o.op = .call { callee := .builtin .append, args := #[s, x], argTypes := #[t, t] }) (ht : P.underlying t = some (.slice 5))
    (hinfo : (P.info? 5).map (fun i => (i.zero, i.size, i.bytes)) = some (some (.int .u8 0), 1, 1))
    (B B' : Nat) (v u : Value) (l news : List UInt8) (hs : a.eval s = v) (hown : Owns w B v l) (hx : a.eval x = u) (hu : Owns w B' u news)
    (hlen : l.length + news.length ≤ 140737488355328) (hbase : B ≤ w.heap.size)
    (h : ∀ v' w', Owns w' B v' (l ++ news) → Below B w w' → wpList P ops Q rest (a.put o.dst v') w') : wpList P ops Q (o :: rest) a w := by
  obtain ⟨i0, hi, hz0, hz1, hz2⟩ := info_parts hinfo
  rcases hu.2 with ⟨rfl, h0⟩ | ⟨g, cap, cur, rfl, hb, hg, h1, h2, h3, h4⟩
  · have : news = [] := List.length_eq_zero_iff.1 h0
    subst this
    refine wpList_append_own_none hgd s x t ho B 5 i0 1 ht hi v l.length (l.map bv) hs hown hx (h v w ?_ (Below.refl _ _))
    rw [List.append_nil]
    exact hown
  · refine wpList_append_bytes w hgd s x t ho ht hinfo B v l hs hown ⟨g, 0, none⟩ news.length cap news hx rfl (fun j hj => ?_) hlen hbase h
    rw [show (⟨g, 0, none⟩ : Addr).add j = ⟨g, j, none⟩ by unfold Addr.add; split <;> simp_all]
    rw [World.ownsRow.cellAt hu j (by simpa using hj), List.getElem?_map, List.getElem?_eq_getElem hj]
    rfl

def WordR (w : World) (s : ByteArray) (p : Nat) (R : Sum (List UInt8) (List UInt8 × List UInt8)) (e : Ending) (w' : World) : Prop := match R with
  | .inr (x, u) => ∃ q, e = .returned (.tuple #[strV x, .int .i64 ((q : Nat) : Int), .int .i64 0]) ∧ s.data.toList.drop q = u ∧ q ≤ s.size ∧ p ≤ q ∧ Below w.heap.size w w'
  | .inl f => e = .returned (.tuple #[.string ⟨#[]⟩, .int .i64 (-1), .int .i64 ((s.size - f.length : Nat) : Int)]) ∧ Below w.heap.size w w'

theorem drop_place (s : ByteArray) (q : Nat) (hq : q ≤ s.size) : s.size - (s.data.toList.drop q).length = q := by
  rw [List.length_drop, size_data]
  omega

set_option maxHeartbeats 8000000 in
theorem wordR_any (s : ByteArray) (p : Nat) (w : World) (hp : p ≤ s.size) (hs : s.size ≤ 8192) (R : Sum (List UInt8) (List UInt8 × List UInt8)) (hR : wordF (s.data.toList.drop p) = R) : Calls Try.prog 9 #[.string s, .int .i64 p] w (WordR w s p R) := by
  have HR : Hid (ontoW [] (wordF (s.data.toList.drop p)) = R) := by rw [ontoW_nil]; exact hR
  clear hR
  go_enter Try.func9, Try.ntmps9
  go_wp2
  go_loopw [7, 8] (fun u i wr => ∃ (q : Nat) (a : List UInt8), p ≤ q ∧ q ≤ s.size ∧ a.length ≤ 8192 * q ∧ i = .int .i64 (q : Int) ∧ Owns wr w.heap.size u a ∧ Hid (ontoW a (wordF (s.data.toList.drop q)) = R) ∧ Hid (Below w.heap.size w wr)) (fun _ i _ => s.size - (intOf i).toNat)
  case atStart => exact ⟨p, [], Nat.le_refl _, hp, by simp, rfl, Owns.nil _ _, HR, Below.refl _ _⟩
  case round =>
    obtain ⟨q, a, hq, hqs, hal, rfl, hown, HI, HB⟩ := hrel
    clear HR
    have hBr : w.heap.size ≤ wr.heap.size := HB.out.size
    by_cases hlt : q < s.size
    · obtain ⟨c, hc⟩ : ∃ c, s[q] = c := ⟨_, rfl⟩
      obtain ⟨k, hk⟩ : ∃ k, c.toNat = k := ⟨_, rfl⟩
      have hsk : (s[q].toNat : Int) = (k : Int) := by rw [hc, hk]
      have HDr : Hid (s.data.toList.drop q = c :: s.data.toList.drop (q + 1)) := by rw [← hc]; exact drop_at s q hlt
      have HK : Hid (c.toNat = k) := hk
      have hwq : IntKind.i64.wrap ((q : Int) + 1) = ((q + 1 : Nat) : Int) := by rw [IntKind.wrap_i64]; omega
      have HBl : Hid (∀ W, Calls Try.prog 8 #[.int .u8 (k : Int)] W fun e w' => e = .returned (.bool (decide (k = 32 ∨ k = 9))) ∧ W = w') := fun W => by
        have h := blankR_any c W
        unfold blankB at h
        rw [hk] at h
        exact h
      clear hc hk
      cases hE : endB c with
      | true =>
        have HF : Hid (R = .inr (a, s.data.toList.drop q)) := by
          have h := HI.out
          rw [HDr.out, word_end hE] at h
          rw [HDr.out]
          have e : ontoW a (.inr ([], c :: s.data.toList.drop (q + 1))) = .inr (a, c :: s.data.toList.drop (q + 1)) := by show Sum.inr (a ++ [], _) = _; rw [List.append_nil]
          rw [e] at h
          exact h.symm
        have hor : decide (k = 32 ∨ k = 9) = true ∨ (decide (k = 32 ∨ k = 9) = false ∧ k = 59) := by
          unfold endB blankB at hE
          rw [HK.out] at hE
          by_cases h1 : k = 32 ∨ k = 9
          · exact .inl (decide_eq_true h1)
          · right
            refine ⟨decide_eq_false h1, ?_⟩
            rw [decide_eq_false h1, Bool.false_or] at hE
            exact of_decide_eq_true hE
        have hcv := hown.text (P := Try.prog) 36 9 5 Try.underlying36 Try.underlying5 Try.underlying9
        clear hE
        rcases hor with h1 | ⟨h1, rfl⟩
        · rw [h1] at HBl
          clear h1
          go_wp2_with fail
          refine (HBl.out _).mono ?_
          rintro e w' ⟨rfl, rfl⟩
          go_wp2
          exact bodyPost_ret (v := .tuple #[.string (str a), .int .i64 (q : Int), .int .i64 0]) (by simp [results, Try.results9, go_sem]) rfl (by rw [HF.out]; exact ⟨q, rfl, rfl, hqs, hq, HB.out⟩)
        · rw [h1] at HBl
          clear h1
          go_wp2_with fail
          refine (HBl.out _).mono ?_
          rintro e w' ⟨rfl, rfl⟩
          go_wp2
          exact bodyPost_ret (v := .tuple #[.string (str a), .int .i64 (q : Int), .int .i64 0]) (by simp [results, Try.results9, go_sem]) rfl (by rw [HF.out]; exact ⟨q, rfl, rfl, hqs, hq, HB.out⟩)
      | false =>
        have hno : decide (k = 32 ∨ k = 9) = false ∧ k ≠ 59 := by
          have h := hE
          unfold endB blankB at h
          rw [HK.out, Bool.or_eq_false_iff] at h
          exact ⟨h.1, of_decide_eq_false h.2⟩
        rw [hno.1] at HBl
        have e59 : ((k : Int) != 59) = true := by
          have := hno.2
          have : (k : Int) ≠ 59 := by omega
          simpa using this
        clear hno
        by_cases k39 : k = 39
        · subst k39
          have HPc : Hid (pieceF c (s.data.toList.drop (q + 1)) = singleF (s.data.toList.drop (q + 1))) := by show _ = _; unfold pieceF; rw [HK.out]; rfl
          have hQ : quoteB c = true := by unfold quoteB; rw [HK.out]; rfl
          have HCa : Hid (∀ W R, singleF (s.data.toList.drop (q + 1)) = R → Calls Try.prog 11 #[.string s, .int .i64 (q : Int)] W (PieceR W s q R)) := fun W R hR => singleR_any s q W hlt hs R hR
          cases hp : singleF (s.data.toList.drop (q + 1)) with
          | none =>
            have HF : Hid (R = .inl (s.data.toList.drop q)) := by
              have h := HI.out
              rw [HDr.out, word_bad hE hQ (by rw [HPc.out]; exact hp)] at h
              rw [HDr.out]
              exact h.symm
            have HC1 : Hid (∀ W, Calls Try.prog 11 #[.string s, .int .i64 (q : Int)] W (PieceR W s q none)) := fun W => HCa.out W none hp
            clear hp hE hQ
            go_wp2_with fail
            refine (HBl.out _).mono ?_
            rintro e w' ⟨rfl, rfl⟩
            go_wp2_with fail
            refine (HC1.out _).mono ?_
            rintro e w1 ⟨rfl, hb1⟩
            have HB1 : Hid (Below w.heap.size w w1) := HB.out.trans (hb1.mono HB.out.size)
            clear hb1
            go_wp2
            exact bodyPost_ret (v := .tuple #[.string ⟨#[]⟩, .int .i64 (-1), .int .i64 (q : Int)]) (by simp [results, Try.results9, go_sem]) rfl (by rw [HF.out]; exact ⟨by rw [drop_place s q hqs], HB1.out⟩)
          | some z =>
            obtain ⟨b, u⟩ := z
            have HI2 : Hid (ontoW (a ++ b) (wordF u) = R) := by
              have h := HI.out
              rw [HDr.out, word_piece hE hQ (by rw [HPc.out]; exact hp), ontoW_ontoW] at h
              exact h
            have HC1 : Hid (∀ W, Calls Try.prog 11 #[.string s, .int .i64 (q : Int)] W (PieceR W s q (some (b, u)))) := fun W => HCa.out W _ hp
            clear hp hE hQ
            go_wp2_with fail
            refine (HBl.out _).mono ?_
            rintro e w' ⟨rfl, rfl⟩
            go_wp2_with fail
            refine (HC1.out _).mono ?_
            rintro e w1 ⟨v1, q1, rfl, ho1, hd1, hq1, hqq, hbl, hb1⟩
            have HB1 : Hid (Below w.heap.size w w1) := HB.out.trans (hb1.mono HB.out.size)
            have HO1 : Hid (Owns w1 w.heap.size u7 a) := hown.below hb1
            have HP1 : Hid (Owns w1 wr.heap.size v1 b) := ho1
            have HD1 : Hid (s.data.toList.drop q1 = u) := hd1
            have hsz1 := HB1.out.size
            have dq : decide ((q1 : Int) < 0) = false := decide_eq_false (by omega)
            clear hb1 ho1 hown hd1
            go_wp2_with (at_builtin; refine wpList_append_piece _ rfl (.tmp 72) (.tmp 73) 36 rfl Try.underlying36 infoB w.heap.size _ _ _ _ b rfl HO1.out rfl HP1.out ?x1 ?x2 ?_; (case x1 => first | omega | (simp; omega)); (case x2 => first | omega | (simp; omega)); intro v' w2 hown2 hb2)
            go_roundw
            case rel => exact ⟨q1, a ++ b, by omega, by omega, by rw [List.length_append]; omega, rfl, hown2, by rw [HD1.out]; exact HI2, HB1.out.trans hb2⟩
            case measure => simp [intOf]; omega

        · have e39 : ((k : Int) == 39) = false := by
            have : (k : Int) ≠ 39 := by omega
            simpa using this
          by_cases k34 : k = 34
          · subst k34
            have HPc : Hid (pieceF c (s.data.toList.drop (q + 1)) = doubleF (s.data.toList.drop (q + 1))) := by show _ = _; unfold pieceF; rw [HK.out]; rfl
            have hQ : quoteB c = true := by unfold quoteB; rw [HK.out]; rfl
            have HCa : Hid (∀ W R, doubleF (s.data.toList.drop (q + 1)) = R → Calls Try.prog 12 #[.string s, .int .i64 (q : Int)] W (PieceR W s q R)) := fun W R hR => doubleR_any s q W hlt hs R hR
            cases hp : doubleF (s.data.toList.drop (q + 1)) with
            | none =>
              have HF : Hid (R = .inl (s.data.toList.drop q)) := by
                have h := HI.out
                rw [HDr.out, word_bad hE hQ (by rw [HPc.out]; exact hp)] at h
                rw [HDr.out]
                exact h.symm
              have HC1 : Hid (∀ W, Calls Try.prog 12 #[.string s, .int .i64 (q : Int)] W (PieceR W s q none)) := fun W => HCa.out W none hp
              clear hp hE hQ
              go_wp2_with fail
              refine (HBl.out _).mono ?_
              rintro e w' ⟨rfl, rfl⟩
              go_wp2_with fail
              refine (HC1.out _).mono ?_
              rintro e w1 ⟨rfl, hb1⟩
              have HB1 : Hid (Below w.heap.size w w1) := HB.out.trans (hb1.mono HB.out.size)
              clear hb1
              go_wp2
              exact bodyPost_ret (v := .tuple #[.string ⟨#[]⟩, .int .i64 (-1), .int .i64 (q : Int)]) (by simp [results, Try.results9, go_sem]) rfl (by rw [HF.out]; exact ⟨by rw [drop_place s q hqs], HB1.out⟩)
            | some z =>
              obtain ⟨b, u⟩ := z
              have HI2 : Hid (ontoW (a ++ b) (wordF u) = R) := by
                have h := HI.out
                rw [HDr.out, word_piece hE hQ (by rw [HPc.out]; exact hp), ontoW_ontoW] at h
                exact h
              have HC1 : Hid (∀ W, Calls Try.prog 12 #[.string s, .int .i64 (q : Int)] W (PieceR W s q (some (b, u)))) := fun W => HCa.out W _ hp
              clear hp hE hQ
              go_wp2_with fail
              refine (HBl.out _).mono ?_
              rintro e w' ⟨rfl, rfl⟩
              go_wp2_with fail
              refine (HC1.out _).mono ?_
              rintro e w1 ⟨v1, q1, rfl, ho1, hd1, hq1, hqq, hbl, hb1⟩
              have HB1 : Hid (Below w.heap.size w w1) := HB.out.trans (hb1.mono HB.out.size)
              have HO1 : Hid (Owns w1 w.heap.size u7 a) := hown.below hb1
              have HP1 : Hid (Owns w1 wr.heap.size v1 b) := ho1
              have HD1 : Hid (s.data.toList.drop q1 = u) := hd1
              have hsz1 := HB1.out.size
              have dq : decide ((q1 : Int) < 0) = false := decide_eq_false (by omega)
              clear hb1 ho1 hown hd1
              go_wp2_with (at_builtin; refine wpList_append_piece _ rfl (.tmp 72) (.tmp 73) 36 rfl Try.underlying36 infoB w.heap.size _ _ _ _ b rfl HO1.out rfl HP1.out ?x1 ?x2 ?_; (case x1 => first | omega | (simp; omega)); (case x2 => first | omega | (simp; omega)); intro v' w2 hown2 hb2)
              go_roundw
              case rel => exact ⟨q1, a ++ b, by omega, by omega, by rw [List.length_append]; omega, rfl, hown2, by rw [HD1.out]; exact HI2, HB1.out.trans hb2⟩
              case measure => simp [intOf]; omega

          · have e34 : ((k : Int) == 34) = false := by
              have : (k : Int) ≠ 34 := by omega
              simpa using this
            by_cases k92 : k = 92
            · subst k92
              have HPc : Hid (pieceF c (s.data.toList.drop (q + 1)) = bareF (s.data.toList.drop (q + 1))) := by show _ = _; unfold pieceF; rw [HK.out]; rfl
              have hQ : quoteB c = true := by unfold quoteB; rw [HK.out]; rfl
              by_cases hq1 : q + 1 < s.size
              · obtain ⟨Q1, hQ1⟩ : ∃ x, q + 1 = x := ⟨_, rfl⟩
                have HQ1 : Hid (q + 1 = Q1) := hQ1
                obtain ⟨Q2, hQ2⟩ : ∃ x, q + 2 = x := ⟨_, rfl⟩
                have HQ2 : Hid (q + 2 = Q2) := hQ2
                have hq2 : Q1 < s.size := by omega
                obtain ⟨d, hd⟩ : ∃ d, s[Q1] = d := ⟨_, rfl⟩
                have HI2 : Hid (ontoW (a ++ [d]) (wordF (s.data.toList.drop Q2)) = R) := by
                  have h := HI.out
                  have e1 : s.data.toList.drop (q + 1) = d :: s.data.toList.drop Q2 := by
                    rw [hQ1, drop_at s Q1 hq2, hd, show Q1 + 1 = Q2 by omega]
                  rw [HDr.out, word_piece hE hQ (a := [d]) (u := s.data.toList.drop Q2) (by rw [HPc.out, e1]; rfl), ontoW_ontoW] at h
                  exact h
                have eq1 : ((Q1 : Int) == (s.size : Int)) = false := by
                  have : (Q1 : Int) ≠ (s.size : Int) := by omega
                  simpa using this
                obtain ⟨m, hm⟩ : ∃ m, d.toNat = m := ⟨_, rfl⟩
                have HM : Hid (d.toNat = m) := hm
                have hsm : (s[Q1].toNat : Int) = (m : Int) := by rw [hd, hm]
                have hw2 : IntKind.i64.wrap ((q : Int) + 2) = (Q2 : Int) := by rw [IntKind.wrap_i64]; omega
                rw [hQ1] at hwq
                clear hd hm hE hQ hq1
                have dq : decide ((Q2 : Int) < 0) = false := decide_eq_false (by omega)
                clear hQ1 hQ2
                have HPi : Hid (Owns (wr.alloc (.cells #[.int .u8 (m : Int)] 5)) w.heap.size (.slice (some ⟨wr.heap.size, 0, none⟩) 1 1) [d]) := by
                  have h := Owns.made wr w.heap.size [d] hBr (by show 1 ≤ maxLen; decide)
                  rw [show ([d].map bv).toArray = #[.int .u8 (m : Int)] by simp [bv, HM.out]] at h
                  exact h
                go_wp2_with fail
                refine (HBl.out _).mono ?_
                rintro e w' ⟨rfl, rfl⟩
                go_wp2_with (at_builtin; refine wpList_append_piece _ rfl (.tmp 72) (.tmp 73) 36 rfl Try.underlying36 infoB w.heap.size _ _ _ _ [d] rfl (hown.alloc _) rfl HPi.out ?x1 ?x2 ?_; (case x1 => first | omega | (simp; omega)); (case x2 => first | omega | (simp; omega)); intro v' w2 hown2 hb2)
                go_roundw
                case rel => exact ⟨Q2, a ++ [d], by have := HQ2.out; omega, by have := HQ1.out; have := HQ2.out; omega, by have := HQ2.out; rw [List.length_append]; simp only [List.length_singleton]; omega, rfl, hown2, HI2, (HB.out.alloc hBr _).trans hb2⟩
                case measure => (have := HQ2.out; simp [intOf]; omega)
              · have HF : Hid (R = .inl (s.data.toList.drop q)) := by
                  have h := HI.out
                  rw [HDr.out, word_bad hE hQ (by rw [HPc.out, drop_end s (q + 1) hq1]; rfl)] at h
                  rw [HDr.out]
                  exact h.symm
                have eq1 : (((q + 1 : Nat) : Int) == (s.size : Int)) = true := by
                  have : ((q + 1 : Nat) : Int) = (s.size : Int) := by omega
                  rw [this]; exact beq_self_eq_true _
                clear hE hQ
                obtain ⟨Q1, hQ1⟩ : ∃ x, q + 1 = x := ⟨_, rfl⟩
                simp only [hQ1] at eq1 hwq
                clear hQ1 hq1
                go_wp2_with fail
                refine (HBl.out _).mono ?_
                rintro e w' ⟨rfl, rfl⟩
                go_wp2
                exact bodyPost_ret (v := .tuple #[.string ⟨#[]⟩, .int .i64 (-1), .int .i64 (q : Int)]) (by simp [results, Try.results9, go_sem]) rfl (by rw [HF.out]; exact ⟨by rw [drop_place s q hqs], HB.out⟩)
            · have e92 : ((k : Int) == 92) = false := by
                have : (k : Int) ≠ 92 := by omega
                simpa using this
              have hQ : quoteB c = false := by unfold quoteB; rw [HK.out]; exact decide_eq_false (by omega)
              have HI2 : Hid (ontoW (a ++ [c]) (wordF (s.data.toList.drop (q + 1))) = R) := by
                have h := HI.out
                rw [HDr.out, word_other hE hQ, ontoW_ontoW] at h
                exact h
              clear hE hQ
              obtain ⟨Q1, hQ1⟩ : ∃ x, q + 1 = x := ⟨_, rfl⟩
              have HQ1 : Hid (q + 1 = Q1) := hQ1
              rw [hQ1] at hwq HI2
              have dq : decide ((Q1 : Int) < 0) = false := decide_eq_false (by omega)
              clear hQ1
              have HPi : Hid (Owns (wr.alloc (.cells #[.int .u8 (k : Int)] 5)) w.heap.size (.slice (some ⟨wr.heap.size, 0, none⟩) 1 1) [c]) := by
                have h := Owns.made wr w.heap.size [c] hBr (by show 1 ≤ maxLen; decide)
                rw [show ([c].map bv).toArray = #[.int .u8 (k : Int)] by simp [bv, HK.out]] at h
                exact h
              go_wp2_with fail
              refine (HBl.out _).mono ?_
              rintro e w' ⟨rfl, rfl⟩
              go_wp2_with (at_builtin; refine wpList_append_piece _ rfl (.tmp 72) (.tmp 73) 36 rfl Try.underlying36 infoB w.heap.size _ _ _ _ [c] rfl (hown.alloc _) rfl HPi.out ?x1 ?x2 ?_; (case x1 => first | omega | (simp; omega)); (case x2 => first | omega | (simp; omega)); intro v' w2 hown2 hb2)
              go_roundw
              case rel => exact ⟨Q1, a ++ [c], by have := HQ1.out; omega, by have := HQ1.out; omega, by have := HQ1.out; rw [List.length_append]; simp only [List.length_singleton]; omega, rfl, hown2, HI2, (HB.out.alloc hBr _).trans hb2⟩
              case measure => (have := HQ1.out; simp [intOf]; omega)
    · have HF : Hid (R = .inr (a, s.data.toList.drop q)) := by
        have h := HI.out
        rw [drop_end s q hlt, word_nil] at h
        rw [drop_end s q hlt]
        have e : ontoW a (.inr ([], [])) = .inr (a, []) := by show Sum.inr (a ++ [], _) = _; rw [List.append_nil]
        rw [e] at h
        exact h.symm
      have hcv := hown.text (P := Try.prog) 36 9 5 Try.underlying36 Try.underlying5 Try.underlying9
      go_wp2
      exact bodyPost_ret (v := .tuple #[.string (str a), .int .i64 (q : Int), .int .i64 0]) (by simp [results, Try.results9, go_sem]) rfl (by rw [HF.out]; exact ⟨q, rfl, rfl, hqs, hq, HB.out⟩)

end Go.Proofs.Ytghkhnnlhkdceaa
