/-
  Formats: all tokens of a pattern; Match.
-/
import Derived.Test.YtgoofifbifdgoaaGreatDoorFTok
import Derived.Test.YtgoofifbifdgoaaGreatDoorFMatP
import Derived.WalkKit
namespace Go.Proofs.YtgoofifbifdgoaaGreatDoor
open Go.RowKit
set_option linter.unusedVariables false
set_option maxRecDepth 20000

def tokCs (t : Tok) : List Value := [.bool t.many, .bool t.not, .string (str t.mem)]
def toksV (ts : List Tok) : List Value := ts.flatMap tokCs
theorem toks_snoc (ts : List Tok) (t : Tok) : toksV (ts ++ [t]) = toksV ts ++ tokCs t := by simp [toksV]
theorem infoTok : (Tryz.prog.info? 51).map (fun i => (i.zero, i.size, i.bytes)) = some (some (.agg #[.bool false, .bool false, .string ⟨#[]⟩]), 3, 24) := by kernel_rfl
theorem underToks : Tryz.prog.underlying 38 = some (.slice 51) := by kernel_rfl
/-- A list of tokens of one's own. -/
abbrev Tokens (w w' : World) (v : Value) (ts : List Tok) : Prop := Mine w w' 51 3 v ts.length (toksV ts)
theorem toks_at : ∀ (ts : List Tok) (i : Nat) (t : Tok), ts[i]? = some t → (toksV ts)[i * 3]? = some (.bool t.many) ∧ (toksV ts)[i * 3 + 1]? = some (.bool t.not) ∧ (toksV ts)[i * 3 + 2]? = some (.string (str t.mem))
  | [], i, t, h => by simp at h
  | u :: ts, 0, t, h => by
    cases h
    exact ⟨rfl, rfl, rfl⟩
  | u :: ts, i + 1, t, h => by
    have ih := toks_at ts i t h
    have e : toksV (u :: ts) = tokCs u ++ toksV ts := rfl
    have e1 : (i + 1) * 3 = (tokCs u).length + i * 3 := by show _ = 3 + _; omega
    rw [e, e1]
    refine ⟨?_, ?_, ?_⟩
    · rw [List.getElem?_append_right (Nat.le_add_right _ _), Nat.add_sub_cancel_left]; exact ih.1
    · rw [Nat.add_assoc, List.getElem?_append_right (Nat.le_add_right _ _), Nat.add_sub_cancel_left]; exact ih.2.1
    · rw [Nat.add_assoc, List.getElem?_append_right (Nat.le_add_right _ _), Nat.add_sub_cancel_left]; exact ih.2.2
theorem Mine.toks {w W : World} {v : Value} {ts : List Tok} (h : Tokens w W v ts) (hm : ∀ t ∈ ts, t.mem.length ≤ 4611686018427387904) (hn : ts.length ≤ 4611686018427387904) : TokIn W v ts := by
  obtain ⟨ad, cap, e, h1, h2, h3, h4⟩ := h.row.shape
  refine ⟨ad, cap, e, hn, fun i t ht => ?_⟩
  have hi := (List.getElem?_eq_some_iff.1 ht).1
  refine ⟨hm t (List.mem_of_getElem? ht), ?_⟩
  cases ad with
  | none =>
    have := (h3 rfl).1
    omega
  | some a =>
    obtain ⟨g, o, rfl, _, h5, h6⟩ := h4 a rfl
    obtain ⟨t0, t1, t2⟩ := toks_at ts i t ht
    exact ⟨g, o, rfl, (h6 W rfl).1 _ _ t0, (h6 W rfl).1 _ _ t1, (h6 W rfl).1 _ _ t2⟩

structure TokS (l : List UInt8) (n : Nat) (E : Int) (k : Nat) (ts R : List Tok) : Prop where
  all : ∃ f, n - k ≤ f ∧ ts ++ toksG f (l.drop k) (E - (k : Int)) = R
  ok : LastOk (l.drop k) (E - (k : Int))
theorem TokS.step {l : List UInt8} {n k : Nat} {E : Int} {ts R : List Tok} (h : TokS l n E k ts R) (hn : l.length = n) (hk : k < n) : TokS l n E (k + (tokF (l.drop k) (E - (k : Int))).2) (ts ++ [(tokF (l.drop k) (E - (k : Int))).1]) R := by
  obtain ⟨f, hf, he⟩ := h.all
  have hne : l.drop k ≠ [] := fun e => by have := congrArg List.length e; rw [List.length_drop] at this; simp at this; omega
  obtain ⟨h1, h2⟩ := tok_len h.ok hne
  obtain ⟨⟨t, p⟩, hp⟩ : ∃ q, tokF (l.drop k) (E - (k : Int)) = q := ⟨_, rfl⟩
  have h3 := h.ok.drop h2
  rw [hp] at h1 h2 h3 ⊢
  simp only at h1 h2 h3 ⊢
  have e : E - (k : Int) - (p : Int) = E - ((k + p : Nat) : Int) := by omega
  rw [e, List.drop_drop] at h3
  obtain ⟨f', rfl⟩ : ∃ f', f = f' + 1 := ⟨f - 1, by omega⟩
  refine ⟨⟨f', by omega, ?_⟩, h3⟩
  unfold toksG at he
  rw [if_neg hne, hp] at he
  simp only at he
  rw [List.drop_drop, e] at he
  rw [← he, List.append_assoc]
  rfl
theorem TokS.done {l : List UInt8} {n k : Nat} {E : Int} {ts R : List Tok} (h : TokS l n E k ts R) (hn : l.length = n) (hk : n ≤ k) : ts = R := by
  obtain ⟨f, hf, he⟩ := h.all
  rw [← he, List.drop_eq_nil_of_le (by omega)]
  cases f <;> simp [toksG]
theorem TokS.few {l : List UInt8} {n k : Nat} {E : Int} {ts R : List Tok} (h : TokS l n E k ts R) : ts.length ≤ R.length := by
  obtain ⟨f, hf, he⟩ := h.all
  rw [← he, List.length_append]
  omega

set_option maxHeartbeats 4000000 in
theorem tokens_any (l : List UInt8) (hl : l.length ≤ 2147483647) (w : World) : Calls Tryz.prog 18 #[.string (str l)] w fun e w' => ∃ v, e = .returned v ∧ Tokens w w' v (toksF l) := by
  have HL := hidK fun W => Tryz.strings_LastIndexByte (str l) 93 (by rw [str_size]; omega) W
  have HT : Hid (∀ (k : Nat) (e : Int) W, l.drop k ≠ [] → LastOk (l.drop k) e → Calls Tryz.prog 25 #[.string (str (l.drop k)), .int .i64 e] W fun x w' => x = .returned (.tuple #[tokV (tokF (l.drop k) e).1, .int .i64 ((tokF (l.drop k) e).2 : Int)]) ∧ Below W.heap.size W w') :=
    fun k e W h1 h2 => nextToken_any (l.drop k) (by rw [List.length_drop]; omega) h1 e h2 W
  have HD : Hid (∀ k, (str l).extract k (str l).size = str (l.drop k)) := str_dropF l
  obtain ⟨z, hz⟩ : ∃ z, str l = z := ⟨_, rfl⟩
  have hs : z.size = l.length := by rw [← hz]; rfl
  obtain ⟨R, hR⟩ : ∃ R, toksF l = R := ⟨_, rfl⟩
  have hE : Lib.lastIndexByte (str l) 93 = lastE l := rfl
  rw [hE] at HL
  have hEl := (last_ok l).lt
  have hEg : -1 ≤ lastE l := by
    rcases Lib.lastIndexByte_spec (str l) 93 with ⟨h1, _⟩ | ⟨i, _, h2, _⟩
    · rw [← hE, h1]; omega
    · rw [← hE, h2]; omega
  have HR : Hid (TokS l l.length (lastE l) 0 [] R) := ⟨⟨l.length, by omega, by rw [← hR]; unfold toksF; simp⟩, by simpa using last_ok l⟩
  have HRl : Hid (R.length ≤ l.length) := by rw [← hR]; exact toks_few _ _ _
  obtain ⟨E, hEE⟩ : ∃ E, lastE l = E := ⟨_, rfl⟩
  rw [hz, hR]
  rw [hz] at HD HL
  rw [hEE] at HL HR hEl hEg
  obtain ⟨n, hn⟩ : ∃ n, l.length = n := ⟨_, rfl⟩
  rw [hn] at hs hl HR HRl hEl
  have HN : Hid (l.length = n) := hn
  clear hz hR hn hE hEE
  go_enter Tryz.func18, Tryz.ntmps18
  go_wp2_with (go_at_call 24; refine (HL.out _).mono ?_; rintro x w1 ⟨rfl, rfl⟩)
  go_loopw [3, 5] (fun s3 s5 wx => ∃ (k : Nat) (ts : List Tok), k ≤ n ∧ s5 = .int .i64 (k : Int) ∧ Hid (TokS l n E k ts R) ∧ Hid (Tokens w1 wx s3 ts)) (fun _ v _ => n - (intOf v).toNat)
  case atStart => exact ⟨0, [], Nat.zero_le _, rfl, HR.out, Mine.nil (Below.refl _ _)⟩
  case round =>
    obtain ⟨k, ts, hk, rfl, HS, HM⟩ := hrel
    obtain ⟨sp, hsp⟩ : ∃ sp, u3 = sp := ⟨_, rfl⟩
    rw [hsp] at HM ⊢
    clear hsp
    by_cases hkn : k < n
    · have hne : l.drop k ≠ [] := fun e => by
        have := congrArg List.length e
        rw [List.length_drop, HN.out] at this
        simp at this
        omega
      have HTk := hidK fun W => HT.out k (E - (k : Int)) W hne HS.out.ok
      have HS2 := hidK (HS.out.step HN.out hkn)
      obtain ⟨hp1, hp2⟩ := tok_len HS.out.ok hne
      rw [List.length_drop, HN.out] at hp2
      obtain ⟨⟨t, p⟩, hp⟩ : ∃ q, tokF (l.drop k) (E - (k : Int)) = q := ⟨_, rfl⟩
      rw [hp] at HTk HS2 hp1 hp2
      simp only [tokV] at HTk HS2 hp1 hp2
      have hdx := HD.out k
      rw [hs] at hdx
      obtain ⟨y, hy⟩ : ∃ y, str (l.drop k) = y := ⟨_, rfl⟩
      obtain ⟨zm, hzm⟩ : ∃ zm, str t.mem = zm := ⟨_, rfl⟩
      obtain ⟨tm, htm⟩ : ∃ tm, t.many = tm := ⟨_, rfl⟩
      obtain ⟨tn, htn⟩ : ∃ tn, t.not = tn := ⟨_, rfl⟩
      rw [hy] at HTk hdx
      rw [hzm, htm, htn] at HTk
      have HV : Hid (tokCs t = [.bool tm, .bool tn, .string zm]) := by show _ = _; unfold tokCs; rw [hzm, htm, htn]
      have hfew := HS.out.few
      have hfe := HRl.out
      clear hne hp hy hzm htm htn HS
      go_wp2_with fail
      refine (HTk.out _).mono ?_
      rintro x w2 ⟨rfl, hb2⟩
      have HM2 := hidK (HM.out.more hb2)
      clear HM hb2
      go_wp2_with (refine wpList_append_row ((w2.alloc (.cells #[.bool tm, .bool tn, .string zm] 51)).alloc (.cells #[.bool tm, .bool tn, .string zm] 51)) rfl _ _ 38 38 rfl underToks infoTok rfl (v := sp) (by simp [Act.eval]) (u := .slice (some ⟨w2.heap.size + 1, 0, none⟩) 1 1) (by simp [Act.eval]) (HM2.out.row.below (heap_two w2 _ _).2.2.2) (Src.block underToks _ _ [.bool tm, .bool tn, .string zm] _ 3 (heap_two w2 _ _).2.1 rfl rfl) ?x1 ?x2 ?x3)
      case x1 => omega
      case x2 => unfold maxLen; omega
      case x3 =>
        intro v7 w7 hr7 hg7
        have HM7 := hidK ((HM2.out.grown (heap_two w2 _ _).2.2.2 hr7.out hg7.out).cast (n' := (ts ++ [t]).length) (xs' := toksV (ts ++ [t])) (by simp) (by rw [toks_snoc, HV.out]))
        clear hr7 hg7 HM2 HV
        go_wp2_with fail
        go_roundw
        case rel => exact ⟨k + p, ts ++ [t], by omega, by go_num, HS2.out, HM7.out⟩
        case measure => simp [intOf]; omega
    · obtain rfl : k = n := by omega
      have HQ := hidK (HS.out.done HN.out (Nat.le_refl _))
      go_wp2_with fail
      all_goals go_ret
      all_goals exact ⟨_, rfl, by rw [← HQ.out]; exact HM.out⟩
end Go.Proofs.YtgoofifbifdgoaaGreatDoor
