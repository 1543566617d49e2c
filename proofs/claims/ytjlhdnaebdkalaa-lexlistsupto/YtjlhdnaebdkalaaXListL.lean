/-
  Lines of commands: the law's line.
-/
import Derived.Test.YtjlhdnaebdkalaaXSameD
import Derived.Test.YtjlhdnaebdkalaaXListP
import Derived.Test.YtjlhdnaebdkalaaXQuoteP
namespace Go.Proofs.Ytjlhdnaebdkalaa
open Go.RowKit
set_option linter.unusedVariables false
set_option maxRecDepth 100000

/-- The line so far: whole commands, and words of the next. -/
def partF (cs : List (List (List UInt8))) (ws : List (List UInt8)) : List UInt8 := linesF cs ++ (if cs = [] then [] else [59]) ++ cmdL ws
theorem part_whole (cs : List (List (List UInt8))) (c : List (List UInt8)) : partF cs c = linesF (cs ++ [c]) := by
  unfold partF
  cases cs with
  | nil => rw [if_pos rfl]; show [] ++ [] ++ cmdL c = linesF [c]; rw [linesF_one]; rfl
  | cons d cs => rw [if_neg (by simp), linesF_snoc]
theorem part_word (cs : List (List (List UInt8))) (ws : List (List UInt8)) (w : List UInt8) : partF cs (ws ++ [w]) = partF cs ws ++ (if ws = [] then [] else [32]) ++ quoteF w := by
  unfold partF
  cases ws with
  | nil => rw [if_pos rfl, List.nil_append, cmdL_one, List.append_nil]; show _ = linesF cs ++ _ ++ [] ++ quoteF w; rw [List.append_nil]
  | cons v ws => rw [if_neg (List.cons_ne_nil _ _), cmdL_snoc, ← List.append_assoc, ← List.append_assoc]
theorem tailW_app (b : List (List UInt8)) : ∀ a : List (List UInt8), tailW (a ++ b) = tailW a ++ tailW b
  | [] => rfl
  | w :: a => by
    show 32 :: (quoteF w ++ tailW (a ++ b)) = _
    rw [tailW_app b a]
    simp [tailW]
theorem tailC_app (b : List (List (List UInt8))) : ∀ a : List (List (List UInt8)), tailC (a ++ b) = tailC a ++ tailC b
  | [] => rfl
  | c :: a => by
    show 59 :: (cmdL c ++ tailC (a ++ b)) = _
    rw [tailC_app b a]
    simp [tailC]
theorem cmdL_le (c : List (List UInt8)) (k : Nat) : (cmdL (c.take k)).length ≤ (cmdL c).length := by
  cases c with
  | nil => simp [cmdL]
  | cons w ws =>
    cases k with
    | zero => simp [cmdL]
    | succ k =>
      show (quoteF w ++ tailW (ws.take k)).length ≤ (quoteF w ++ tailW ws).length
      have h := tailW_app (ws.drop k) (ws.take k)
      rw [List.take_append_drop] at h
      rw [h]
      simp only [List.length_append]
      omega
theorem lines_le (cs : List (List (List UInt8))) (k : Nat) : (linesF (cs.take k)).length ≤ (linesF cs).length := by
  cases cs with
  | nil => simp [linesF]
  | cons c cs =>
    cases k with
    | zero => simp [linesF]
    | succ k =>
      show (cmdL c ++ tailC (cs.take k)).length ≤ (cmdL c ++ tailC cs).length
      have h := tailC_app (cs.drop k) (cs.take k)
      rw [List.take_append_drop] at h
      rw [h]
      simp only [List.length_append]
      omega
theorem part_le (P : List (List (List UInt8))) (c : List (List UInt8)) (k : Nat) : (partF P (c.take k)).length ≤ (partF P c).length := by
  unfold partF
  have := cmdL_le c k
  simp only [List.length_append]
  omega
theorem str_app (a b : List UInt8) : str a ++ str b = str (a ++ b) := by
  have h : (str a ++ str b).data.toList = (str (a ++ b)).data.toList := by rw [ByteArray.data_append, Array.toList_append]; rfl
  rw [← data_str (str a ++ str b), h]
  rfl
theorem take_get {α : Type} (l : List α) (i : Nat) (x : α) (h : l[i]? = some x) : l.take (i + 1) = l.take i ++ [x] := by
  obtain ⟨hi, e⟩ := List.getElem?_eq_some_iff.1 h
  rw [List.take_succ_eq_append_getElem hi, e]

set_option maxHeartbeats 8000000 in
theorem line_any (v : Value) (cs : List (List (List UInt8))) (w : World) (h1 : SeeD w v cs) (hs : SmallC cs) (hq : ∀ c ∈ cs, ∀ x ∈ c, x.length ≤ 1000000000) (hL : (linesF cs).length ≤ 1000000000000) : Calls Try.prog 14 #[v] w fun e w' => e = .returned (.string (str (linesF cs))) ∧ Below w.heap.size w w' := by
  obtain ⟨a1, k1, e1, f1⟩ := h1
  subst e1
  have HG1 : Hid (cs ≠ [] → ∃ g, a1 = some ⟨g, 0, none⟩ ∧ g < w.heap.size ∧ ∀ i c, cs[i]? = some c → ∃ u, w.cell? ⟨g, i, none⟩ = some u ∧ StrSeeG w u c) := f1
  have HS : Hid (∀ c ∈ cs, c.length ≤ 2000000) := hs.2
  have HQ : Hid (∀ c ∈ cs, ∀ x ∈ c, x.length ≤ 1000000000) := hq
  have hN9 := hs.1
  have HQu : Hid (∀ (X : ByteArray) W, X.size ≤ 1000000000 → Calls Try.prog 9 #[.string X] W fun e w' => e = .returned (.string (str (quoteF X.data.toList))) ∧ Below W.heap.size W w') := fun X W hX => quote_any X W hX
  obtain ⟨N, hN⟩ : ∃ N, cs.length = N := ⟨_, rfl⟩
  have HN : Hid (cs.length = N) := hN
  rw [hN] at hN9 ⊢
  have HL : Hid ((linesF cs).length ≤ 1000000000000) := hL
  clear f1 hs hN hq hL
  go_enter Try.func14, Try.ntmps14
  go_wp2
  go_loopw [3, 4] (fun vs vi wr => ∃ i : Nat, i ≤ N ∧ vi = .int .i64 i ∧ vs = .string (str (linesF (cs.take i))) ∧ Hid (Below w.heap.size w wr)) (fun _ vi _ => N - (intOf vi).toNat)
  case atStart => exact ⟨0, Nat.zero_le _, rfl, rfl, Below.refl _ _⟩
  case round =>
    obtain ⟨i, hi, rfl, rfl, HB⟩ := hrel
    by_cases hlt : i < N
    · obtain ⟨c, hc⟩ : ∃ c, cs[i]? = some c := ⟨_, List.getElem?_eq_getElem (by rw [HN.out]; exact hlt)⟩
      have hne : cs ≠ [] := fun e => by rw [e] at hc; simp at hc
      obtain ⟨g1, rfl, hg1, c1⟩ := HG1.out hne
      obtain ⟨v1, d1, s1⟩ := c1 i c hc
      obtain ⟨b1, m1, rfl, t1⟩ := s1
      have hcl := HS.out c (List.mem_of_getElem? hc)
      have HQc : Hid (∀ x ∈ c, x.length ≤ 1000000000) := HQ.out c (List.mem_of_getElem? hc)
      obtain ⟨M, hM⟩ : ∃ M, c.length = M := ⟨_, rfl⟩
      have HM : Hid (c.length = M) := hM
      rw [hM] at d1 hcl
      have HD : Hid (∀ X, Below w.heap.size w X → X.cell? ⟨g1, i, none⟩ = some (.slice b1 M m1)) := fun X hX => (hX.cell (p := ⟨g1, i, none⟩) hg1).trans d1
      have HT : Hid (c ≠ [] → ∃ h1 o1, b1 = some ⟨h1, o1, none⟩ ∧ ∀ X, Below w.heap.size w X → ∀ k x, c[k]? = some x → X.cell? ⟨h1, o1 + k, none⟩ = some (strV x)) := fun hne => by
        obtain ⟨h1, o1, e1, l1, x1⟩ := t1 hne
        exact ⟨h1, o1, e1, fun X hX k x hx => (hX.cell (p := ⟨h1, o1 + k, none⟩) l1).trans (x1 k x hx)⟩
      have HNx : Hid (linesF (cs.take (i + 1)) = partF (cs.take i) c) := by show _ = _; rw [take_get cs i c hc, part_whole]
      have HLe : Hid ((partF (cs.take i) c).length ≤ 1000000000000 ∧ (linesF (cs.take i)).length ≤ 1000000000000) := by
        show _ ∧ _
        have h1 := lines_le cs (i + 1)
        have h2 := lines_le cs i
        have h3 := HL.out
        rw [HNx.out] at h1
        exact ⟨by omega, by omega⟩
      obtain ⟨P, hP⟩ : ∃ P, cs.take i = P := ⟨_, rfl⟩
      rw [hP] at HNx HLe ⊢
      have HPe : Hid (P = [] ↔ i = 0) := by
        show _ ↔ _
        rw [← hP, List.take_eq_nil_iff]
        constructor
        · rintro (h | h)
          · exact h
          · exact absurd h hne
        · intro h; exact .inl h
      have HP0 : Hid (str (linesF P) ++ (if i = 0 then (⟨#[]⟩ : ByteArray) else ⟨#[59]⟩) = str (partF P [])) := by
        show _ = _
        unfold partF
        by_cases h0 : i = 0
        · rw [if_pos h0, if_pos (HPe.out.2 h0)]
          show str (linesF P) ++ str [] = _
          rw [str_app]
          simp [cmdL]
        · rw [if_neg h0, if_neg (fun e => h0 (HPe.out.1 e))]
          show str (linesF P) ++ str [59] = _
          rw [str_app]
          simp [cmdL]
      have hmid : ∃ T : ByteArray, str (partF P []) = T ∧ ((i = 0 ∧ str (linesF P) = T) ∨ (0 < i ∧ str (linesF P) ++ (⟨#[59]⟩ : ByteArray) = T)) := by
        refine ⟨_, rfl, ?_⟩
        by_cases h0 : i = 0
        · left
          refine ⟨h0, ?_⟩
          rw [← HP0.out, if_pos h0]
          show str (linesF P) = str (linesF P) ++ str []
          rw [str_app, List.append_nil]
        · right
          refine ⟨by omega, ?_⟩
          rw [← HP0.out, if_neg h0]
      obtain ⟨T, hT, hor⟩ := hmid
      have HTt : Hid (str (partF P []) = T) := hT
      clear c1 d1 t1 hM hc hne hg1 hP hT HP0 HPe
      have d1 := HD.out wr HB.out
      have HOr : Hid ((i = 0 ∧ str (linesF P) = T) ∨ (0 < i ∧ str (linesF P) ++ (⟨#[59]⟩ : ByteArray) = T)) := hor
      clear hor
      obtain ⟨LP, hLP⟩ : ∃ x, str (linesF P) = x := ⟨_, rfl⟩
      have hLPs : LP.size ≤ 1000000000000 := by rw [← hLP, str_size]; exact HLe.out.2
      rw [hLP] at HOr ⊢
      clear hLP
      rcases HOr.out with ⟨h0, hLT⟩ | ⟨h0, hLT⟩
      · have hi0 : ¬ 0 < i := by omega
        have di : decide (0 < i) = false := decide_eq_false hi0
        clear HOr h0
        rw [hLT]
        clear hLT
        go_wp2
        go_loopw [3, 5] (fun vs vk wx => ∃ k : Nat, k ≤ M ∧ vk = .int .i64 k ∧ vs = .string (str (partF P (c.take k))) ∧ Hid (Below w.heap.size w wx)) (fun _ vk _ => M - (intOf vk).toNat)
        case atStart => exact ⟨0, Nat.zero_le _, rfl, by rw [List.take_zero, HTt.out], HB⟩
        case round =>
          obtain ⟨k, hk, rfl, rfl, HBx⟩ := hrel
          have d1 := HD.out _ HBx.out
          by_cases hkm : k < M
          · obtain ⟨x, hx⟩ : ∃ x, c[k]? = some x := ⟨_, List.getElem?_eq_getElem (by rw [HM.out]; exact hkm)⟩
            have hne : c ≠ [] := fun e => by rw [e] at hx; simp at hx
            obtain ⟨h1, o1, rfl, hX⟩ := HT.out hne
            have x1 := hX _ HBx.out k x hx
            unfold strV at x1
            have hql := HQc.out x (List.mem_of_getElem? hx)
            have HNk : Hid (partF P (c.take (k + 1)) = partF P (c.take k) ++ (if k = 0 then [] else [32]) ++ quoteF x) := by
              show _ = _
              rw [take_get c k x hx, part_word]
              congr 2
              by_cases hk0 : k = 0
              · rw [if_pos hk0, if_pos (by rw [hk0]; rfl)]
              · rw [if_neg hk0, if_neg (by rw [List.take_eq_nil_iff]; rintro (h | h); exact hk0 h; exact hne h)]
            have HQx : Hid (∀ W, Calls Try.prog 9 #[.string (str x)] W fun e w' => e = .returned (.string (str (quoteF x))) ∧ Below W.heap.size W w') := fun W => HQu.out (str x) W hql
            obtain ⟨X, hXe⟩ : ∃ z, str x = z := ⟨_, rfl⟩
            rw [hXe] at x1 HQx
            have hk1 := part_le P c (k + 1)
            have hk2 := part_le P c k
            have hk3 := HLe.out.1
            obtain ⟨PK, hPK⟩ : ∃ z, partF P (c.take k) = z := ⟨_, rfl⟩
            rw [hPK] at HNk hk2 ⊢
            rw [HNk.out, List.length_append, List.length_append] at hk1
            obtain ⟨SK, hSK⟩ : ∃ z, str PK = z := ⟨_, rfl⟩
            obtain ⟨SQ, hSQ⟩ : ∃ z, str (quoteF x) = z := ⟨_, rfl⟩
            have hs1 : SK.size ≤ 1000000000000 := by rw [← hSK, str_size]; omega
            have hs2 : SQ.size ≤ 1000000000000 := by rw [← hSQ, str_size]; omega
            have HSK : Hid (str PK = SK) := hSK
            have HSQ : Hid (str (quoteF x) = SQ) := hSQ
            rw [hSQ] at HQx
            rw [hSK]
            clear hX hne hx hXe hPK hql hSK hSQ hk1 hk2 hk3
            by_cases hk0 : k = 0
            · have HE : Hid (partF P (c.take (k + 1)) = PK ++ quoteF x) := by show _ = _; rw [HNk.out, if_pos hk0, List.append_nil]
              have hkp : ¬ 0 < k := by omega
              have dk : decide (0 < k) = false := decide_eq_false hkp
              clear hk0
              go_wp2_with fail
              refine (HQx.out _).mono ?_
              rintro e w2 ⟨rfl, hb2⟩
              have HB2 : Hid (Below w.heap.size w w2) := HBx.out.trans (hb2.mono HBx.out.size)
              clear hb2
              go_wp2
              go_roundw
              case rel => exact ⟨k + 1, by omega, by go_num, by rw [HE.out, ← str_app, HSK.out, HSQ.out], HB2⟩
              case measure => simp [intOf]; omega
            · have hkp : 0 < k := by omega
              have HE : Hid (partF P (c.take (k + 1)) = PK ++ [32] ++ quoteF x) := by show _ = _; rw [HNk.out, if_neg hk0]
              clear hk0
              go_wp2_with fail
              refine (HQx.out _).mono ?_
              rintro e w2 ⟨rfl, hb2⟩
              have HB2 : Hid (Below w.heap.size w w2) := HBx.out.trans (hb2.mono HBx.out.size)
              clear hb2
              go_wp2
              go_roundw
              case rel => exact ⟨k + 1, by omega, by go_num, by rw [HE.out, ← str_app, ← str_app, HSK.out, HSQ.out]; rfl, HB2⟩
              case measure => simp [intOf]; omega
          · have hke : k = M := by omega
            have HEn : Hid (partF P (c.take k) = linesF (cs.take (i + 1))) := by
              have h9 := HNx.out
              show _ = _
              rw [hke, ← HM.out, List.take_length]
              exact h9.symm
            clear hke
            go_wp2
            go_roundw
            case rel => exact ⟨i + 1, by omega, by go_num, by rw [HEn.out], HBx⟩
            case measure => simp [intOf]; omega

      · clear HOr
        have HLT : Hid (LP ++ (⟨#[59]⟩ : ByteArray) = T) := hLT
        clear hLT
        go_wp2
        rw [HLT.out]
        go_loopw [3, 5] (fun vs vk wx => ∃ k : Nat, k ≤ M ∧ vk = .int .i64 k ∧ vs = .string (str (partF P (c.take k))) ∧ Hid (Below w.heap.size w wx)) (fun _ vk _ => M - (intOf vk).toNat)
        case atStart => exact ⟨0, Nat.zero_le _, rfl, by rw [List.take_zero, HTt.out], HB⟩
        case round =>
          obtain ⟨k, hk, rfl, rfl, HBx⟩ := hrel
          have d1 := HD.out _ HBx.out
          by_cases hkm : k < M
          · obtain ⟨x, hx⟩ : ∃ x, c[k]? = some x := ⟨_, List.getElem?_eq_getElem (by rw [HM.out]; exact hkm)⟩
            have hne : c ≠ [] := fun e => by rw [e] at hx; simp at hx
            obtain ⟨h1, o1, rfl, hX⟩ := HT.out hne
            have x1 := hX _ HBx.out k x hx
            unfold strV at x1
            have hql := HQc.out x (List.mem_of_getElem? hx)
            have HNk : Hid (partF P (c.take (k + 1)) = partF P (c.take k) ++ (if k = 0 then [] else [32]) ++ quoteF x) := by
              show _ = _
              rw [take_get c k x hx, part_word]
              congr 2
              by_cases hk0 : k = 0
              · rw [if_pos hk0, if_pos (by rw [hk0]; rfl)]
              · rw [if_neg hk0, if_neg (by rw [List.take_eq_nil_iff]; rintro (h | h); exact hk0 h; exact hne h)]
            have HQx : Hid (∀ W, Calls Try.prog 9 #[.string (str x)] W fun e w' => e = .returned (.string (str (quoteF x))) ∧ Below W.heap.size W w') := fun W => HQu.out (str x) W hql
            obtain ⟨X, hXe⟩ : ∃ z, str x = z := ⟨_, rfl⟩
            rw [hXe] at x1 HQx
            have hk1 := part_le P c (k + 1)
            have hk2 := part_le P c k
            have hk3 := HLe.out.1
            obtain ⟨PK, hPK⟩ : ∃ z, partF P (c.take k) = z := ⟨_, rfl⟩
            rw [hPK] at HNk hk2 ⊢
            rw [HNk.out, List.length_append, List.length_append] at hk1
            obtain ⟨SK, hSK⟩ : ∃ z, str PK = z := ⟨_, rfl⟩
            obtain ⟨SQ, hSQ⟩ : ∃ z, str (quoteF x) = z := ⟨_, rfl⟩
            have hs1 : SK.size ≤ 1000000000000 := by rw [← hSK, str_size]; omega
            have hs2 : SQ.size ≤ 1000000000000 := by rw [← hSQ, str_size]; omega
            have HSK : Hid (str PK = SK) := hSK
            have HSQ : Hid (str (quoteF x) = SQ) := hSQ
            rw [hSQ] at HQx
            rw [hSK]
            clear hX hne hx hXe hPK hql hSK hSQ hk1 hk2 hk3
            by_cases hk0 : k = 0
            · have HE : Hid (partF P (c.take (k + 1)) = PK ++ quoteF x) := by show _ = _; rw [HNk.out, if_pos hk0, List.append_nil]
              have hkp : ¬ 0 < k := by omega
              have dk : decide (0 < k) = false := decide_eq_false hkp
              clear hk0
              go_wp2_with fail
              refine (HQx.out _).mono ?_
              rintro e w2 ⟨rfl, hb2⟩
              have HB2 : Hid (Below w.heap.size w w2) := HBx.out.trans (hb2.mono HBx.out.size)
              clear hb2
              go_wp2
              go_roundw
              case rel => exact ⟨k + 1, by omega, by go_num, by rw [HE.out, ← str_app, HSK.out, HSQ.out], HB2⟩
              case measure => simp [intOf]; omega
            · have hkp : 0 < k := by omega
              have HE : Hid (partF P (c.take (k + 1)) = PK ++ [32] ++ quoteF x) := by show _ = _; rw [HNk.out, if_neg hk0]
              clear hk0
              go_wp2_with fail
              refine (HQx.out _).mono ?_
              rintro e w2 ⟨rfl, hb2⟩
              have HB2 : Hid (Below w.heap.size w w2) := HBx.out.trans (hb2.mono HBx.out.size)
              clear hb2
              go_wp2
              go_roundw
              case rel => exact ⟨k + 1, by omega, by go_num, by rw [HE.out, ← str_app, ← str_app, HSK.out, HSQ.out]; rfl, HB2⟩
              case measure => simp [intOf]; omega
          · have hke : k = M := by omega
            have HEn : Hid (partF P (c.take k) = linesF (cs.take (i + 1))) := by
              have h9 := HNx.out
              show _ = _
              rw [hke, ← HM.out, List.take_length]
              exact h9.symm
            clear hke
            go_wp2
            go_roundw
            case rel => exact ⟨i + 1, by omega, by go_num, by rw [HEn.out], HBx⟩
            case measure => simp [intOf]; omega

    · have hie : i = N := by omega
      have HE : Hid (linesF (cs.take i) = linesF cs) := by show _ = _; rw [hie, ← HN.out, List.take_length]
      clear hie
      rw [HE.out]
      go_wp2
      go_ret
      exact ⟨rfl, HB.out⟩

end Go.Proofs.Ytjlhdnaebdkalaa
