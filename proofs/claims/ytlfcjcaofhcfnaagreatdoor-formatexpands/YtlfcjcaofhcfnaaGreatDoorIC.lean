/-
  Formats: the document's parts of a text, cut at its commas.
  Formats: the inside of a place is balanced (pure).
-/
import Derived.Test.YtlfcjcaofhcfnaaGreatDoorIB
import Derived.Test.YtlfcjcaofhcfnaaGreatDoorGQ
namespace Go.Proofs.YtlfcjcaofhcfnaaGreatDoor
open Go.RowKit
set_option linter.unusedVariables false
set_option maxRecDepth 100000

/-- No brace closes what was not begun. -/
def balG : Nat → List UInt8 → Int → Bool
  | 0, _, _ => true
  | f + 1, l, o => if l = [] then true else decide (0 ≤ o + (passF l).2) && balG f (l.drop (passF l).1) (o + (passF l).2)
def balF (l : List UInt8) : Bool := balG l.length l 0
theorem pass_sharp {l : List UInt8} {c : UInt8} (hc : l.head? = some c) (h : (passF l).2 = 1) : c.toNat = 35 := by
  match l, hc with
  | [d], hc =>
    simp only [passF] at h
    split at h <;> simp at h
  | d :: e :: r, hc =>
    simp at hc
    subst hc
    simp only [passF] at h
    split at h
    · simp at h
    · split at h
      · assumption
      · simp at h
theorem pass_comma {l : List UInt8} {c : UInt8} (hc : l.head? = some c) (h : c.toNat = 44) : passF l = (1, 0) := by
  match l, hc with
  | [d], hc =>
    simp at hc
    subst hc
    simp [passF, h]
  | d :: e :: r, hc =>
    simp at hc
    subst hc
    simp [passF, h]
set_option maxHeartbeats 8000000 in
theorem partsR_any (l : List UInt8) (hl : l.length ≤ 2147483647) (hbal : balF l = true) (w : World) : Calls Tryz.prog 112 #[.string (str l)] w fun e w' => ∃ v, e = .returned v ∧ Texts w w' v (cutF l) := by
  have HPa := hidK fun (i : Nat) (hi : i < l.length) W => passedR_any l hl i hi W
  have HD : Hid (∀ k, (str l).extract k (str l).size = str (l.drop k)) := str_dropF l
  have HE : Hid (∀ i j, (str l).extract i j = str ((l.drop i).take (j - i))) := str_midF l
  have HG : Hid (∀ (k : Nat) (c : UInt8) (h : k < (str l).size), l[k]? = some c → (str l)[k] = c) := fun k c h hc => str_getF l k c hc h
  obtain ⟨z, hz⟩ : ∃ z, str l = z := ⟨_, rfl⟩
  have hs : z.size = l.length := by rw [← hz]; rfl
  obtain ⟨R, hR⟩ : ∃ R, cutF l = R := ⟨_, rfl⟩
  have HR : Hid (CutS l l.length 0 0 0 [] R) := ⟨⟨l.length, by omega, hR⟩, Nat.le_refl _⟩
  have HRl : Hid (R.length ≤ l.length + 1) := by rw [← hR]; exact cut_few _ _ _ _
  have HBa : Hid (balG l.length (l.drop 0) 0 = true) := hbal
  rw [hz, hR]
  rw [hz] at HD HE HG HPa
  obtain ⟨n, hn⟩ : ∃ n, l.length = n := ⟨_, rfl⟩
  rw [hn] at hs hl HR HRl HPa HBa
  have HN : Hid (l.length = n) := hn
  clear hz hR hn hbal
  go_enter Tryz.func112, Tryz.ntmps112
  go_wp2_with fail
  go_loopw [3, 4, 5, 6] (fun s3 s4 s5 s6 wx => ∃ (k b o : Nat) (ps : List (List UInt8)), k ≤ n ∧ b ≤ n ∧ s6 = .int .i64 (k : Int) ∧ s4 = .int .i64 (b : Int) ∧ s5 = .int .i64 (o : Int) ∧ o ≤ k ∧ Hid (CutS l n k b o ps R) ∧ Hid (Texts w wx s3 ps) ∧ Hid (∃ f, n - k ≤ f ∧ balG f (l.drop k) (o : Int) = true)) (fun _ _ _ v _ => n - (intOf v).toNat)
  case atStart => exact ⟨0, 0, 0, [], Nat.zero_le _, Nat.zero_le _, rfl, rfl, rfl, Nat.le_refl _, HR.out, Mine.nil (Below.refl _ _), ⟨n, by omega, HBa.out⟩⟩
  case round =>
    obtain ⟨k, b, o, ps, hk, hb, rfl, rfl, rfl, ho, HS, HM, HBl⟩ := hrel
    obtain ⟨sp, hsp⟩ : ∃ sp, u3 = sp := ⟨_, rfl⟩
    rw [hsp] at HM ⊢
    clear hsp
    have hbk := HS.out.le
    by_cases hkn : k < n
    · obtain ⟨c, hc⟩ : ∃ c, l[k]? = some c := ⟨_, List.getElem?_eq_getElem (by rw [HN.out]; exact hkn)⟩
      have hkz : k < z.size := by omega
      have hgc := HG.out k c hkz hc
      have hdr := drop_two hc
      have hne : l.drop k ≠ [] := by rw [hdr]; simp
      have hhd : (l.drop k).head? = some c := by rw [hdr]; rfl
      have hpp := pass_pos (l.drop k)
      have hpl := pass_le hne
      have hps := pass_small (l.drop k)
      have hbr := pass_brace hhd
      have hone := fun h => pass_one (l := l.drop k) h
      have hsh := fun h => pass_sharp hhd h
      have hco := fun h => pass_comma hhd h
      rw [List.length_drop, HN.out] at hpl
      have HP := hidK (HPa.out k hkn)
      have HEk := hidK (HE.out b k)
      have HSc : Hid (∀ h : c.toNat = 44, ∀ h0 : o = 0, CutS l n (k + 1) (k + 1) 0 (ps ++ [(l.drop b).take (k - b)]) R) := fun h h0 => by
        have h1 := HS.out
        rw [h0] at h1
        exact h1.comma HN.out hkn hc h
      have HSp : Hid (¬ (c.toNat = 44 ∧ (o : Int) = 0) → CutS l n (k + (passF (l.drop k)).1) b ((o : Int) + (passF (l.drop k)).2) ps R) := fun h => HS.out.pass HN.out hkn hc h
      have hbl := HBl.out
      obtain ⟨f, hf, hbl⟩ := hbl
      obtain ⟨f', rfl⟩ : ∃ f', f = f' + 1 := ⟨f - 1, by omega⟩
      unfold balG at hbl
      rw [if_neg hne, Bool.and_eq_true, decide_eq_true_eq, List.drop_drop] at hbl
      have hfew := HS.out.few
      have hfe := HRl.out
      obtain ⟨P, hP⟩ : ∃ P, passF (l.drop k) = P := ⟨_, rfl⟩
      rw [hP] at HP hpp hpl hps hbr hone hsh hco HSp hbl
      obtain ⟨a, d⟩ := P
      simp only at HP hpp hpl hps hbr hone hsh HSp hbl
      obtain ⟨hnn, hbl⟩ := hbl
      have HBl2 := hidK hbl
      have HCo := hidK hco
      have HBr := hidK hbr
      have HOne := hidK hone
      have HSh := hidK hsh
      clear hc hdr hne hhd hP hbl hco hbr hone hsh HBl HS
      have hb3 : d = 1 ∨ d = 0 ∨ d = -1 := by omega
      rcases hb3 with rfl | rfl | rfl
      · have h35 := HSh.out rfl
        have hc1 : ¬ c.toNat = 125 := by omega
        have hc2 : ¬ c.toNat = 44 := by omega
        have HS2 : Hid (CutS l n (k + a) b ((o + 1 : Nat) : Int) ps R) := HSp.out (fun h => hc2 h.1)
        have HB3 : Hid (∃ f, n - (k + a) ≤ f ∧ balG f (l.drop (k + a)) ((o + 1 : Nat) : Int) = true) := ⟨f', by omega, HBl2.out⟩
        clear HSp HSc HBl2 HCo HBr HOne HSh h35 HEk
        go_wp2_with fail
        refine (HP.out _).mono ?_
        rintro x w8 ⟨rfl, rfl⟩
        go_wp2_with fail
        all_goals (
          go_roundw
          case rel => exact ⟨k + a, b, o + 1, ps, by omega, by omega, by go_num, rfl, by go_num, by omega, HS2.out, HM.out, HB3.out⟩
          case measure => simp [intOf]; omega)
      · have hc1 : ¬ c.toNat = 125 := fun h => by have := HBr.out.2 h; omega
        by_cases h44 : c.toNat = 44 ∧ o = 0
        · obtain ⟨h44, rfl⟩ := h44
          have e := HCo.out h44
          cases e
          have HS2 := hidK (HSc.out h44 rfl)
          have HB3 : Hid (∃ f, n - (k + 1) ≤ f ∧ balG f (l.drop (k + 1)) ((0 : Nat) : Int) = true) := ⟨f', by omega, HBl2.out⟩
          obtain ⟨y2, hy2⟩ : ∃ y2, str ((l.drop b).take (k - b)) = y2 := ⟨_, rfl⟩
          rw [hy2] at HEk
          have HY2 := hidK hy2
          have hex := HEk.out
          clear HSp HSc HBl2 HCo HBr HOne HSh hy2 HEk
          go_wp2_with fail
          refine (HP.out _).mono ?_
          rintro x w8 ⟨rfl, rfl⟩
          go_wp2_with (refine wpList_append_row (wr.alloc (.cells #[.string y2] 9)) rfl _ _ 127 127 rfl underStrs infoStr rfl (v := sp) (by simp [Act.eval]) (u := .slice (some ⟨wr.heap.size, 0, none⟩) 1 1) (by simp [Act.eval]) (HM.out.row.below ((Below.refl _ _).alloc (Nat.le_refl _) _)) (Src.block underStrs _ _ [.string y2] _ 1 (heap_alloc_new wr _) rfl rfl) ?x1 ?x2 ?x3)
          case x1 => omega
          case x2 => unfold maxLen; omega
          case x3 =>
            intro v7 w7 hr7 hg7
            have HM7 := hidK ((HM.out.grown ((Below.refl _ _).alloc (Nat.le_refl _) _) hr7.out hg7.out).cast (n' := (ps ++ [(l.drop b).take (k - b)]).length) (xs' := strsV (ps ++ [(l.drop b).take (k - b)])) (by simp) (by rw [strs_snoc, HY2.out]))
            clear hr7 hg7 HM HY2
            go_wp2_with fail
            all_goals (
              go_roundw
              case rel => exact ⟨k + 1, k + 1, 0, _, by omega, by omega, by go_num, by go_num, rfl, by omega, HS2.out, HM7.out, HB3.out⟩
              case measure => simp [intOf]; omega)
        · have HS2 : Hid (CutS l n (k + a) b ((o : Nat) : Int) ps R) := by
            have h := HSp.out (fun h => h44 ⟨h.1, by have := h.2; omega⟩)
            rw [Int.add_zero] at h
            exact h
          have HB3 : Hid (∃ f, n - (k + a) ≤ f ∧ balG f (l.drop (k + a)) ((o : Nat) : Int) = true) := ⟨f', by omega, by have h := HBl2.out; rwa [Int.add_zero] at h⟩
          clear HSp HSc HBl2 HCo HBr HOne HSh HEk
          by_cases h4 : c.toNat = 44
          · have h0 : ¬ (o : Int) = 0 := fun e => h44 ⟨h4, by omega⟩
            have h0' : (0 : Int) < (o : Int) := by omega
            clear h44
            go_wp2_with fail
            refine (HP.out _).mono ?_
            rintro x w8 ⟨rfl, rfl⟩
            go_wp2_with fail
            all_goals (
              go_roundw
              case rel => exact ⟨k + a, b, o, ps, by omega, by omega, by go_num, rfl, by go_num, by omega, HS2.out, HM.out, HB3.out⟩
              case measure => simp [intOf]; omega)
          · clear h44
            go_wp2_with fail
            refine (HP.out _).mono ?_
            rintro x w8 ⟨rfl, rfl⟩
            go_wp2_with fail
            all_goals (
              go_roundw
              case rel => exact ⟨k + a, b, o, ps, by omega, by omega, by go_num, rfl, by go_num, by omega, HS2.out, HM.out, HB3.out⟩
              case measure => simp [intOf]; omega)
      · have hc1 : c.toNat = 125 := HBr.out.1 rfl
        have hc2 : ¬ c.toNat = 44 := by omega
        have ha1 : a = 1 := HOne.out rfl
        subst ha1
        obtain ⟨o', rfl⟩ : ∃ o', o = o' + 1 := ⟨o - 1, by omega⟩
        have HS2 : Hid (CutS l n (k + 1) b ((o' : Nat) : Int) ps R) := by
          have h := HSp.out (fun h => hc2 h.1)
          rw [show ((o' + 1 : Nat) : Int) + -1 = (o' : Int) by omega] at h
          exact h
        have HB3 : Hid (∃ f, n - (k + 1) ≤ f ∧ balG f (l.drop (k + 1)) ((o' : Nat) : Int) = true) := ⟨f', by omega, by have h := HBl2.out; rwa [show ((o' + 1 : Nat) : Int) + -1 = (o' : Int) by omega] at h⟩
        clear HSp HSc HBl2 HCo HBr HOne HSh HEk
        go_wp2_with fail
        refine (HP.out _).mono ?_
        rintro x w8 ⟨rfl, rfl⟩
        go_wp2_with fail
        all_goals (
          go_roundw
          case rel => exact ⟨k + 1, b, o', ps, by omega, by omega, by go_num, rfl, by go_num, by omega, HS2.out, HM.out, HB3.out⟩
          case measure => simp [intOf]; omega)
    · obtain rfl : k = n := by omega
      have HQ := hidK (HS.out.done HN.out (Nat.le_refl _))
      have hfew := HS.out.few
      have hfe := HRl.out
      have HDk := hidK (HD.out b)
      rw [hs] at HDk
      obtain ⟨y, hy⟩ : ∃ y, str (l.drop b) = y := ⟨_, rfl⟩
      rw [hy] at HDk
      have HY := hidK hy
      have hdx := HDk.out
      clear hy HDk HBl
      go_wp2_with (refine wpList_append_row (wr.alloc (.cells #[.string y] 9)) rfl _ _ 127 127 rfl underStrs infoStr rfl (v := sp) (by simp [Act.eval]) (u := .slice (some ⟨wr.heap.size, 0, none⟩) 1 1) (by simp [Act.eval]) (HM.out.row.below ((Below.refl _ _).alloc (Nat.le_refl _) _)) (Src.block underStrs _ _ [.string y] _ 1 (heap_alloc_new wr _) rfl rfl) ?x1 ?x2 ?x3)
      case x1 => omega
      case x2 => unfold maxLen; omega
      case x3 =>
        intro v7 w7 hr7 hg7
        have HM7 := hidK ((HM.out.grown ((Below.refl _ _).alloc (Nat.le_refl _) _) hr7.out hg7.out).cast (n' := (ps ++ [l.drop b]).length) (xs' := strsV (ps ++ [l.drop b])) (by simp) (by rw [strs_snoc, HY.out]))
        clear hr7 hg7 HM HY
        go_wp2_with fail
        all_goals go_ret
        all_goals exact ⟨_, rfl, by rw [← HQ.out]; exact HM7.out⟩

end Go.Proofs.YtlfcjcaofhcfnaaGreatDoor

namespace Go.Proofs.YtlfcjcaofhcfnaaGreatDoor
set_option linter.unusedVariables false
set_option maxRecDepth 100000

theorem pass_take {l : List UInt8} (hl : l ≠ []) {m : Nat} (hm : (passF l).1 ≤ m) : passF (l.take m) = passF l := by
  have h1 := pass_pos l
  match l, m with
  | [c], m + 1 => rw [List.take_of_length_le (by simp)]
  | c :: d :: r, 1 =>
    show passF [c] = _
    simp only [passF] at hm ⊢
    repeat (first | rfl | omega | (split at hm <;> simp_all) | split)
  | c :: d :: r, m + 2 => rfl
  | l, 0 => omega
theorem pass_ge (l : List UInt8) : -1 ≤ (passF l).2 := by
  match l with
  | [] => decide
  | [c] => simp only [passF]; split <;> decide
  | c :: d :: _ =>
    simp only [passF]
    split
    · decide
    split
    · split
      · decide
      split <;> decide
    · decide
theorem bal_take : ∀ (f : Nat) (l : List UInt8) (o : Int) (k r : Nat), insG f l o k = some r → 1 ≤ o → ∀ F, balG F (l.take (r - k)) (o - 1) = true
  | 0, l, o, k, r, h, ho, F => by cases h
  | f + 1, l, o, k, r, h, ho, F => by
    have hlt := insG_lt _ _ _ _ _ h
    unfold insG at h
    split at h
    · cases h
    rename_i hl
    split at h
    · cases h
      rw [Nat.sub_self, List.take_zero]
      cases F <;> simp [balG]
    · rename_i h0
      have hge := pass_ge l
      have ho2 : 1 ≤ o + (passF l).2 := by omega
      have hlt2 := insG_lt _ _ _ _ _ h
      have ih := bal_take f _ _ _ r h ho2
      cases F with
      | zero => rfl
      | succ F =>
        have hp := pass_take hl (m := r - k) (by omega)
        unfold balG
        split
        · rfl
        · rw [hp]
          have e : (l.take (r - k)).drop (passF l).1 = (l.drop (passF l).1).take (r - (k + (passF l).1)) := by
            rw [List.drop_take]
            congr 1
            omega
          rw [e, show o - 1 + (passF l).2 = o + (passF l).2 - 1 by omega, ih F]
          simp
          omega
theorem bal_inside {l : List UInt8} {k : Nat} (h : insideF l = some k) : balF (l.take k) = true := by
  have := bal_take _ _ _ _ _ h (by omega) (l.take k).length
  exact this
theorem bal_next {c : UInt8} {l : List UInt8} (hc : c.toNat ≠ 35 ∧ c.toNat ≠ 125) (h : balF (c :: l) = true) : balF l = true := by
  have hp : passF (c :: l) = (1, 0) := by
    cases l with
    | nil => simp only [passF, if_neg hc.2]
    | cons d r => simp only [passF, if_neg hc.2, if_neg hc.1]
  unfold balF at h ⊢
  show balG l.length l 0 = true
  have h2 : balG (l.length + 1) (c :: l) 0 = true := h
  unfold balG at h2
  rw [if_neg (by simp), hp] at h2
  simp at h2
  exact h2
theorem bal_behind : ∀ (p l : List UInt8), (∀ c ∈ p, c.toNat ≠ 35 ∧ c.toNat ≠ 125) → balF (p ++ l) = true → balF l = true
  | [], l, _, h => h
  | c :: p, l, hc, h => bal_behind p l (fun d hd => hc d (List.mem_cons_of_mem _ hd)) (bal_next (hc c List.mem_cons_self) h)
theorem bal_head {l : List UInt8} {k : Nat} (hk : colonF l = some k) (hn : l.take k ∈ headNames) (h : balF l = true) : balF (l.drop (k + 1)) = true := by
  have hlt : k < l.length := by
    unfold colonF at hk
    exact (List.findIdx?_eq_some_iff_getElem.1 hk).1
  have hc : ∀ p ∈ headNames, ∀ c ∈ p, c.toNat ≠ 35 ∧ c.toNat ≠ 125 := by decide
  have h1 : balF (l.drop k) = true := bal_behind (l.take k) (l.drop k) (hc _ hn) (by rw [List.take_append_drop]; exact h)
  obtain ⟨c, hck⟩ : ∃ c, l[k]? = some c := ⟨_, List.getElem?_eq_getElem hlt⟩
  have hc58 : c.toNat = 58 := by
    unfold colonF at hk
    obtain ⟨h2, h3, _⟩ := List.findIdx?_eq_some_iff_getElem.1 hk
    rw [List.getElem?_eq_getElem h2] at hck
    cases hck
    simpa using h3
  rw [drop_two hck] at h1
  exact bal_next ⟨by omega, by omega⟩ h1

end Go.Proofs.YtlfcjcaofhcfnaaGreatDoor
