/-
  Formats: a text cut at its commas; identifiers; texts without a number sign.
  Formats: maps whose keys are texts or bytes: what is looked up, what is laid in.
  Formats: the expander; the value of a variable; identifiers; short forms.
-/
import Derived.Test.YtlfcjcaofhcfnaaGreatDoorGB
import Derived.Test.YtlfcjcaofhcfnaaGreatDoorShelf
import Derived.WalkKit
import Derived.Deep.RegionLaw
import Derived.Deep.RegionHeld3
namespace Go.Proofs.YtlfcjcaofhcfnaaGreatDoor
open Go.RowKit
set_option linter.unusedVariables false
set_option maxRecDepth 20000

/-- How far the cutting has come: done, the rest from k on, the part since b. -/
structure CutS (l : List UInt8) (n k b : Nat) (o : Int) (ps : List (List UInt8)) (R : List (List UInt8)) : Prop where
  all : ∃ f, n - k ≤ f ∧ ps ++ cutG f (l.drop k) ((l.drop b).take (k - b)) o = R
  le : b ≤ k
theorem CutS.comma {l : List UInt8} {n k b : Nat} {ps R : List (List UInt8)} (h : CutS l n k b 0 ps R) (hn : l.length = n) (hk : k < n) {c : UInt8} (hc : l[k]? = some c) (h44 : c.toNat = 44) : CutS l n (k + 1) (k + 1) 0 (ps ++ [(l.drop b).take (k - b)]) R := by
  obtain ⟨f, hf, he⟩ := h.all
  obtain ⟨f', rfl⟩ : ∃ f', f = f' + 1 := ⟨f - 1, by omega⟩
  refine ⟨⟨f', by omega, ?_⟩, Nat.le_refl _⟩
  obtain ⟨h1, h2⟩ := List.getElem?_eq_some_iff.1 hc
  rw [List.drop_eq_getElem_cons h1, h2] at he
  unfold cutG at he
  simp only [h44, and_self, if_true] at he
  rw [← he]
  simp
theorem CutS.pass {l : List UInt8} {n k b : Nat} {o : Int} {ps R : List (List UInt8)} (h : CutS l n k b o ps R) (hn : l.length = n) (hk : k < n) {c : UInt8} (hc : l[k]? = some c) (h44 : ¬ (c.toNat = 44 ∧ o = 0)) : CutS l n (k + (passF (l.drop k)).1) b (o + (passF (l.drop k)).2) ps R := by
  obtain ⟨f, hf, he⟩ := h.all
  obtain ⟨f', rfl⟩ : ∃ f', f = f' + 1 := ⟨f - 1, by omega⟩
  have hp := pass_pos (l.drop k)
  have hle := h.le
  refine ⟨⟨f', by omega, ?_⟩, by omega⟩
  obtain ⟨h1, h2⟩ := List.getElem?_eq_some_iff.1 hc
  have hd : l.drop k = c :: l.drop (k + 1) := by rw [List.drop_eq_getElem_cons h1, h2]
  obtain ⟨⟨a, d⟩, hab⟩ : ∃ p, passF (l.drop k) = p := ⟨_, rfl⟩
  rw [← he]
  congr 1
  conv => rhs; unfold cutG
  rw [hd]
  simp only []
  rw [if_neg h44, ← hd, hab]
  simp only []
  rw [List.drop_drop]
  congr 1
  rw [show k + a - b = (k - b) + a by omega, List.take_add, List.drop_drop, show b + (k - b) = k by omega]
theorem CutS.done {l : List UInt8} {n k b : Nat} {o : Int} {ps R : List (List UInt8)} (h : CutS l n k b o ps R) (hn : l.length = n) (hk : n ≤ k) : ps ++ [l.drop b] = R := by
  obtain ⟨f, hf, he⟩ := h.all
  have hle := h.le
  have hd : l.drop k = [] := List.drop_eq_nil_of_le (by omega)
  have ht : (l.drop b).take (k - b) = l.drop b := List.take_of_length_le (by rw [List.length_drop]; omega)
  rw [hd, ht] at he
  rw [← he]
  cases f <;> rfl
theorem CutS.few {l : List UInt8} {n k b : Nat} {o : Int} {ps R : List (List UInt8)} (h : CutS l n k b o ps R) : ps.length ≤ R.length := by
  obtain ⟨f, hf, he⟩ := h.all
  rw [← he, List.length_append]
  omega
theorem cut_few : ∀ (f : Nat) (l cur : List UInt8) (o : Int), (cutG f l cur o).length ≤ f + 1
  | 0, _, _, _ => by simp [cutG]
  | f + 1, [], _, _ => by simp [cutG]
  | f + 1, c :: r, cur, o => by
    unfold cutG
    simp only []
    split
    · have := cut_few f r [] 0
      simp only [List.length_cons]
      omega
    · have := cut_few f ((c :: r).drop (passF (c :: r)).1) (cur ++ (c :: r).take (passF (c :: r)).1) (o + (passF (c :: r)).2)
      omega

set_option maxHeartbeats 4000000 in
theorem cut_any (l : List UInt8) (hl : l.length ≤ 2147483647) (w : World) : Calls Tryz.prog 131 #[.string (str l)] w fun e w' => ∃ v, e = .returned v ∧ Texts w w' v (cutF l) := by
  have HP : Hid (∀ l W, l ≠ [] → Calls Tryz.prog 135 #[.string (str l)] W fun e w' => e = .returned (.tuple #[.int .i64 ((passF l).1 : Int), .int .i64 (passF l).2]) ∧ W = w') := fun l W h => pass_any l h W
  have HD : Hid (∀ k, (str l).extract k (str l).size = str (l.drop k)) := str_dropF l
  have HE : Hid (∀ i j, (str l).extract i j = str ((l.drop i).take (j - i))) := str_midF l
  have HG : Hid (∀ k c (h : k < (str l).size), l[k]? = some c → (str l)[k] = c) := fun k c h hc => str_getF l k c hc h
  obtain ⟨z, hz⟩ : ∃ z, str l = z := ⟨_, rfl⟩
  have hs : z.size = l.length := by rw [← hz]; rfl
  obtain ⟨R, hR⟩ : ∃ R, cutF l = R := ⟨_, rfl⟩
  have HR : Hid (CutS l l.length 0 0 0 [] R) := ⟨⟨l.length, by omega, hR⟩, Nat.le_refl _⟩
  have HRl : Hid (R.length ≤ l.length + 1) := by rw [← hR]; exact cut_few _ _ _ _
  rw [hz, hR]
  rw [hz] at HD HE HG
  obtain ⟨n, hn⟩ : ∃ n, l.length = n := ⟨_, rfl⟩
  rw [hn] at hs hl HR HRl
  have HN : Hid (l.length = n) := hn
  clear hz hR hn
  go_enter Tryz.func131, Tryz.ntmps131
  go_wp2_with fail
  go_loopw [3, 4, 5, 6] (fun s3 s4 s5 s6 wx => ∃ (k b : Nat) (o : Int) (ps : List (List UInt8)), k ≤ n ∧ b ≤ n ∧ s6 = .int .i64 (k : Int) ∧ s4 = .int .i64 (b : Int) ∧ s5 = .int .i64 o ∧ -(k : Int) ≤ o ∧ o ≤ (k : Int) ∧ Hid (CutS l n k b o ps R) ∧ Hid (Texts w wx s3 ps)) (fun _ _ _ v _ => n - (intOf v).toNat)
  case atStart => exact ⟨0, 0, 0, [], Nat.zero_le _, Nat.zero_le _, rfl, rfl, rfl, by omega, by omega, HR.out, Mine.nil (Below.refl _ _)⟩
  case round =>
    obtain ⟨k, b, o, ps, hk, hb, rfl, rfl, rfl, ho1, ho2, HS, HM⟩ := hrel
    obtain ⟨sp, hsp⟩ : ∃ sp, u3 = sp := ⟨_, rfl⟩
    rw [hsp] at HM ⊢
    clear hsp
    have hbk := HS.out.le
    by_cases hkn : k < n
    · obtain ⟨c, hc⟩ : ∃ c, l[k]? = some c := ⟨_, List.getElem?_eq_getElem (by rw [HN.out]; exact hkn)⟩
      have hkz : k < z.size := by omega
      have hgc := HG.out k c hkz hc
      have hne : l.drop k ≠ [] := fun e => by
        have := congrArg List.length e
        rw [List.length_drop, HN.out] at this
        simp at this
        omega
      have hp := pass_le hne
      have hp1 := pass_pos (l.drop k)
      obtain ⟨hp2, hp3⟩ := pass_small (l.drop k)
      rw [List.length_drop, HN.out] at hp
      have HPk := hidK (fun W => HP.out (l.drop k) W hne)
      have HDk := hidK (HD.out k)
      have HEk := hidK (HE.out b k)
      have HCc := hidK hc
      rw [hs] at HDk
      have hfew := HS.out.few
      have hfe := HRl.out
      by_cases h44 : c.toNat = 44 ∧ o = 0
      · obtain ⟨h44, rfl⟩ := h44
        have HS2 := hidK (HS.out.comma HN.out hkn hc h44)
        have hpc : passF (l.drop k) = (1, 0) := by
          obtain ⟨h1, h2⟩ := List.getElem?_eq_some_iff.1 hc
          rw [List.drop_eq_getElem_cons h1, h2]
          cases l.drop (k + 1) with
          | nil => simp [passF, h44]
          | cons d r => simp [passF, h44]
        rw [hpc] at HPk
        obtain ⟨y, hy⟩ : ∃ y, str (l.drop k) = y := ⟨_, rfl⟩
        obtain ⟨y2, hy2⟩ : ∃ y2, str ((l.drop b).take (k - b)) = y2 := ⟨_, rfl⟩
        rw [hy] at HPk HDk
        rw [hy2] at HEk
        have HY2 := hidK hy2
        have hdx := HDk.out
        have hex := HEk.out
        clear hc hne hpc hy hy2 hp hp1 hp2 hp3 HDk HEk
        go_wp2_with (refine wpList_append_row (wr.alloc (.cells #[.string y2] 9)) rfl _ _ 127 127 rfl underStrs infoStr rfl (v := sp) (by simp [Act.eval]) (u := .slice (some ⟨wr.heap.size, 0, none⟩) 1 1) (by simp [Act.eval]) (HM.out.row.below ((Below.refl _ _).alloc (Nat.le_refl _) _)) (Src.block underStrs _ _ [.string y2] _ 1 (heap_alloc_new wr _) rfl rfl) ?x1 ?x2 ?x3)
        case x1 => omega
        case x2 => unfold maxLen; omega
        case x3 =>
          intro v7 w7 hr7 hg7
          have HM7 := hidK ((HM.out.grown ((Below.refl _ _).alloc (Nat.le_refl _) _) hr7.out hg7.out).cast (n' := (ps ++ [(l.drop b).take (k - b)]).length) (xs' := strsV (ps ++ [(l.drop b).take (k - b)])) (by simp) (by rw [strs_snoc, HY2.out]))
          clear hr7 hg7 HM HY2
          go_wp2_with fail
          refine (HPk.out _).mono ?_
          rintro x w8 ⟨rfl, rfl⟩
          go_wp2_with fail
          go_roundw
          case rel => exact ⟨k + 1, k + 1, 0, _, by omega, by omega, by go_num, by go_num, rfl, by omega, by omega, HS2.out, HM7.out⟩
          case measure => simp [intOf]; omega
      · have HS2 := hidK (HS.out.pass HN.out hkn hc h44)
        obtain ⟨⟨a, d⟩, hab⟩ : ∃ p, passF (l.drop k) = p := ⟨_, rfl⟩
        rw [hab] at HPk HS2 hp hp1 hp2 hp3
        simp only at hp hp1 hp2 hp3 HPk HS2
        obtain ⟨y, hy⟩ : ∃ y, str (l.drop k) = y := ⟨_, rfl⟩
        rw [hy] at HPk HDk
        have hdx := HDk.out
        clear hc hne hy hab HDk HEk
        by_cases h4 : c.toNat = 44
        · have h0 : ¬ o = 0 := fun e => h44 ⟨h4, e⟩
          clear h44
          go_wp2_with fail
          refine (HPk.out _).mono ?_
          rintro x w8 ⟨rfl, rfl⟩
          go_wp2_with fail
          go_roundw
          case rel => exact ⟨k + a, b, o + d, ps, by omega, by omega, by go_num, rfl, by go_num, by omega, by omega, HS2.out, HM.out⟩
          case measure => simp [intOf]; omega
        · clear h44
          go_wp2_with fail
          refine (HPk.out _).mono ?_
          rintro x w8 ⟨rfl, rfl⟩
          go_wp2_with fail
          go_roundw
          case rel => exact ⟨k + a, b, o + d, ps, by omega, by omega, by go_num, rfl, by go_num, by omega, by omega, HS2.out, HM.out⟩
          case measure => simp [intOf]; omega
    · obtain rfl : k = n := by omega
      have HQ := hidK (HS.out.done HN.out (Nat.le_refl _))
      have hfew := HS.out.few
      have hfe := HRl.out
      have HDk := hidK (HD.out b)
      rw [hs] at HDk
      obtain ⟨y, hy⟩ : ∃ y, str (l.drop b) = y := ⟨_, rfl⟩
      rw [hy] at HDk
      have HY := hidK hy
      have hdx := HDk.out
      clear hy HDk
      go_wp2_with (refine wpList_append_row (wr.alloc (.cells #[.string y] 9)) rfl _ _ 127 127 rfl underStrs infoStr rfl (v := sp) (by simp [Act.eval]) (u := .slice (some ⟨wr.heap.size, 0, none⟩) 1 1) (by simp [Act.eval]) (HM.out.row.below ((Below.refl _ _).alloc (Nat.le_refl _) _)) (Src.block underStrs _ _ [.string y] _ 1 (heap_alloc_new wr _) rfl rfl) ?x1 ?x2 ?x3)
      case x1 => omega
      case x2 => unfold maxLen; omega
      case x3 =>
        intro v7 w7 hr7 hg7
        have HM7 := hidK ((HM.out.grown ((Below.refl _ _).alloc (Nat.le_refl _) _) hr7.out hg7.out).cast (n' := (ps ++ [l.drop b]).length) (xs' := strsV (ps ++ [l.drop b])) (by simp) (by rw [strs_snoc, HY.out]))
        clear hr7 hg7 HM HY
        go_wp2_with fail
        all_goals go_ret
        all_goals exact ⟨_, rfl, by rw [← HQ.out]; exact HM7.out⟩

end Go.Proofs.YtlfcjcaofhcfnaaGreatDoor

namespace Go.Proofs.YtlfcjcaofhcfnaaGreatDoor
open Go.RowKit
set_option linter.unusedVariables false
set_option maxRecDepth 20000

/-- A map's entries, in their order: its keys are texts. -/
abbrev Ents := List (List UInt8 × Value)
def entV (p : List UInt8 × Value) : Value × Value := (.string (str p.1), p.2)
def MapAt (w : World) (b : Nat) (m : Ents) : Prop := ∃ es clock, w.heap[b]? = some (.map es clock) ∧ es.toList.map (fun e => (e.key, e.val)) = m.map entV
theorem MapAt.keep {w w' : World} {b : Nat} {m : Ents} (h : MapAt w b m) (hk : w'.heap[b]? = w.heap[b]?) : MapAt w' b m := by
  obtain ⟨es, c, h1, h2⟩ := h
  exact ⟨es, c, hk.trans h1, h2⟩
theorem MapAt.lt {w : World} {b : Nat} {m : Ents} (h : MapAt w b m) : b < w.heap.size := by
  obtain ⟨es, c, h1, h2⟩ := h
  exact lt_of_block h1
theorem MapAt.below {w w' : World} {b : Nat} {m : Ents} (h : MapAt w b m) (hb : Below w.heap.size w w') : MapAt w' b m := h.keep (hb.block b h.lt)
theorem str_inj {a b : List UInt8} (h : str a = str b) : a = b := by
  have := congrArg (fun s => s.data.toList) h
  exact this
theorem str_beq (a b : List UInt8) : (str a == str b) = decide (a = b) := by
  show (a.toArray == b.toArray) = decide (a = b)
  by_cases h : a = b
  · subst h
    simp
  · rw [decide_eq_false h]
    simpa using h
def lookT (m : Ents) (k : List UInt8) : Option Value := (m.find? fun p => decide (p.1 = k)).map (·.2)
theorem find_text (k : List UInt8) : ∀ (es : List MapEntry) (m : Ents) (i : Nat), es.map (fun e => (e.key, e.val)) = m.map entV → ∃ j, Instr.findNow .string (.string (str k)) es i = some ((lookT m k).map fun v => (j, v))
  | [], m, i, h => by
    cases m with
    | nil => exact ⟨0, rfl⟩
    | cons p m => cases h
  | e :: es, m, i, h => by
    cases m with
    | nil => cases h
    | cons p m =>
      simp only [List.map_cons, List.cons.injEq] at h
      obtain ⟨h1, h2⟩ := h
      have hs : e.key = .string (str p.1) := congrArg Prod.fst h1
      have hv : e.val = p.2 := congrArg Prod.snd h1
      by_cases hk : p.1 = k
      · refine ⟨i, ?_⟩
        have hbe : (str k == str p.1) = true := by rw [str_beq]; exact decide_eq_true hk.symm
        simp only [Instr.findNow, Instr.sameNow, hs, hbe, hv]
        simp [lookT, hk]
      · obtain ⟨j, hj⟩ := find_text k es m (i + 1) h2
        refine ⟨j, ?_⟩
        have hbe : (str k == str p.1) = false := by rw [str_beq]; exact decide_eq_false fun e => hk e.symm
        simp only [Instr.findNow, Instr.sameNow, hs, hbe, hj]
        simp [lookT, hk]
theorem check_text {kt : TypeId} (hk : Tryz.prog.underlying kt = some .string) (em : Bool) (s : ByteArray) (w : World) : (Instr.checkKey em 10000 kt (.string s)).run Tryz.prog w = .ok () w := by
  rw [show (10000 : Nat) = 9999 + 1 from rfl, Instr.checkKey]
  simp [run_underlying hk]
theorem findKey_text {kt : TypeId} (hk : Tryz.prog.underlying kt = some .string) {s : ByteArray} {es : List MapEntry} {r : Option (Nat × Value)} (h : Instr.findNow .string (.string s) es 0 = some r) (w : World) : (Instr.findKey kt (.string s) es).run Tryz.prog w = .ok r w := by
  simp [Instr.findKey, run_underlying hk, h]
/-- Looked up, with its ok. -/
theorem look_some {w : World} {b : Nat} {m : Ents} {t kt et : TypeId} {k : List UInt8} {v : Value} (h : MapAt w b m) (ht : Tryz.prog.underlying t = some (.map kt et)) (hk : Tryz.prog.underlying kt = some .string) (hv : lookT m k = some v) :
    (Instr.lookup t (.map (some b)) (.string (str k)) true).run Tryz.prog w = .ok (.tuple #[v, .bool true]) w := by
  obtain ⟨es, c, h1, h2⟩ := h
  obtain ⟨j, hj⟩ := find_text k es.toList m 0 h2
  rw [hv] at hj
  simp [Instr.lookup, run_underlying ht, MapKept.run_getObj_map h1, check_text hk, findKey_text hk hj, Result.andThen]
theorem look_none {w : World} {b : Nat} {m : Ents} {t kt et : TypeId} {k : List UInt8} {z : Value} (h : MapAt w b m) (ht : Tryz.prog.underlying t = some (.map kt et)) (hk : Tryz.prog.underlying kt = some .string) (hz : (zeroValue et).run Tryz.prog w = .ok z w) (hv : lookT m k = none) :
    (Instr.lookup t (.map (some b)) (.string (str k)) true).run Tryz.prog w = .ok (.tuple #[z, .bool false]) w := by
  obtain ⟨es, c, h1, h2⟩ := h
  obtain ⟨j, hj⟩ := find_text k es.toList m 0 h2
  rw [hv] at hj
  simp [Instr.lookup, run_underlying ht, MapKept.run_getObj_map h1, check_text hk, findKey_text hk hj, hz, Result.andThen]

/-- Laid in, where there is none of that key. -/
theorem lay_new {w : World} {b : Nat} {m : Ents} {t kt et : TypeId} {k : List UInt8} {v : Value} (h : MapAt w b m) (ht : Tryz.prog.underlying t = some (.map kt et)) (hk : Tryz.prog.underlying kt = some .string) (hv : lookT m k = none) :
    ∃ w', (Instr.mapUpdate t (.map (some b)) (.string (str k)) v).run Tryz.prog w = .ok () w' ∧ MapAt w' b (m ++ [(k, v)]) ∧ But [b] w w' := by
  obtain ⟨es, c, h1, h2⟩ := h
  obtain ⟨j, hj⟩ := find_text k es.toList m 0 h2
  rw [hv] at hj
  have hlt := lt_of_block h1
  refine ⟨{ w with heap := w.heap.setIfInBounds b (.map (es.push { key := .string (str k), val := v, born := c }) (c + 1)) }, ?_, ⟨es.push { key := .string (str k), val := v, born := c }, c + 1, ?_, ?_⟩, ⟨rfl, rfl, rfl, ?_, fun g hg hn => ?_⟩⟩
  · simp [Instr.mapUpdate, run_underlying ht, MapKept.run_getObj_map h1, check_text hk, findKey_text hk hj, MapKept.run_setObj_map _ h1, Result.andThen]
  · show (w.heap.setIfInBounds b _)[b]? = _
    rw [Array.getElem?_setIfInBounds_self_of_lt hlt]
  · rw [Array.toList_push, List.map_append, h2, List.map_append]
    rfl
  · show w.heap.size ≤ (w.heap.setIfInBounds b _).size
    rw [Array.size_setIfInBounds]
    exact Nat.le_refl _
  · show (w.heap.setIfInBounds b _)[g]? = _
    rw [Array.getElem?_setIfInBounds_ne (fun e => hn (by simp [e]))]

end Go.Proofs.YtlfcjcaofhcfnaaGreatDoor

namespace Go.Proofs.YtlfcjcaofhcfnaaGreatDoor
open Go.RowKit
set_option linter.unusedVariables false
set_option maxRecDepth 20000

/-- Variables that can be read. -/
def VarsIn (w : World) (v : Value) (vs : Vars) : Prop := ∃ ad cap, v = .slice ad vs.length cap ∧ vs.length ≤ 8796093022208 ∧ ∀ (i : Nat) (p : List UInt8 × List UInt8), vs[i]? = some p → ∃ g o, ad = some ⟨g, o, none⟩ ∧ g < w.heap.size ∧ w.cell? ⟨g, o + i * 2, none⟩ = some (.string (str p.1)) ∧ w.cell? ⟨g, o + i * 2 + 1, none⟩ = some (.string (str p.2))
theorem VarsIn.below {w w' : World} {v : Value} {vs : Vars} (h : VarsIn w v vs) (hb : Below w.heap.size w w') : VarsIn w' v vs := by
  obtain ⟨ad, cap, rfl, h1, h2⟩ := h
  refine ⟨ad, cap, rfl, h1, fun i p hp => ?_⟩
  obtain ⟨g, o, rfl, hg, h3, h4⟩ := h2 i p hp
  exact ⟨g, o, rfl, Nat.lt_of_lt_of_le hg hb.size, (hb.cell (p := ⟨g, o + i * 2, none⟩) hg).trans h3, (hb.cell (p := ⟨g, o + i * 2 + 1, none⟩) hg).trans h4⟩
/-- Where each name stands first. -/
def FirstOk (m : Ents) (vs : Vars) : Prop := ∀ name, lookT m name = (vs.findIdx? fun v => decide (v.1 = name)).map fun i => .int .i64 (i : Int)
/-- The heads' and the turns' maps: said later. -/
structure XAt (w : World) (xb : Nat) (vs : Vars) (mh mt : Nat) : Prop where
  blk : ∃ sv mf m, w.heap[xb]? = some (.cells #[sv, .map (some mf), .map (some mh), .map (some mt)] 51 (0, 0)) ∧ VarsIn w sv vs ∧ MapAt w mf m ∧ FirstOk m vs
theorem XAt.below {w w' : World} {xb mh mt : Nat} {vs : Vars} (h : XAt w xb vs mh mt) (hb : Below w.heap.size w w') : XAt w' xb vs mh mt := by
  obtain ⟨sv, mf, m, h1, h2, h3, h4⟩ := h.blk
  exact ⟨sv, mf, m, (hb.block xb (lt_of_block h1)).trans h1, h2.below hb, h3.below hb, h4⟩
theorem under56 : Tryz.prog.underlying 46 = some (.map 9 3) := by kernel_rfl
theorem zeroInt (w : World) : (zeroValue 3).run Tryz.prog w = .ok (.int .i64 0) w := by kernel_rfl
theorem val_some {vs : Vars} {name : List UInt8} {i : Nat} (h : vs.findIdx? (fun v => decide (v.1 = name)) = some i) : ∃ p, vs[i]? = some p ∧ valF vs name = p.2 := by
  obtain ⟨hi, h1, h2⟩ := List.findIdx?_eq_some_iff_getElem.1 h
  refine ⟨vs[i], List.getElem?_eq_getElem hi, ?_⟩
  have : vs.find? (fun v => decide (v.1 = name)) = some vs[i] := by
    rw [List.find?_eq_some_iff_getElem]
    exact ⟨h1, i, hi, rfl, fun j hj => by simpa using h2 j hj⟩
  unfold valF
  rw [this]
  rfl
theorem val_none {vs : Vars} {name : List UInt8} (h : vs.findIdx? (fun v => decide (v.1 = name)) = none) : valF vs name = [] := by
  have : vs.find? (fun v => decide (v.1 = name)) = none := by
    rw [List.find?_eq_none]
    intro x hx
    have := List.findIdx?_eq_none_iff.1 h x hx
    simpa using this
  unfold valF
  rw [this]
  rfl

set_option maxHeartbeats 1000000 in
theorem value_any {w : World} {xb mh mt : Nat} {vs : Vars} (name : List UInt8) (h : XAt w xb vs mh mt) :
    Calls Tryz.prog 69 #[.pointer (some ⟨xb, 0, none⟩), .string (str name)] w fun e w' => e = .returned (.string (str (valF vs name))) ∧ Below w.heap.size w w' := by
  obtain ⟨sv, mf, m, h1, h2, h3, h4⟩ := h.blk
  have c0 := cell_atT h1 0
  have c1 := cell_atT h1 1
  simp at c0 c1
  have h5 := h4 name
  obtain ⟨z, hz⟩ : ∃ z, str name = z := ⟨_, rfl⟩
  obtain ⟨ad, cap, rfl, hn, hc⟩ := h2
  cases hf : vs.findIdx? (fun v => decide (v.1 = name)) with
  | none =>
    rw [hf] at h5
    have hl := look_none h3 under56 Tryz.underlying9 (zeroInt w) h5
    rw [val_none hf]
    rw [hz] at hl ⊢
    clear h1 h3 h4 h5 hf hc hz h
    go_enter Tryz.func69, Tryz.ntmps69
    go_wp2_with fail
    all_goals go_ret
    all_goals exact ⟨rfl, Below.refl _ _⟩
  | some i =>
    rw [hf] at h5
    have hl := look_some h3 under56 Tryz.underlying9 h5
    obtain ⟨p, hp, hv⟩ := val_some hf
    obtain ⟨g, o, rfl, hg, q0, q1⟩ := hc i p hp
    have hi := (List.getElem?_eq_some_iff.1 hp).1
    obtain ⟨n, hnn⟩ : ∃ n, vs.length = n := ⟨_, rfl⟩
    rw [hv]
    rw [hnn] at c0 hn hi
    rw [hz] at hl ⊢
    clear h1 h3 h4 h5 hf hc hz h hp hv hnn q0
    go_enter Tryz.func69, Tryz.ntmps69
    go_wp2_with fail
    all_goals go_ret
    all_goals exact ⟨rfl, Below.refl _ _⟩

theorem shortForm_any (c : UInt8) (w : World) : Calls Tryz.prog 68 #[.int .u8 c.toNat] w fun e w' => e = .returned (.string (str (shortF c))) ∧ w = w' := by
  unfold shortF
  by_cases h1 : c.toNat = 83
  · rw [if_pos h1]
    go_enter Tryz.func68, Tryz.ntmps68
    go_wp2
    all_goals go_ret
    all_goals exact ⟨rfl, rfl⟩
  rw [if_neg h1]
  by_cases h2 : c.toNat = 87
  · rw [if_pos h2]
    go_enter Tryz.func68, Tryz.ntmps68
    go_wp2
    all_goals go_ret
    all_goals exact ⟨rfl, rfl⟩
  rw [if_neg h2]
  by_cases h3 : c.toNat = 73
  · rw [if_pos h3]
    go_enter Tryz.func68, Tryz.ntmps68
    go_wp2
    all_goals go_ret
    all_goals exact ⟨rfl, rfl⟩
  rw [if_neg h3]
  by_cases h4 : c.toNat = 80
  · rw [if_pos h4]
    go_enter Tryz.func68, Tryz.ntmps68
    go_wp2
    all_goals go_ret
    all_goals exact ⟨rfl, rfl⟩
  rw [if_neg h4]
  by_cases h5 : c.toNat = 68
  · rw [if_pos h5]
    go_enter Tryz.func68, Tryz.ntmps68
    go_wp2
    all_goals go_ret
    all_goals exact ⟨rfl, rfl⟩
  rw [if_neg h5]
  by_cases h6 : c.toNat = 70
  · rw [if_pos h6]
    go_enter Tryz.func68, Tryz.ntmps68
    go_wp2
    all_goals go_ret
    all_goals exact ⟨rfl, rfl⟩
  rw [if_neg h6]
  go_enter Tryz.func68, Tryz.ntmps68
  go_wp2
  all_goals go_ret
  all_goals exact ⟨rfl, rfl⟩

end Go.Proofs.YtlfcjcaofhcfnaaGreatDoor
