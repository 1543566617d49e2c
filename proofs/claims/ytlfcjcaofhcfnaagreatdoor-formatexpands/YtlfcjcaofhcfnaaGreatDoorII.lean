/-
  The document's formats: all pieces of a pattern.
-/
import Derived.Test.YtlfcjcaofhcfnaaGreatDoorIH
import Derived.Test.YtlfcjcaofhcfnaaGreatDoorIG
import Derived.WalkKit
namespace Go.Proofs.YtlfcjcaofhcfnaaGreatDoor
open Go.RowKit
set_option linter.unusedVariables false
set_option maxRecDepth 20000

def pieceCs (t : Tok) : List Value := [.bool t.many, .bool t.not, .string (str (rangF t.mem))]
def piecesV (ts : List Tok) : List Value := ts.flatMap pieceCs
theorem pieces_snoc (ts : List Tok) (t : Tok) : piecesV (ts ++ [t]) = piecesV ts ++ pieceCs t := by simp [piecesV]
theorem infoPie : (Tryz.prog.info? 188).map (fun i => (i.zero, i.size, i.bytes)) = some (some (.agg #[.bool false, .bool false, .string ⟨#[]⟩]), 3, 24) := by kernel_rfl
theorem underPies : Tryz.prog.underlying 184 = some (.slice 188) := by kernel_rfl
abbrev Pies (w w' : World) (v : Value) (ts : List Tok) : Prop := Mine w w' 188 3 v ts.length (piecesV ts)
structure PieS (p : List UInt8) (n k : Nat) (ts R : List Tok) : Prop where
  all : ∃ f, n - k ≤ f ∧ ts ++ dtoksG f (p.drop k) = R
theorem PieS.step {p : List UInt8} {n k : Nat} {ts R : List Tok} (h : PieS p n k ts R) (hn : p.length = n) (hk : k < n) {t : Tok} {q : Nat} (hd : dtokF (p.drop k) = (t, q)) : PieS p n (k + q) (ts ++ [t]) R := by
  obtain ⟨f, hf, he⟩ := h.all
  have hne : p.drop k ≠ [] := fun e => by have := congrArg List.length e; rw [List.length_drop] at this; simp at this; omega
  have h1 := (dtok_len hne).1
  rw [hd] at h1
  obtain ⟨f', rfl⟩ : ∃ f', f = f' + 1 := ⟨f - 1, by omega⟩
  refine ⟨⟨f', by simp only at h1; omega, ?_⟩⟩
  unfold dtoksG at he
  rw [if_neg hne, hd] at he
  simp only at he
  rw [List.drop_drop] at he
  rw [← he, List.append_assoc]
  rfl
theorem PieS.done {p : List UInt8} {n k : Nat} {ts R : List Tok} (h : PieS p n k ts R) (hn : p.length = n) (hk : n ≤ k) : ts = R := by
  obtain ⟨f, hf, he⟩ := h.all
  rw [← he, List.drop_eq_nil_of_le (by omega)]
  cases f <;> simp [dtoksG]
theorem PieS.few {p : List UInt8} {n k : Nat} {ts R : List Tok} (h : PieS p n k ts R) : ts.length ≤ R.length := by
  obtain ⟨f, hf, he⟩ := h.all
  rw [← he, List.length_append]
  omega
theorem dtoks_few : ∀ (f : Nat) (l : List UInt8), (dtoksG f l).length ≤ f
  | 0, _ => Nat.le_refl _
  | f + 1, l => by
    unfold dtoksG
    split
    · simp
    · have := dtoks_few f (l.drop (dtokF l).2)
      simp only [List.length_cons]
      omega
theorem new_as {X : World} {g : Nat} (h : X.heap.size = g) (o : Obj) : (X.alloc o).heap[g]? = some o := by rw [← h]; exact heap_alloc_new X o
theorem rang_one (c : UInt8) : rangF [c] = [c, c] := rfl
theorem dtok_one {c : UInt8} {r : List UInt8} (h1 : ¬ c.toNat = 42) (h2 : ¬ c.toNat = 63) (h3 : ¬ (c.toNat = 92 ∧ r ≠ [])) (h4 : ¬ (c.toNat = 91 ∧ 0 < (dsetF (c :: r)).2)) : dtokF (c :: r) = (⟨false, false, [c]⟩, 1) := by
  simp only [dtokF]
  rw [if_neg h1, if_neg h2, if_neg h3, if_neg h4]

set_option maxHeartbeats 8000000 in
theorem pieces_any (p : List UInt8) (hl : p.length ≤ 2147483647) (w : World) : Calls Tryz.prog 163 #[.string (str p)] w fun e w' => ∃ v, e = .returned v ∧ Pies w w' v (dtoksF p) := by
  have HG : Hid (∀ k c (h : k < (str p).size), p[k]? = some c → (str p)[k] = c) := fun k c h hc => str_getF p k c hc h
  have HMid : Hid (∀ i c, p[i]? = some c → (str p).extract i (i + 1) = str [c]) := fun i c hc => by show _ = _; rw [str_midF, Nat.add_sub_cancel_left, drop_at hc]; rfl
  have HSet : Hid (∀ (i : Nat) W, i < p.length → Calls Tryz.prog 186 #[.string (str p), .int .i64 (i : Int)] W fun e w' => e = .returned (setAns p i) ∧ Below W.heap.size W w') := fun i W h => set_any p i hl h W
  obtain ⟨z, hz⟩ : ∃ z, str p = z := ⟨_, rfl⟩
  have hs : z.size = p.length := by rw [← hz]; rfl
  obtain ⟨R, hR⟩ : ∃ R, dtoksF p = R := ⟨_, rfl⟩
  have HR : Hid (PieS p p.length 0 [] R) := ⟨⟨p.length, by omega, by rw [← hR]; unfold dtoksF; simp⟩⟩
  have HRl : Hid (R.length ≤ p.length) := by rw [← hR]; exact dtoks_few _ _
  rw [hz, hR]
  rw [hz] at HG HMid HSet
  obtain ⟨n, hn⟩ : ∃ n, p.length = n := ⟨_, rfl⟩
  rw [hn] at hs hl HR HRl HSet
  have HN : Hid (p.length = n) := hn
  clear hz hR hn
  go_enter Tryz.func163, Tryz.ntmps163
  go_wp2_with fail
  go_loopw [3, 4] (fun s3 s4 wx => ∃ (k : Nat) (ts : List Tok), k ≤ n ∧ s4 = .int .i64 (k : Int) ∧ Hid (PieS p n k ts R) ∧ Hid (Pies w wx s3 ts)) (fun _ v _ => n - (intOf v).toNat)
  case atStart => exact ⟨0, [], Nat.zero_le _, rfl, HR.out, Mine.nil (Below.refl _ _)⟩
  case round =>
    obtain ⟨k, ts, hk, rfl, HS, HM⟩ := hrel
    obtain ⟨sp, hsp⟩ : ∃ sp, u3 = sp := ⟨_, rfl⟩
    rw [hsp] at HM ⊢
    clear hsp
    by_cases hkn : k < n
    · obtain ⟨c, hc⟩ : ∃ c, p[k]? = some c := ⟨_, List.getElem?_eq_getElem (by rw [HN.out]; exact hkn)⟩
      have hpd := drop_at hc
      have gk := HG.out k c (by omega) hc
      have hfew := HS.out.few
      have hfe := HRl.out
      obtain ⟨u0, hu0⟩ : ∃ u, str [c] = u := ⟨_, rfl⟩
      have hm0 := HMid.out k c hc
      rw [hu0] at hm0
      have hu0s : u0.size = 1 := by rw [← hu0]; rfl
      have HU0 : Hid (u0 ++ u0 = str (rangF [c])) := by show _ = _; rw [← hu0, str_cat]; rfl
      have hsl0 := fun W => slice_mid z k (k + 1) (k : Int) ((k : Int) + 1) rfl (by omega) (by omega) (by omega) W
      rw [hm0] at hsl0
      obtain ⟨uu, huu⟩ : ∃ uu, u0 ++ u0 = uu := ⟨_, rfl⟩
      rw [huu] at HU0
      clear hu0 hm0
      go_wp2_with fail
      go_region
      obtain ⟨W1, hW1⟩ : ∃ W1, (wr.alloc (.cells #[.bool false, .bool false, .string uu] 188)).drew = W1 := ⟨_, rfl⟩
      rw [hW1]
      have HB1 : Hid (Below wr.heap.size wr W1) := by rw [← hW1]; exact ((Below.refl _ _).alloc (Nat.le_refl _) _).drew
      have HBk : Hid (W1.heap[wr.heap.size]? = some (.cells #[.bool false, .bool false, .string uu] 188 (0, 0))) := by rw [← hW1]; exact heap_alloc_new wr _
      clear hW1
      obtain ⟨xb, hxb⟩ : ∃ xb, wr.heap.size = xb := ⟨_, rfl⟩
      have HXB := hidK hxb
      rw [hxb] at HBk
      try simp only [hxb]
      clear hxb
      have q0 := cell_atT HBk.out 0
      have q1 := cell_atT HBk.out 1
      have q2 := cell_atT HBk.out 2
      have q3 := free_atT HBk.out
      by_cases h42 : c.toNat = 42
      · have HS2 := hidK (HS.out.step HN.out hkn (t := ⟨true, false, []⟩) (q := 1) (by rw [hpd]; simp only [dtokF]; rw [if_pos h42]))
        clear hc hpd HS HU0
        obtain ⟨W3, hW3⟩ : ∃ W3, (((W1).setCell ⟨xb, 0, none⟩ (.bool true)).setCell ⟨xb, 1, none⟩ (.bool false)).setCell ⟨xb, 2, none⟩ (.string ⟨#[]⟩) = W3 := ⟨_, rfl⟩
        have hbk3 : W3.heap[xb]? = some (.cells #[.bool true, .bool false, .string ⟨#[]⟩] 188 (0, 0)) := by rw [← hW3]; exact set_three HBk.out _ _ _
        have p0 := cell_atT hbk3 0
        have p1 := cell_atT hbk3 1
        have p2 := cell_atT hbk3 2
        have HB3 : Hid (Below wr.heap.size wr W3) := by rw [← hW3]; exact (((HB1.out).setCell (Nat.le_of_eq HXB.out) _).setCell (Nat.le_of_eq HXB.out) _).setCell (Nat.le_of_eq HXB.out) _
        clear hbk3
        go_wp2_with (refine wpList_append_row ((W3).alloc (.cells #[.bool true, .bool false, .string ⟨#[]⟩] 188)) rfl _ _ 184 184 rfl underPies infoPie rfl (v := sp) (by simp [Act.eval]) (u := .slice (some ⟨W3.heap.size, 0, none⟩) 1 1) (by simp [Act.eval]) (HM.out.row.below ?y1) (Src.block underPies _ _ [.bool true, .bool false, .string ⟨#[]⟩] 188 3 ?y2 rfl rfl) ?x1 ?x2 ?x3)
        case y1 => first | exact (HB3.out).alloc (HB3.out).size _ | exact ((HB3.out).drew).alloc (HB3.out).size _
        case y2 => exact new_as (by first | rfl | simp | simp [World.setCell]) _
        case x1 => omega
        case x2 => unfold maxLen; omega
        case x3 =>
          intro v7 w7 hr7 hg7
          have HM7 := hidK ((HM.out.grown (by first | exact (HB3.out).alloc (HB3.out).size _ | exact ((HB3.out).drew).alloc (HB3.out).size _) hr7.out hg7.out).cast (n' := (ts ++ [(⟨true, false, []⟩ : Tok)]).length) (xs' := piecesV (ts ++ [(⟨true, false, []⟩ : Tok)])) (by simp) (by rw [pieces_snoc]; rfl))
          clear hr7 hg7 HM
          go_wp2_with fail
          go_roundw
          case rel => exact ⟨k + 1, _, by omega, by go_num, HS2.out, HM7.out⟩
          case measure => simp [intOf]; omega
      by_cases h63 : c.toNat = 63
      · have HS2 := hidK (HS.out.step HN.out hkn (t := ⟨false, true, []⟩) (q := 1) (by rw [hpd]; simp only [dtokF]; rw [if_neg h42, if_pos h63]))
        clear hc hpd HS HU0
        obtain ⟨W3, hW3⟩ : ∃ W3, (((W1).setCell ⟨xb, 0, none⟩ (.bool false)).setCell ⟨xb, 1, none⟩ (.bool true)).setCell ⟨xb, 2, none⟩ (.string ⟨#[]⟩) = W3 := ⟨_, rfl⟩
        have hbk3 : W3.heap[xb]? = some (.cells #[.bool false, .bool true, .string ⟨#[]⟩] 188 (0, 0)) := by rw [← hW3]; exact set_three HBk.out _ _ _
        have p0 := cell_atT hbk3 0
        have p1 := cell_atT hbk3 1
        have p2 := cell_atT hbk3 2
        have HB3 : Hid (Below wr.heap.size wr W3) := by rw [← hW3]; exact (((HB1.out).setCell (Nat.le_of_eq HXB.out) _).setCell (Nat.le_of_eq HXB.out) _).setCell (Nat.le_of_eq HXB.out) _
        clear hbk3
        go_wp2_with (refine wpList_append_row ((W3).alloc (.cells #[.bool false, .bool true, .string ⟨#[]⟩] 188)) rfl _ _ 184 184 rfl underPies infoPie rfl (v := sp) (by simp [Act.eval]) (u := .slice (some ⟨W3.heap.size, 0, none⟩) 1 1) (by simp [Act.eval]) (HM.out.row.below ?y1) (Src.block underPies _ _ [.bool false, .bool true, .string ⟨#[]⟩] 188 3 ?y2 rfl rfl) ?x1 ?x2 ?x3)
        case y1 => first | exact (HB3.out).alloc (HB3.out).size _ | exact ((HB3.out).drew).alloc (HB3.out).size _
        case y2 => exact new_as (by first | rfl | simp | simp [World.setCell]) _
        case x1 => omega
        case x2 => unfold maxLen; omega
        case x3 =>
          intro v7 w7 hr7 hg7
          have HM7 := hidK ((HM.out.grown (by first | exact (HB3.out).alloc (HB3.out).size _ | exact ((HB3.out).drew).alloc (HB3.out).size _) hr7.out hg7.out).cast (n' := (ts ++ [(⟨false, true, []⟩ : Tok)]).length) (xs' := piecesV (ts ++ [(⟨false, true, []⟩ : Tok)])) (by simp) (by rw [pieces_snoc]; rfl))
          clear hr7 hg7 HM
          go_wp2_with fail
          go_roundw
          case rel => exact ⟨k + 1, _, by omega, by go_num, HS2.out, HM7.out⟩
          case measure => simp [intOf]; omega
      by_cases h92 : c.toNat = 92
      · by_cases hk1 : k + 1 < n
        · obtain ⟨d, hd⟩ : ∃ d, p[k + 1]? = some d := ⟨_, List.getElem?_eq_getElem (by rw [HN.out]; exact hk1)⟩
          have hne : p.drop (k + 1) ≠ [] := fun h => by rw [drop_at hd] at h; cases h
          have htk : (p.drop (k + 1)).take 1 = [d] := by rw [drop_at hd]; rfl
          have HS2 := hidK (HS.out.step HN.out hkn (t := ⟨false, false, [d]⟩) (q := 2) (by rw [hpd]; simp only [dtokF]; rw [if_neg h42, if_neg h63, if_pos ⟨h92, hne⟩, htk]))
          obtain ⟨u1, hu1⟩ : ∃ u, str [d] = u := ⟨_, rfl⟩
          have hm1 := HMid.out (k + 1) d hd
          rw [hu1] at hm1
          have hu1s : u1.size = 1 := by rw [← hu1]; rfl
          have HU1 : Hid (u1 ++ u1 = str (rangF [d])) := by show _ = _; rw [← hu1, str_cat]; rfl
          have hsl1 := fun W => slice_mid z (k + 1) (k + 1 + 1) ((k : Int) + 1) ((k : Int) + 1 + 1) (by omega) (by omega) (by omega) (by omega) W
          rw [hm1] at hsl1
          obtain ⟨uv, huv⟩ : ∃ uv, u1 ++ u1 = uv := ⟨_, rfl⟩
          rw [huv] at HU1
          clear hc hpd HS HU0 hd hne htk hu1 hm1
          go_wp2_with fail
          go_region
          go_wp2_with (refine wpList_append_row (((W1.setCell ⟨xb, 2, none⟩ (.string uv)).drew).alloc (.cells #[.bool false, .bool false, .string uv] 188)) rfl _ _ 184 184 rfl underPies infoPie rfl (v := sp) (by simp [Act.eval]) (u := .slice (some ⟨W1.heap.size, 0, none⟩) 1 1) (by simp [Act.eval]) (HM.out.row.below ?y1) (Src.block underPies _ _ [.bool false, .bool false, .string uv] 188 3 ?y2 rfl rfl) ?x1 ?x2 ?x3)
          case y1 => first | exact ((HB1.out.setCell (Nat.le_of_eq HXB.out) _)).alloc ((HB1.out.setCell (Nat.le_of_eq HXB.out) _)).size _ | exact (((HB1.out.setCell (Nat.le_of_eq HXB.out) _)).drew).alloc ((HB1.out.setCell (Nat.le_of_eq HXB.out) _)).size _
          case y2 => exact new_as (by first | rfl | simp | simp [World.setCell]) _
          case x1 => omega
          case x2 => unfold maxLen; omega
          case x3 =>
            intro v7 w7 hr7 hg7
            have HM7 := hidK ((HM.out.grown (by first | exact ((HB1.out.setCell (Nat.le_of_eq HXB.out) _)).alloc ((HB1.out.setCell (Nat.le_of_eq HXB.out) _)).size _ | exact (((HB1.out.setCell (Nat.le_of_eq HXB.out) _)).drew).alloc ((HB1.out.setCell (Nat.le_of_eq HXB.out) _)).size _) hr7.out hg7.out).cast (n' := (ts ++ [(⟨false, false, [d]⟩ : Tok)]).length) (xs' := piecesV (ts ++ [(⟨false, false, [d]⟩ : Tok)])) (by simp) (by rw [pieces_snoc]; simp only [pieceCs]; rw [← HU1.out]))
            clear hr7 hg7 HM
            go_wp2_with fail
            go_roundw
            case rel => exact ⟨k + 2, _, by omega, by go_num, HS2.out, HM7.out⟩
            case measure => simp [intOf]; omega
        · have hnil : p.drop (k + 1) = [] := List.drop_eq_nil_of_le (by rw [HN.out]; omega)
          have HS2 := hidK (HS.out.step HN.out hkn (t := ⟨false, false, [c]⟩) (q := 1) (by rw [hpd]; exact dtok_one h42 h63 (fun h => h.2 hnil) (fun h => by omega)))
          clear hc hpd HS hnil
          go_wp2_with (refine wpList_append_row ((W1).alloc (.cells #[.bool false, .bool false, .string uu] 188)) rfl _ _ 184 184 rfl underPies infoPie rfl (v := sp) (by simp [Act.eval]) (u := .slice (some ⟨W1.heap.size, 0, none⟩) 1 1) (by simp [Act.eval]) (HM.out.row.below ?y1) (Src.block underPies _ _ [.bool false, .bool false, .string uu] 188 3 ?y2 rfl rfl) ?x1 ?x2 ?x3)
          case y1 => first | exact (HB1.out).alloc (HB1.out).size _ | exact ((HB1.out).drew).alloc (HB1.out).size _
          case y2 => exact new_as (by first | rfl | simp | simp [World.setCell]) _
          case x1 => omega
          case x2 => unfold maxLen; omega
          case x3 =>
            intro v7 w7 hr7 hg7
            have HM7 := hidK ((HM.out.grown (by first | exact (HB1.out).alloc (HB1.out).size _ | exact ((HB1.out).drew).alloc (HB1.out).size _) hr7.out hg7.out).cast (n' := (ts ++ [(⟨false, false, [c]⟩ : Tok)]).length) (xs' := piecesV (ts ++ [(⟨false, false, [c]⟩ : Tok)])) (by simp) (by rw [pieces_snoc]; simp only [pieceCs]; rw [← HU0.out]))
            clear hr7 hg7 HM
            go_wp2_with fail
            go_roundw
            case rel => exact ⟨k + 1, _, by omega, by go_num, HS2.out, HM7.out⟩
            case measure => simp [intOf]; omega
      by_cases h91 : c.toNat = 91
      · have HSk := hidK fun W => HSet.out k W hkn
        obtain ⟨⟨t, q⟩, htq⟩ : ∃ r, dsetF (p.drop k) = r := ⟨_, rfl⟩
        have hans : setAns p k = .tuple #[pieceV t, .int .i64 (if q = 0 then 0 else (k : Int) + (q : Int))] := by unfold setAns; rw [htq]
        simp only [hans, pieceV] at HSk
        obtain ⟨tm, htm⟩ : ∃ tm, t.many = tm := ⟨_, rfl⟩
        obtain ⟨tn, htn⟩ : ∃ tn, t.not = tn := ⟨_, rfl⟩
        obtain ⟨zm, hzm⟩ : ∃ zm, str (rangF t.mem) = zm := ⟨_, rfl⟩
        simp only [htm, htn, hzm] at HSk
        have HV : Hid (pieceCs t = [.bool tm, .bool tn, .string zm]) := by show _ = _; unfold pieceCs; rw [hzm, htm, htn]
        by_cases hq : q = 0
        · have HS2 := hidK (HS.out.step HN.out hkn (t := ⟨false, false, [c]⟩) (q := 1) (by rw [hpd]; exact dtok_one h42 h63 (fun h => h92 h.1) (fun h => by have h2 := h.2; rw [← hpd, htq] at h2; simp only at h2; omega)))
          simp only [if_pos hq] at HSk
          clear hc hpd HS hans htq htm htn hzm hq
          clear q0 q1 q2 q3
          go_wp2_with fail
          refine (HSk.out _).mono ?_
          rintro x w2 ⟨rfl, hb2⟩
          have hbk := (hb2.block xb (lt_of_block HBk.out)).trans HBk.out
          have HB2 := hidK (HB1.out.trans (hb2.mono HB1.out.size))
          have q0 : ∀ o, (w2.alloc o).cell? ⟨xb, 0, none⟩ = some (.bool false) := fun o => cell_atT (alloc_old hbk o) 0
          have q1 : ∀ o, (w2.alloc o).cell? ⟨xb, 1, none⟩ = some (.bool false) := fun o => cell_atT (alloc_old hbk o) 1
          have q2 : ∀ o, (w2.alloc o).cell? ⟨xb, 2, none⟩ = some (.string uu) := fun o => cell_atT (alloc_old hbk o) 2
          clear hbk hb2
          go_wp2_with (refine wpList_append_row ((w2.alloc (.cells #[.bool tm, .bool tn, .string zm] 188)).alloc (.cells #[.bool false, .bool false, .string uu] 188)) rfl _ _ 184 184 rfl underPies infoPie rfl (v := sp) (by simp [Act.eval]) (u := .slice (some ⟨w2.heap.size + 1, 0, none⟩) 1 1) (by simp [Act.eval]) (HM.out.row.below ?y1) (Src.block underPies _ _ [.bool false, .bool false, .string uu] 188 3 ?y2 rfl rfl) ?x1 ?x2 ?x3)
          case y1 => exact HB2.out.trans ((heap_two w2 _ _).2.2.2.mono HB2.out.size)
          case y2 => exact (heap_two w2 _ _).2.1
          case x1 => omega
          case x2 => unfold maxLen; omega
          case x3 =>
            intro v7 w7 hr7 hg7
            have HM7 := hidK ((HM.out.grown (by exact HB2.out.trans ((heap_two w2 _ _).2.2.2.mono HB2.out.size)) hr7.out hg7.out).cast (n' := (ts ++ [(⟨false, false, [c]⟩ : Tok)]).length) (xs' := piecesV (ts ++ [(⟨false, false, [c]⟩ : Tok)])) (by simp) (by rw [pieces_snoc]; simp only [pieceCs]; rw [← HU0.out]))
            clear hr7 hg7 HM
            go_wp2_with fail
            go_roundw
            case rel => exact ⟨k + 1, _, by omega, by go_num, HS2.out, HM7.out⟩
            case measure => simp [intOf]; omega
        · have hq1 : 0 < q := by omega
          have HS2 := hidK (HS.out.step HN.out hkn (t := t) (q := q) (by rw [← htq, hpd]; simp only [dtokF]; rw [if_neg h42, if_neg h63, if_neg (fun h => h92 h.1), if_pos ⟨h91, by rw [← hpd, htq]; exact hq1⟩]))
          have hql : k + q ≤ n := by have h := dset_le (l := p.drop k); rw [htq, List.length_drop, HN.out] at h; simp only at h; omega
          simp only [if_neg hq] at HSk
          clear hc hpd HS hans htq htm htn hzm hq HU0
          clear q0 q1 q2 q3
          go_wp2_with fail
          refine (HSk.out _).mono ?_
          rintro x w2 ⟨rfl, hb2⟩
          have hbk := (hb2.block xb (lt_of_block HBk.out)).trans HBk.out
          have HB2 := hidK (HB1.out.trans (hb2.mono HB1.out.size))
          have q0 : ∀ o, (w2.alloc o).cell? ⟨xb, 0, none⟩ = some (.bool false) := fun o => cell_atT (alloc_old hbk o) 0
          have q1 : ∀ o, (w2.alloc o).cell? ⟨xb, 1, none⟩ = some (.bool false) := fun o => cell_atT (alloc_old hbk o) 1
          have q2 : ∀ o, (w2.alloc o).cell? ⟨xb, 2, none⟩ = some (.string uu) := fun o => cell_atT (alloc_old hbk o) 2
          have q3 : ∀ o j, (w2.alloc o).frozen? ⟨xb, j, none⟩ = false := fun o j => free_atT (alloc_old hbk o) j
          obtain ⟨W3, hW3⟩ : ∃ W3, (((w2.alloc (.cells #[.bool tm, .bool tn, .string zm] 188)).setCell ⟨xb, 0, none⟩ (.bool tm)).setCell ⟨xb, 1, none⟩ (.bool tn)).setCell ⟨xb, 2, none⟩ (.string zm) = W3 := ⟨_, rfl⟩
          have hbk3 : W3.heap[xb]? = some (.cells #[.bool tm, .bool tn, .string zm] 188 (0, 0)) := by rw [← hW3]; exact set_three (alloc_old hbk _) _ _ _
          have p0 := cell_atT hbk3 0
          have p1 := cell_atT hbk3 1
          have p2 := cell_atT hbk3 2
          have HB3 : Hid (Below wr.heap.size wr W3) := by rw [← hW3]; exact (((HB2.out.alloc HB2.out.size _).setCell (Nat.le_of_eq HXB.out) _).setCell (Nat.le_of_eq HXB.out) _).setCell (Nat.le_of_eq HXB.out) _
          clear hbk3
          clear hbk hb2
          go_wp2_with (refine wpList_append_row (W3.alloc (.cells #[.bool tm, .bool tn, .string zm] 188)) rfl _ _ 184 184 rfl underPies infoPie rfl (v := sp) (by simp [Act.eval]) (u := .slice (some ⟨W3.heap.size, 0, none⟩) 1 1) (by simp [Act.eval]) (HM.out.row.below ?y1) (Src.block underPies _ _ [.bool tm, .bool tn, .string zm] 188 3 ?y2 rfl rfl) ?x1 ?x2 ?x3)
          case y1 => exact HB3.out.alloc HB3.out.size _
          case y2 => exact new_as (by first | rfl | simp | simp [World.setCell]) _
          case x1 => omega
          case x2 => unfold maxLen; omega
          case x3 =>
            intro v7 w7 hr7 hg7
            have HM7 := hidK ((HM.out.grown (by exact HB3.out.alloc HB3.out.size _) hr7.out hg7.out).cast (n' := (ts ++ [(t : Tok)]).length) (xs' := piecesV (ts ++ [(t : Tok)])) (by simp) (by rw [pieces_snoc]; rw [HV.out]))
            clear hr7 hg7 HM
            go_wp2_with fail
            go_roundw
            case rel => exact ⟨k + q, _, by omega, by go_num, HS2.out, HM7.out⟩
            case measure => simp [intOf]; omega
      have HS2 := hidK (HS.out.step HN.out hkn (t := ⟨false, false, [c]⟩) (q := 1) (by rw [hpd]; exact dtok_one h42 h63 (fun h => h92 h.1) (fun h => h91 h.1)))
      clear hc hpd HS
      go_wp2_with (refine wpList_append_row ((W1).alloc (.cells #[.bool false, .bool false, .string uu] 188)) rfl _ _ 184 184 rfl underPies infoPie rfl (v := sp) (by simp [Act.eval]) (u := .slice (some ⟨W1.heap.size, 0, none⟩) 1 1) (by simp [Act.eval]) (HM.out.row.below ?y1) (Src.block underPies _ _ [.bool false, .bool false, .string uu] 188 3 ?y2 rfl rfl) ?x1 ?x2 ?x3)
      case y1 => first | exact (HB1.out).alloc (HB1.out).size _ | exact ((HB1.out).drew).alloc (HB1.out).size _
      case y2 => exact new_as (by first | rfl | simp | simp [World.setCell]) _
      case x1 => omega
      case x2 => unfold maxLen; omega
      case x3 =>
        intro v7 w7 hr7 hg7
        have HM7 := hidK ((HM.out.grown (by first | exact (HB1.out).alloc (HB1.out).size _ | exact ((HB1.out).drew).alloc (HB1.out).size _) hr7.out hg7.out).cast (n' := (ts ++ [(⟨false, false, [c]⟩ : Tok)]).length) (xs' := piecesV (ts ++ [(⟨false, false, [c]⟩ : Tok)])) (by simp) (by rw [pieces_snoc]; simp only [pieceCs]; rw [← HU0.out]))
        clear hr7 hg7 HM
        go_wp2_with fail
        go_roundw
        case rel => exact ⟨k + 1, _, by omega, by go_num, HS2.out, HM7.out⟩
        case measure => simp [intOf]; omega
    · obtain rfl : k = n := by omega
      have HQ := hidK (HS.out.done HN.out (Nat.le_refl _))
      go_wp2_with fail
      all_goals go_ret
      all_goals exact ⟨_, rfl, by rw [← HQ.out]; exact HM.out⟩
end Go.Proofs.YtlfcjcaofhcfnaaGreatDoor
