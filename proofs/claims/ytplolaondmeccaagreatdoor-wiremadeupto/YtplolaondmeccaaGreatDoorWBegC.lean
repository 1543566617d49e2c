/-
  A row's beginning.
-/
import Derived.Test.YtplolaondmeccaaGreatDoorWBegB
import Derived.WalkKit
import Derived.LoopTactic
import Derived.RegionTactic
import Derived.Deep.RegionWith
import Derived.Deep.DrawnRows
import Derived.Deep.RegionHeld3
namespace Go.Proofs.YtplolaondmeccaaGreatDoor
open Go.RowKit
set_option linter.unusedVariables false

theorem begRow_cut : ∀ (fs : List FSpec) (l : List UInt8) (e : Ev), fs ≠ [] → ∃ F t, fs[(cutK (fs.length - 1) l).length - 1]? = some F ∧ (cutK (fs.length - 1) l)[(cutK (fs.length - 1) l).length - 1]? = some t ∧
    begRow fs l = ((readAll fs ((cutK (fs.length - 1) l).take ((cutK (fs.length - 1) l).length - 1)) e).isSome && begF F t)
  | [], _, _, h => absurd rfl h
  | [F], l, e, _ => ⟨F, l, rfl, rfl, rfl⟩
  | F :: G :: fs, l, e, _ => by
    have hlen' : (F :: G :: fs).length - 1 = fs.length + 1 := by simp
    rw [hlen']
    unfold begRow cutK
    by_cases hl : (32 : UInt8) ∈ l
    · rw [if_pos hl, if_pos hl]
      obtain ⟨a, ha⟩ : ∃ a, l.takeWhile (· != 32) = a := ⟨_, rfl⟩
      obtain ⟨r, hr⟩ : ∃ r, (l.dropWhile (· != 32)).drop 1 = r := ⟨_, rfl⟩
      rw [ha, hr]
      obtain ⟨ts, hts⟩ : ∃ ts, cutK fs.length r = ts := ⟨_, rfl⟩
      have key : ∀ e, ∃ F' t, (G :: fs)[ts.length - 1]? = some F' ∧ ts[ts.length - 1]? = some t ∧ begRow (G :: fs) r = ((readAll (G :: fs) (ts.take (ts.length - 1)) e).isSome && begF F' t) := fun e => hts ▸ begRow_cut (G :: fs) r e (by simp)
      rw [hts]
      have hn : ts.length ≠ 0 := by
        obtain ⟨_, _, _, h, _⟩ := key e
        intro h0
        rw [List.length_eq_zero_iff.1 h0] at h
        cases h
      obtain ⟨m, hm⟩ : ∃ m, ts.length = m + 1 := ⟨ts.length - 1, by omega⟩
      have e1 : (a :: ts).length - 1 = m + 1 := by simp [hm]
      rw [hm, Nat.add_sub_cancel] at key
      rw [e1, List.take_succ_cons, List.getElem?_cons_succ, List.getElem?_cons_succ]
      cases hg : F.read a with
      | none =>
        obtain ⟨F', t, h1, h2, h3⟩ := key e
        refine ⟨F', t, h1, h2, ?_⟩
        show _ = (((F.read a).bind fun g => readAll (G :: fs) (ts.take m) (g e)).isSome && begF F' t)
        rw [hg]
        rfl
      | some g =>
        obtain ⟨F', t, h1, h2, h3⟩ := key (g e)
        refine ⟨F', t, h1, h2, ?_⟩
        show _ = (((F.read a).bind fun g => readAll (G :: fs) (ts.take m) (g e)).isSome && begF F' t)
        rw [hg, h3]
        rfl
    · rw [if_neg hl, if_neg hl]
      exact ⟨F, l, rfl, rfl, rfl⟩

theorem ends_few {F : FSpec} {s : List UInt8} (h : F.ends.data.toList = s) (h1 : s.length ≤ 16) (h2 : s.all (fun b => decide (b.toNat < 128)) = true) (h3 : (Lib.fields s).all (fun e => decide (e.length ≤ 16)) = true) (h4 : (Lib.fields s).length ≤ 16) : EndsOk F := by
  unfold EndsOk endsL
  rw [h]
  refine ⟨?_, fun j b hb => ?_, fun e he => ?_, h4⟩
  · rw [← h] at h1
    rw [← size_data]
    exact h1
  · exact of_decide_eq_true (List.all_eq_true.1 h2 b (List.mem_of_getElem? hb))
  · exact of_decide_eq_true (List.all_eq_true.1 h3 e he)

theorem ends_all (k : Nat) : ∀ F ∈ fieldsOf k, EndsOk F := by
  have i36 : ∀ f, EndsOk (fId 36 f) := fun f => ends_few (s := [36, 49, 32, 49]) rfl (by decide) (by decide) (by decide) (by decide)
  have i37 : ∀ f, EndsOk (fId 37 f) := fun f => ends_few (s := [37, 49, 32, 49]) rfl (by decide) (by decide) (by decide) (by decide)
  have i64 : ∀ f, EndsOk (fId 64 f) := fun f => ends_few (s := [64, 49, 32, 49]) rfl (by decide) (by decide) (by decide) (by decide)
  have n0 : ∀ m f, EndsOk (fNum m f) := fun m f => ends_few (s := [48]) rfl (by decide) (by decide) (by decide) (by decide)
  have e1 : ∀ lo hi, EndsOk (fEsc lo hi) := fun lo hi => ends_few (s := [49, 51, 52, 32, 51, 52, 32, 52]) rfl (by decide) (by decide) (by decide) (by decide)
  have b : EndsOk fBody := ends_few (s := [49, 51, 52, 32, 51, 52, 32, 52, 32, 53]) rfl (by decide) (by decide) (by decide) (by decide)
  have r : EndsOk fReason := ends_few (s := [49, 51, 52, 32, 51, 52, 32, 52]) rfl (by decide) (by decide) (by decide) (by decide)
  have nm : EndsOk fName := ends_few (s := [97]) rfl (by decide) (by decide) (by decide) (by decide)
  have wd : EndsOk fWord := ends_few (s := [97]) rfl (by decide) (by decide) (by decide) (by decide)
  have pl : ∀ f, EndsOk (fPlan f) := fun f => ends_few (s := [48]) rfl (by decide) (by decide) (by decide) (by decide)
  have z : EndsOk fZoom := ends_few (s := [45]) rfl (by decide) (by decide) (by decide) (by decide)
  have c : EndsOk fColon := ends_few (s := [58]) rfl (by decide) (by decide) (by decide) (by decide)
  intro F hF
  unfold fieldsOf at hF
  split at hF <;> simp only [List.mem_cons, List.not_mem_nil, or_false] at hF <;> (try rcases hF with rfl | rfl | rfl | rfl | rfl | rfl | rfl) <;> (try rcases hF with rfl | rfl | rfl | rfl) <;> (try rcases hF with rfl | rfl | rfl) <;> (try rcases hF with rfl | rfl) <;> (try subst hF) <;> (first | exact i36 _ | exact i37 _ | exact i64 _ | exact n0 _ _ | exact e1 _ _ | exact pl _ | assumption)

set_option maxRecDepth 20000 in
set_option maxHeartbeats 2000000 in
theorem begins_any (k : Nat) (h1 : 1 ≤ k) (h2 : k ≤ 24) (s : ByteArray) (hs : s.size ≤ 67108800) (B b : Nat) (w : World) (hE : Env w) (hS : ∀ W, Below w.heap.size w W → Spaces W) (hF : FieldsAt B w b (fieldsOf k)) :
    Calls Tryz.prog 25 #[rowV k b, .string s] w fun e w' => e = .returned (.bool (begS k s.data.toList)) ∧ Below w.heap.size w w' := by
  obtain ⟨n1, n2⟩ := fields_len k h1 h2
  have hne := fields_ne k h1 h2
  have HCut : Hid (∀ W (u : ByteArray), u.size ≤ lim → Env W → Calls Tryz.prog 29 #[rowV k b, .string u] W fun e w' =>
      ∃ l N, e = .returned (.slice (some ⟨W.heap.size + 1, 0, none⟩) l.length N) ∧ l.length ≤ N ∧ TextsAt w' (W.heap.size + 1) l N ∧ Pieces (fieldsOf k).length u l ∧ Below W.heap.size W w') :=
    fun W u hu hW => cut_any k h1 h2 u (by unfold lim at hu; omega) b W hW
  have HRf : Hid (∀ (T : Nat) (l : List ByteArray) (N : Nat), l.length ≤ N → l.length ≤ (fieldsOf k).length → (∀ t ∈ l, t.size ≤ lim) → ∀ W, Below w.heap.size w W → TextsIn W T l →
      Calls Tryz.prog 30 #[rowV k b, .slice (some ⟨T, 0, none⟩) l.length N] W (ReadPost (readAll (fieldsOf k) (l.map (·.data.toList)) (Ev.zero k)) W)) :=
    fun T l N a1 a2 a3 W hb a4 => readFields_in k h1 h2 B b T l N a1 a2 a3 W (hE.below hb) (hF.since (Since.of_below hb) (Nat.le_refl _)) a4
  have HBf : Hid (∀ (i : Nat) F (t : ByteArray), (fieldsOf k)[i]? = some F → t.size ≤ 67108800 → ∀ W, Below w.heap.size w W → ∃ pv rv es, W.cell? ⟨b, 3 * i, none⟩ = some pv ∧ W.cell? ⟨b, 3 * i + 1, none⟩ = some rv ∧ W.cell? ⟨b, 3 * i + 2, none⟩ = some (.string es) ∧
      Calls Tryz.prog 39 #[.agg #[pv, rv, .string es], .string t] W fun e w' => e = .returned (.bool (begF F t.data.toList)) ∧ Below W.heap.size W w') := by
    intro i F t hi ht W hb
    have hf2 := hF.since (Since.of_below hb) (Nat.le_refl _)
    obtain ⟨pv, rv, es, c0, c1, c2, c3⟩ := hf2.2 i F hi
    exact ⟨pv, rv, es, c0, c1, c2, fieldBegins_any B W F pv rv es c3 (by have := hf2.1; omega) (hE.below hb) (fun W' hb' => hS W' (hb.trans (hb'.mono hb.size))) (ends_all k F (List.mem_of_getElem? hi)) t ht⟩
  have HWant : Hid (begS k s.data.toList = if headOf k <+: s.data.toList then begRow (fieldsOf k) (s.data.toList.drop (headOf k).length) else decide (s.data.toList <+: headOf k)) := rfl
  have HRow : Hid (∀ l e, ∃ F t, (fieldsOf k)[(cutK ((fieldsOf k).length - 1) l).length - 1]? = some F ∧ (cutK ((fieldsOf k).length - 1) l)[(cutK ((fieldsOf k).length - 1) l).length - 1]? = some t ∧
    begRow (fieldsOf k) l = ((readAll (fieldsOf k) ((cutK ((fieldsOf k).length - 1) l).take ((cutK ((fieldsOf k).length - 1) l).length - 1)) e).isSome && begF F t)) := fun l e => begRow_cut (fieldsOf k) l e hne
  have HCP := Tryz.strings_CutPrefix s (str (headOf k))
  have HHP := Tryz.strings_HasPrefix (str (headOf k)) s
  rw [str_data] at HCP HHP
  obtain ⟨want, hwant⟩ : ∃ o, begS k s.data.toList = o := ⟨_, rfl⟩
  rw [hwant] at HWant ⊢
  obtain ⟨fs, hfs⟩ : ∃ fs, fieldsOf k = fs := ⟨_, rfl⟩
  obtain ⟨hd, hhd⟩ : ∃ hd, headOf k = hd := ⟨_, rfl⟩
  unfold rowV at *
  rw [hfs] at n1 n2 hF HCut HRf HWant HBf HRow ⊢
  rw [hhd] at HCut HRf HWant HCP HHP ⊢
  obtain ⟨ln, hln⟩ : ∃ ln, fs.length = ln := ⟨_, rfl⟩
  rw [hln] at n1 n2 HCut HRf HRow ⊢
  have HFb : Hid (B ≤ b ∧ b < w.heap.size) := hF.1
  obtain ⟨bh, hbh⟩ : ∃ u, Lib.trimPrefix s.data.toList hd = u := ⟨_, rfl⟩
  have hbl : (str bh).size ≤ 67108800 := by
    rw [str_size, ← hbh]
    unfold Lib.trimPrefix
    have := size_data s
    split
    · rw [List.length_drop]; omega
    · omega
  have HE : Hid (∀ o, Env (w.alloc o)) := fun o => hE.below (below1 w o)
  have HB : Hid (∀ o, Below w.heap.size w (w.alloc o)) := fun o => below1 w o
  cases hp : Lib.hasPrefix s.data.toList hd with
  | false =>
    have HW : Hid (want = Lib.hasPrefix hd s.data.toList) := by
      show want = _
      rw [HWant.out, if_neg]
      · unfold Lib.hasPrefix
        rw [Bool.eq_iff_iff, decide_eq_true_eq, List.isPrefixOf_iff_prefix]
      · intro h
        have : hd.isPrefixOf s.data.toList = true := List.isPrefixOf_iff_prefix.2 h
        unfold Lib.hasPrefix at hp
        rw [this] at hp
        cases hp
    have HP : Hid (∀ W, Calls Tryz.prog 28 #[.string s, .string (str hd)] W fun e w' => e = .returned (.tuple #[.string (str bh), .bool false]) ∧ W = w') := fun W => (HCP W).mono fun e w' ⟨a1, a2⟩ => ⟨by rw [a1, hbh, hp]; rfl, a2.symm⟩
    have HP2 : Hid (∀ W, Calls Tryz.prog 38 #[.string (str hd), .string s] W fun e w' => e = .returned (.bool want) ∧ W = w') := fun W => (HHP W).mono fun e w' ⟨a1, a2⟩ => ⟨by rw [a1, HW.out], a2.symm⟩
    clear HCP HHP hbh hp HWant HRf hF hE hwant hfs hhd hln HCut HBf HRow hS
    go_enter Tryz.func25, Tryz.ntmps25
    go_wp2_with (first
      | (go_at_call 28; refine (HP.out _).mono ?_; rintro e w1 ⟨rfl, rfl⟩)
      | (go_at_call 38; refine (HP2.out _).mono ?_; rintro e w1 ⟨rfl, rfl⟩))
    go_ret
    exact ⟨rfl, HB.out _⟩
  | true =>
    have hpre : hd <+: s.data.toList := List.isPrefixOf_iff_prefix.1 hp
    have hbd : bh = s.data.toList.drop hd.length := by
      rw [← hbh]
      unfold Lib.trimPrefix
      rw [if_pos hp]
    rw [if_pos hpre, ← hbd] at HWant
    have HP : Hid (∀ W, Calls Tryz.prog 28 #[.string s, .string (str hd)] W fun e w' => e = .returned (.tuple #[.string (str bh), .bool true]) ∧ W = w') := fun W => (HCP W).mono fun e w' ⟨a1, a2⟩ => ⟨by rw [a1, hbh, hp]; rfl, a2.symm⟩
    have HC2 : Hid (∀ o, Calls Tryz.prog 29 #[.agg #[.int .i64 k, .string (str hd), .slice (some ⟨b, 0, none⟩) ln ln], .string (str bh)] (w.alloc o) fun e w' =>
        ∃ l N, e = .returned (.slice (some ⟨w.heap.size + 1 + 1, 0, none⟩) l.length N) ∧ l.length ≤ N ∧ TextsAt w' (w.heap.size + 1 + 1) l N ∧ Pieces ln (str bh) l ∧ Below (w.alloc o).heap.size (w.alloc o) w') := fun o => by
      have h := HCut.out (w.alloc o) (str bh) (by unfold lim; omega) (HE.out o)
      rw [size1] at h
      rw [size1]
      exact h
    obtain ⟨F, x, r1, r2, r3⟩ := HRow.out bh (Ev.zero k)
    rw [r3] at HWant
    clear HCP HHP hbh hp hpre hbd hF hE hwant hfs hhd hln HCut HRow r3 hS
    go_enter Tryz.func25, Tryz.ntmps25
    go_wp2_with (go_at_call 28; refine (HP.out _).mono ?_; rintro e w1 ⟨rfl, rfl⟩)
    refine (HC2.out _).mono ?_
    rintro e w1 ⟨l, N, rfl, x1, x2, x3, x4⟩
    have HX : Hid (Below w.heap.size w w1) := (HB.out _).trans (x4.mono (HB.out _).size)
    have hrw := (heap_alloc_new w _).symm.trans (x4.block w.heap.size (by rw [size1]; omega)).symm
    have q0 := cell_at hrw.symm 0
    have q1 := cell_at hrw.symm 1
    have q2 := cell_at hrw.symm 2
    simp at q0 q1 q2
    have HL : Hid (l.map (·.data.toList) = cutK (ln - 1) bh) := x3
    obtain ⟨m, hm⟩ : ∃ m, l.length = m := ⟨_, rfl⟩
    have hcl : (cutK (ln - 1) bh).length = m := by rw [← HL.out, List.length_map]; exact hm
    rw [hcl] at r1 r2 HWant
    have hm0 : 0 < m := by
      rcases Nat.eq_zero_or_pos m with h | h
      · rw [h] at hcl
        rw [List.length_eq_zero_iff.1 hcl] at r2
        cases r2
      · exact h
    have hmn : m ≤ ln := by have := cutK_length (ln - 1) bh; omega
    have HLm : Hid (∀ t ∈ l, t.size ≤ 67108800) := fun t ht => by
      have h3 := cutK_le (ln - 1) bh t.data.toList (by rw [← HL.out]; exact List.mem_map.2 ⟨t, ht, rfl⟩)
      rw [size_data] at h3
      rw [str_size] at hbl
      omega
    obtain ⟨y, hy⟩ : ∃ y, l[m - 1]? = some y := ⟨_, List.getElem?_eq_getElem (by omega)⟩
    have hyx : y.data.toList = x := by
      rw [← HL.out, List.getElem?_map, hy] at r2
      exact Option.some.inj r2
    have hyl : y.size ≤ 67108800 := HLm.out y (List.mem_of_getElem? hy)
    have tx := x2.texts
    have dT : w1.cell? ⟨w.heap.size + 1 + 1, m - 1, none⟩ = some (.string y) := tx.2 _ y hy
    have HW : Hid (want = ((readAll fs ((l.take (m - 1)).map (·.data.toList)) (Ev.zero k)).isSome && begF F y.data.toList)) := by
      show want = _
      rw [HWant.out, List.map_take, HL.out, hyx]
    have HR2 := HRf.out (w.heap.size + 1 + 1) (l.take (m - 1)) N (by rw [List.length_take]; omega) (by rw [List.length_take]; omega) (fun t ht => by have := HLm.out t (List.mem_of_mem_take ht); unfold lim; omega) w1.drew HX.out.drew (tx.take _)
    rw [List.length_take, hm, Nat.min_eq_left (by omega)] at HR2
    obtain ⟨rd, hrd⟩ : ∃ o, readAll fs ((l.take (m - 1)).map (·.data.toList)) (Ev.zero k) = o := ⟨_, rfl⟩
    rw [hrd] at HR2 HW
    have HR3 : Hid (Calls Tryz.prog 30 #[.agg #[.int .i64 k, .string (str hd), .slice (some ⟨b, 0, none⟩) ln ln], .slice (some ⟨w.heap.size + 1 + 1, 0, none⟩) (m - 1) N] w1.drew (ReadPost rd w1.drew)) := HR2
    have hNm : m ≤ N := hm ▸ x1
    obtain ⟨m', rfl⟩ : ∃ m', m = m' + 1 := ⟨m - 1, by omega⟩
    rw [hm]
    have HT : Hid (w.heap.size + 1 + 1 < w1.heap.size) := tx.1
    have HY : Hid (w.heap.size < w1.heap.size) := lt_of_block hrw.symm
    simp only [Nat.add_sub_cancel] at HR3 dT r1
    clear HR2 HRf HWant HL HLm x1 x2 x3 x4 tx hrw HC2 HP HE hcl hm hy r2 hyx hrd
    have HNx : Hid (∀ w2, Below w1.drew.heap.size w1.drew w2 → Below w.heap.size w w2 ∧ w2.cell? ⟨w.heap.size, 2, none⟩ = some (.slice (some ⟨b, 0, none⟩) ln ln) ∧ w2.cell? ⟨w.heap.size + 1 + 1, m', none⟩ = some (.string y)) := fun w2 hb2 =>
      ⟨HX.out.drew.trans (hb2.mono HX.out.size), (hb2.cell (p := ⟨w.heap.size, 2, none⟩) HY.out).trans q2, (hb2.cell (p := ⟨_, m', none⟩) HT.out).trans dT⟩
    have hNz : (m' : Int) ≤ (N : Int) := by omega
    have hNy : ¬ (N : Int) < (m' : Int) := by omega
    cases rd with
    | none =>
      have HR4 : Hid (Calls Tryz.prog 30 #[.agg #[.int .i64 k, .string (str hd), .slice (some ⟨b, 0, none⟩) ln ln], .slice (some ⟨w.heap.size + 1 + 1, 0, none⟩) m' N] w1.drew fun e w' => e = .returned (.tuple #[.agg #[.int .i64 0, .int .i64 0, .int .i64 0, .int .i64 0, .int .i64 0, .int .i64 0, .int .i64 0, .int .i64 0, .int .i64 0, .string ⟨#[]⟩, .string ⟨#[]⟩, .string ⟨#[]⟩, .string ⟨#[]⟩, .bool false], .bool false]) ∧ Below w1.drew.heap.size w1.drew w') := HR3.out
      have hw : want = false := HW.out
      subst hw
      clear HW HR3 HBf r1
      go_wp2
      go_region_held3 (fun W' => W'.cell? ⟨w.heap.size, 0, none⟩ = some (.int .i64 k) ∧ W'.cell? ⟨w.heap.size, 1, none⟩ = some (.string (str hd)) ∧ W'.cell? ⟨w.heap.size, 2, none⟩ = some (.slice (some ⟨b, 0, none⟩) ln ln)) (go_keep) ((go_at_call 30; refine HR4.out.mono ?_; rintro e w2 ⟨rfl, hb2⟩; obtain ⟨y1, y2, y3⟩ := HNx.out w2 hb2; have z0 := (hb2.cell (p := ⟨w.heap.size, 0, none⟩) HY.out).trans q0; have z1 := (hb2.cell (p := ⟨w.heap.size, 1, none⟩) HY.out).trans q1; have HX2 : Hid (Below w.heap.size w w2) := y1; clear y1 hb2))
      all_goals go_wp2
      try simp only [Act.put, List.setIfInBounds_toArray, List.set_cons_zero, List.set_cons_succ]
      refine wp_region_noPanic ?_
      refine wp_region_held_drew (S := (fun W' => W'.cell? ⟨w.heap.size, 2, none⟩ = some (.slice (some ⟨b, 0, none⟩) ln ln))) (by kernel_rfl) ?_ (fun hHeld => ?_)
      · go_keep
      refine wpAnyH_take (i := 0) (v := ?v0) (by simp only [List.getElem?_toArray, List.getElem?_cons_zero]; rfl) (by kernel_rfl) (by kernel_rfl) (by kernel_rfl) (fun _ _ _ h => h) (Or.inl ⟨by rfl, ?hy0⟩) (by assumption) ?rest0
      case hy0 =>
        intro w hSw
        try dsimp only at hSw
        go_simp
        try with_reducible rfl
      try simp only [Act.put, List.setIfInBounds_toArray, List.set_cons_zero, List.set_cons_succ]
      refine wpAnyH_take (i := 1) (v := ?v1) (by simp only [List.getElem?_toArray, List.getElem?_cons_succ, List.getElem?_cons_zero]; rfl) (by kernel_rfl) (by kernel_rfl) (by kernel_rfl) (fun _ _ _ h => h) (Or.inl ⟨by rfl, ?hy1⟩) (by assumption) ?rest1
      case hy1 =>
        intro w hSw
        try dsimp only at hSw
        go_simp
        try with_reducible rfl
      try simp only [Act.put, List.setIfInBounds_toArray, List.set_cons_zero, List.set_cons_succ]
      refine wpAnyH_take (i := 2) (v := undef) (by simp only [List.getElem?_toArray, List.getElem?_cons_succ, List.getElem?_cons_zero]; rfl) (by kernel_rfl) (by kernel_rfl) (by kernel_rfl) (fun _ _ _ h => h) (Or.inr ⟨by rfl, rfl⟩) (by assumption) ?_
      try simp only [Act.put, List.setIfInBounds_toArray, List.set_cons_zero, List.set_cons_succ]
      refine wpAnyH_take (i := 3) (v := undef) (by simp only [List.getElem?_toArray, List.getElem?_cons_succ, List.getElem?_cons_zero]; rfl) (by kernel_rfl) (by kernel_rfl) (by kernel_rfl) (fun _ _ _ h => h) (Or.inr ⟨by rfl, rfl⟩) (by assumption) ?_
      try simp only [Act.put, List.setIfInBounds_toArray, List.set_cons_zero, List.set_cons_succ]
      refine wpAnyH_take (i := 4) (v := undef) (by simp only [List.getElem?_toArray, List.getElem?_cons_succ, List.getElem?_cons_zero]; rfl) (by kernel_rfl) (by kernel_rfl) (by kernel_rfl) (fun _ _ _ h => h) (Or.inr ⟨by rfl, rfl⟩) (by assumption) ?_
      try simp only [Act.put, List.setIfInBounds_toArray, List.set_cons_zero, List.set_cons_succ]
      refine wpAnyH_take (i := 5) (v := undef) (by simp only [List.getElem?_toArray, List.getElem?_cons_succ, List.getElem?_cons_zero]; rfl) (by kernel_rfl) (by kernel_rfl) (by kernel_rfl) (fun _ _ _ h => h) (Or.inr ⟨by rfl, rfl⟩) (by assumption) ?_
      try simp only [Act.put, List.setIfInBounds_toArray, List.set_cons_zero, List.set_cons_succ]
      refine wpAnyH_take (i := 6) (v := undef) (by simp only [List.getElem?_toArray, List.getElem?_cons_succ, List.getElem?_cons_zero]; rfl) (by kernel_rfl) (by kernel_rfl) (by kernel_rfl) (fun _ _ _ h => h) (Or.inr ⟨by rfl, rfl⟩) (by assumption) ?_
      try simp only [Act.put, List.setIfInBounds_toArray, List.set_cons_zero, List.set_cons_succ]
      refine wpAnyH_take (i := 7) (v := undef) (by simp only [List.getElem?_toArray, List.getElem?_cons_succ, List.getElem?_cons_zero]; rfl) (by kernel_rfl) (by kernel_rfl) (by kernel_rfl) (fun _ _ _ h => h) (Or.inr ⟨by rfl, rfl⟩) (by assumption) ?_
      try simp only [Act.put, List.setIfInBounds_toArray, List.set_cons_zero, List.set_cons_succ]
      refine wpAnyH_take (i := 8) (v := undef) (by simp only [List.getElem?_toArray, List.getElem?_cons_succ, List.getElem?_cons_zero]; rfl) (by kernel_rfl) (by kernel_rfl) (by kernel_rfl) (fun _ _ _ h => h) (Or.inr ⟨by rfl, rfl⟩) (by assumption) ?_
      try simp only [Act.put, List.setIfInBounds_toArray, List.set_cons_zero, List.set_cons_succ]
      refine wpAnyH_take (i := 9) (v := undef) (by simp only [List.getElem?_toArray, List.getElem?_cons_succ, List.getElem?_cons_zero]; rfl) (by kernel_rfl) (by kernel_rfl) (by kernel_rfl) (fun _ _ _ h => h) (Or.inr ⟨by rfl, rfl⟩) (by assumption) ?_
      try simp only [Act.put, List.setIfInBounds_toArray, List.set_cons_zero, List.set_cons_succ]
      refine wpAnyH_take (i := 10) (v := undef) (by simp only [List.getElem?_toArray, List.getElem?_cons_succ, List.getElem?_cons_zero]; rfl) (by kernel_rfl) (by kernel_rfl) (by kernel_rfl) (fun _ _ _ h => h) (Or.inr ⟨by rfl, rfl⟩) (by assumption) ?_
      try simp only [Act.put, List.setIfInBounds_toArray, List.set_cons_zero, List.set_cons_succ]
      refine wpAnyH_take (i := 11) (v := undef) (by simp only [List.getElem?_toArray, List.getElem?_cons_succ, List.getElem?_cons_zero]; rfl) (by kernel_rfl) (by kernel_rfl) (by kernel_rfl) (fun _ _ _ h => h) (Or.inr ⟨by rfl, rfl⟩) (by assumption) ?_
      try simp only [Act.put, List.setIfInBounds_toArray, List.set_cons_zero, List.set_cons_succ]
      refine wpAnyH_take (i := 12) (v := ?v12) (by simp only [List.getElem?_toArray, List.getElem?_cons_succ, List.getElem?_cons_zero]; rfl) (by kernel_rfl) (by kernel_rfl) (by kernel_rfl) (fun _ _ _ h => h) (Or.inl ⟨by rfl, ?hy12⟩) (by assumption) ?rest12
      case hy12 =>
        intro w hSw
        try dsimp only at hSw
        go_simp
        try with_reducible rfl
      try simp only [Act.put, List.setIfInBounds_toArray, List.set_cons_zero, List.set_cons_succ]
      refine wpAnyH_take (i := 13) (v := ?v13) (by simp only [List.getElem?_toArray, List.getElem?_cons_succ, List.getElem?_cons_zero]; rfl) (by kernel_rfl) (by kernel_rfl) (by kernel_rfl) (fun _ _ _ h => h) (Or.inl ⟨by rfl, ?hy13⟩) (by assumption) ?rest13
      case hy13 =>
        intro w hSw
        try dsimp only at hSw
        go_simp
        try with_reducible rfl
      try simp only [Act.put, List.setIfInBounds_toArray, List.set_cons_zero, List.set_cons_succ]
      refine wpAnyH_done (by kernel_rfl) ?_ _
      refine NoPanic.normal ?_
      all_goals go_wp2
      all_goals go_ret
      exact ⟨rfl, HX2.out.drew⟩
    | some ev =>
      have HR4 : Hid (Calls Tryz.prog 30 #[.agg #[.int .i64 k, .string (str hd), .slice (some ⟨b, 0, none⟩) ln ln], .slice (some ⟨w.heap.size + 1 + 1, 0, none⟩) m' N] w1.drew fun e w' => e = .returned (.tuple #[.agg #[.int .i64 ev.kind, .int .i64 ev.session, .int .i64 ev.window, .int .i64 ev.pane, .int .i64 ev.index, .int .i64 ev.offset, .int .i64 ev.tick, .int .i64 ev.number, .int .i64 ev.flag, .string ev.name, .string ev.text, .string ev.layout, .string ev.visible, .bool ev.zoom], .bool true]) ∧ Below w1.drew.heap.size w1.drew w') := HR3.out
      have hw : begF F y.data.toList = want := HW.out.symm
      clear HW HR3
      have HBg : Hid (∀ w2, Below w.heap.size w w2 → ∃ pv rv es, w2.cell? ⟨b, m' * 3, none⟩ = some pv ∧ w2.cell? ⟨b, m' * 3 + 1, none⟩ = some rv ∧ w2.cell? ⟨b, m' * 3 + 2, none⟩ = some (.string es) ∧
          Calls Tryz.prog 39 #[.agg #[pv, rv, .string es], .string y] w2.drew fun e w' => e = .returned (.bool (begF F y.data.toList)) ∧ Below w2.drew.heap.size w2.drew w') := fun w2 hb => by
        obtain ⟨pv, rv, es, c0, c1, c2, hbf⟩ := HBf.out m' F y r1 hyl w2.drew hb.drew
        rw [Nat.mul_comm] at c0 c1 c2
        exact ⟨pv, rv, es, c0, c1, c2, hbf⟩
      clear HBf r1
      rw [hw] at HBg
      clear hw
      have hml : (m' : Int) < (ln : Int) := by omega
      have hi1 : (m' : Int) < (m' : Int) + 1 := by omega
      have hi2 : (m' : Int) < ((m' + 1 : Nat) : Int) := by omega
      go_wp2
      go_region_held3 (fun W' => W'.cell? ⟨w.heap.size, 0, none⟩ = some (.int .i64 k) ∧ W'.cell? ⟨w.heap.size, 1, none⟩ = some (.string (str hd)) ∧ W'.cell? ⟨w.heap.size, 2, none⟩ = some (.slice (some ⟨b, 0, none⟩) ln ln)) (go_keep) ((go_at_call 30; refine HR4.out.mono ?_; rintro e w2 ⟨rfl, hb2⟩; obtain ⟨y1, y2, y3⟩ := HNx.out w2 hb2; have z0 := (hb2.cell (p := ⟨w.heap.size, 0, none⟩) HY.out).trans q0; have z1 := (hb2.cell (p := ⟨w.heap.size, 1, none⟩) HY.out).trans q1; obtain ⟨pv, rv, es, c0, c1, c2, hbf⟩ := HBg.out w2 y1; have HX2 : Hid (Below w.heap.size w w2) := y1; have HBh : Hid (Calls Tryz.prog 39 #[.agg #[pv, rv, .string es], .string y] w2.drew fun e w' => e = .returned (.bool want) ∧ Below w2.drew.heap.size w2.drew w') := hbf; clear y1 hb2 hbf))
      clear HR4 HNx HBg
      all_goals go_wp2
      try simp only [Act.put, List.setIfInBounds_toArray, List.set_cons_zero, List.set_cons_succ]
      go_region_held3 (fun W' => W'.cell? ⟨w.heap.size, 2, none⟩ = some (.slice (some ⟨b, 0, none⟩) ln ln) ∧ W'.cell? ⟨w.heap.size + 1 + 1, m', none⟩ = some (.string y) ∧ W'.cell? ⟨b, m' * 3, none⟩ = some pv ∧ W'.cell? ⟨b, m' * 3 + 1, none⟩ = some rv ∧ W'.cell? ⟨b, m' * 3 + 2, none⟩ = some (.string es)) (go_keep) ((go_at_call 39; refine HBh.out.mono ?_; rintro e w3 ⟨rfl, hb3⟩; have HX3 : Hid (Below w.heap.size w w3) := HX2.out.drew.trans (hb3.mono HX2.out.size); have v1 := (hb3.cell (p := ⟨w.heap.size, 2, none⟩) (World.block_lt_of_cell? _ _ y2)).trans y2; have v2 := (hb3.cell (p := ⟨w.heap.size + 1 + 1, m', none⟩) (World.block_lt_of_cell? _ _ y3)).trans y3; have v3 := (hb3.cell (p := ⟨b, m' * 3, none⟩) (World.block_lt_of_cell? _ _ c0)).trans c0; have v4 := (hb3.cell (p := ⟨b, m' * 3 + 1, none⟩) (World.block_lt_of_cell? _ _ c1)).trans c1; have v5 := (hb3.cell (p := ⟨b, m' * 3 + 2, none⟩) (World.block_lt_of_cell? _ _ c2)).trans c2; clear hb3))
      all_goals go_wp2
      all_goals go_ret
      exact ⟨rfl, HX3.out⟩

end Go.Proofs.YtplolaondmeccaaGreatDoor
