/-
  A row reads a line.
-/
import Derived.Test.YtplolaondmeccaaGreatDoorWRowD
import Derived.WalkKit
namespace Go.Proofs.YtplolaondmeccaaGreatDoor
open Go.RowKit
set_option linter.unusedVariables false

theorem cutK_le : ∀ (k : Nat) (s t : List UInt8), t ∈ cutK k s → t.length ≤ s.length
  | 0, s, t, h => by
    have : t = s := by simpa [cutK] using h
    rw [this]
    exact Nat.le_refl _
  | k + 1, s, t, h => by
    unfold cutK at h
    split at h
    · rcases List.mem_cons.1 h with rfl | h
      · exact (List.takeWhile_sublist _).length_le
      · have h1 := cutK_le k _ t h
        have h2 : (s.dropWhile (· != 32)).length ≤ s.length := (List.dropWhile_sublist _).length_le
        rw [List.length_drop] at h1
        omega
    · have : t = s := by simpa using h
      rw [this]
      exact Nat.le_refl _

theorem cutK_length : ∀ (k : Nat) (s : List UInt8), (cutK k s).length ≤ k + 1
  | 0, s => by simp [cutK]
  | k + 1, s => by
    unfold cutK
    split
    · have := cutK_length k ((s.dropWhile (· != 32)).drop 1)
      rw [List.length_cons]
      omega
    · simp

/-- A result's cells wait in a block. -/
theorem EvAt.zcells {w : World} {b : Nat} (h : EvAt w b (Ev.zero 0)) : w.cell? ⟨b, 0, none⟩ = some (.int .i64 0) ∧ w.cell? ⟨b, 1, none⟩ = some (.int .i64 0) ∧ w.cell? ⟨b, 2, none⟩ = some (.int .i64 0) ∧ w.cell? ⟨b, 3, none⟩ = some (.int .i64 0) ∧ w.cell? ⟨b, 4, none⟩ = some (.int .i64 0) ∧ w.cell? ⟨b, 5, none⟩ = some (.int .i64 0) ∧ w.cell? ⟨b, 6, none⟩ = some (.int .i64 0) ∧ w.cell? ⟨b, 7, none⟩ = some (.int .i64 0) ∧ w.cell? ⟨b, 8, none⟩ = some (.int .i64 0) ∧ w.cell? ⟨b, 9, none⟩ = some (.string ⟨#[]⟩) ∧ w.cell? ⟨b, 10, none⟩ = some (.string ⟨#[]⟩) ∧ w.cell? ⟨b, 11, none⟩ = some (.string ⟨#[]⟩) ∧ w.cell? ⟨b, 12, none⟩ = some (.string ⟨#[]⟩) ∧ w.cell? ⟨b, 13, none⟩ = some (.bool false) :=
  ⟨h.cell 0, h.cell 1, h.cell 2, h.cell 3, h.cell 4, h.cell 5, h.cell 6, h.cell 7, h.cell 8, h.cell 9, h.cell 10, h.cell 11, h.cell 12, h.cell 13⟩

theorem hrow14 (w : World) (o o' : Obj) : ((w.alloc o).alloc o').heap[w.heap.size]? = some o := (Below.heap_alloc _ _ _ (by rw [size1]; omega)).trans (heap_alloc_new w o)
theorem hlt14 (w : World) (o o' : Obj) : w.heap.size < ((w.alloc o).alloc o').heap.size := by rw [size1, size1]; omega

set_option maxRecDepth 20000 in
theorem read_any (k : Nat) (h1 : 1 ≤ k) (h2 : k ≤ 24) (s : ByteArray) (hs : s.size ≤ lim) (B b : Nat) (w : World) (hE : Env w) (hF : FieldsAt B w b (fieldsOf k)) :
    Calls Tryz.prog 17 #[rowV k b, .string s] w (ReadPost (readS k s.data.toList) w) := by
  obtain ⟨n1, n2⟩ := fields_len k h1 h2
  have HCut : Hid (∀ W (u : ByteArray), u.size ≤ lim → Env W → Calls Tryz.prog 29 #[rowV k b, .string u] W fun e w' =>
      ∃ l N, e = .returned (.slice (some ⟨W.heap.size + 1, 0, none⟩) l.length N) ∧ l.length ≤ N ∧ TextsAt w' (W.heap.size + 1) l N ∧ Pieces (fieldsOf k).length u l ∧ Below W.heap.size W w') :=
    fun W u hu hW => cut_any k h1 h2 u (by unfold lim at hu; omega) b W hW
  have HRf : Hid (∀ (T : Nat) (l : List ByteArray) (N : Nat), l.length ≤ N → l.length ≤ (fieldsOf k).length → (∀ t ∈ l, t.size ≤ lim) → ∀ W, Below w.heap.size w W → TextsAt W T l N →
      Calls Tryz.prog 30 #[rowV k b, .slice (some ⟨T, 0, none⟩) l.length N] W (ReadPost (readAll (fieldsOf k) (l.map (·.data.toList)) (Ev.zero k)) W)) :=
    fun T l N a1 a2 a3 W hb a4 => readFields_any k h1 h2 B b T l N a1 a2 a3 W (hE.below hb) (hF.since (Since.of_below hb) (Nat.le_refl _)) a4
  have HWant : Hid (readS k s.data.toList = if headOf k <+: s.data.toList then (if (cutK ((fieldsOf k).length - 1) (s.data.toList.drop (headOf k).length)).length < (fieldsOf k).length then none else readAll (fieldsOf k) (cutK ((fieldsOf k).length - 1) (s.data.toList.drop (headOf k).length)) (Ev.zero k)) else none) := rfl
  have HCP := Tryz.strings_CutPrefix s (str (headOf k))
  rw [str_data] at HCP
  obtain ⟨want, hwant⟩ : ∃ o, readS k s.data.toList = o := ⟨_, rfl⟩
  rw [hwant] at HWant ⊢
  obtain ⟨fs, hfs⟩ : ∃ fs, fieldsOf k = fs := ⟨_, rfl⟩
  obtain ⟨hd, hhd⟩ : ∃ hd, headOf k = hd := ⟨_, rfl⟩
  unfold rowV at *
  rw [hfs] at n1 n2 hF HCut HRf HWant ⊢
  rw [hhd] at HCut HRf HWant HCP ⊢
  obtain ⟨ln, hln⟩ : ∃ ln, fs.length = ln := ⟨_, rfl⟩
  rw [hln] at n1 n2 HCut HRf HWant ⊢
  obtain ⟨bh, hbh⟩ : ∃ u, Lib.trimPrefix s.data.toList hd = u := ⟨_, rfl⟩
  have hbl : (str bh).size ≤ lim := by
    rw [str_size, ← hbh]
    unfold Lib.trimPrefix
    have := size_data s
    split
    · rw [List.length_drop]; omega
    · omega
  have HE : Hid (∀ o, Env ((w.alloc o).alloc (.cells (Ev.zero 0).vals 27))) := fun o => hE.below (below_new (below1 w o) (Nat.le_refl _) _)
  have HV : Hid (∀ o, EvAt ((w.alloc o).alloc (.cells (Ev.zero 0).vals 27)) (w.heap.size + 1) (Ev.zero 0)) := fun o => by
    have := EvAt.new (w.alloc o) (Ev.zero 0)
    rw [size1] at this
    exact this
  have HB : Hid (∀ o, Below w.heap.size w ((w.alloc o).alloc (.cells (Ev.zero 0).vals 27))) := fun o => below_new (below1 w o) (Nat.le_refl _) _
  have HC2 : Hid (∀ o, Calls Tryz.prog 29 #[.agg #[.int .i64 k, .string (str hd), .slice (some ⟨b, 0, none⟩) ln ln], .string (str bh)] ((w.alloc o).alloc (.cells (Ev.zero 0).vals 27)) fun e w' =>
      ∃ l N, e = .returned (.slice (some ⟨w.heap.size + 1 + 1 + 1, 0, none⟩) l.length N) ∧ l.length ≤ N ∧ TextsAt w' (w.heap.size + 1 + 1 + 1) l N ∧ Pieces ln (str bh) l ∧ Below ((w.alloc o).alloc (.cells (Ev.zero 0).vals 27)).heap.size ((w.alloc o).alloc (.cells (Ev.zero 0).vals 27)) w') := fun o => by
    have h := HCut.out ((w.alloc o).alloc (.cells (Ev.zero 0).vals 27)) (str bh) hbl (HE.out o)
    have hz : ((w.alloc o).alloc (.cells (Ev.zero 0).vals 27)).heap.size = w.heap.size + 1 + 1 := by rw [size1, size1]
    rw [hz] at h
    rw [hz]
    exact h
  cases hp : Lib.hasPrefix s.data.toList hd with
  | false =>
    have HW : Hid (want = none) := by
      show want = none
      rw [HWant.out, if_neg]
      intro h
      have : hd.isPrefixOf s.data.toList = true := List.isPrefixOf_iff_prefix.2 h
      unfold Lib.hasPrefix at hp
      rw [this] at hp
      cases hp
    have HP : Hid (∀ W, Calls Tryz.prog 28 #[.string s, .string (str hd)] W fun e w' => e = .returned (.tuple #[.string (str bh), .bool false]) ∧ W = w') := fun W => (HCP W).mono fun e w' ⟨a1, a2⟩ => ⟨by rw [a1, hbh, hp]; rfl, a2.symm⟩
    clear HCP hbh hp HWant HRf hF hE hwant hfs hhd hln HCut
    rw [zero_vals] at HV HB HE HC2
    go_enter Tryz.func17, Tryz.ntmps17
    go_wp2_with (first
      | (go_at_call 28; refine (HP.out _).mono ?_; rintro e w1 ⟨rfl, rfl⟩)
      | (go_at_call 29; refine (HC2.out _).mono ?_; rintro e w1 ⟨l, N, rfl, x1, x2, x3, x4⟩; have y := (HV.out _).below x4 (HV.out _).lt; obtain ⟨q0, q1, q2, q3, q4, q5, q6, q7, q8, q9, q10, q11, q12, q13⟩ := y.zcells; obtain ⟨f0, f1, f2, f3, f4, f5, f6, f7, f8, f9, f10, f11, f12, f13⟩ := y.frees; have HX : Hid (Below w.heap.size w w1) := (HB.out _).trans (x4.mono (HB.out _).size); clear x1 x2 x3 x4 y))
    refine bodyPost_ret (v := .tuple #[.agg #[.int .i64 0, .int .i64 0, .int .i64 0, .int .i64 0, .int .i64 0, .int .i64 0, .int .i64 0, .int .i64 0, .int .i64 0, .string ⟨#[]⟩, .string ⟨#[]⟩, .string ⟨#[]⟩, .string ⟨#[]⟩, .bool false], .bool false]) (by simp [results, Tryz.results17, go_sem, q0, q1, q2, q3, q4, q5, q6, q7, q8, q9, q10, q11, q12, q13]) rfl ?_
    unfold ReadPost
    rw [HW.out]
    exact ⟨rfl, below14 HX.out (by omega) _ _ _ _ _ _ _ _ _ _ _ _ _ _⟩
  | true =>
    have hpre : hd <+: s.data.toList := List.isPrefixOf_iff_prefix.1 hp
    have hbd : bh = s.data.toList.drop hd.length := by
      rw [← hbh]
      unfold Lib.trimPrefix
      rw [if_pos hp]
    rw [if_pos hpre, ← hbd] at HWant
    have HP : Hid (∀ W, Calls Tryz.prog 28 #[.string s, .string (str hd)] W fun e w' => e = .returned (.tuple #[.string (str bh), .bool true]) ∧ W = w') := fun W => (HCP W).mono fun e w' ⟨a1, a2⟩ => ⟨by rw [a1, hbh, hp]; rfl, a2.symm⟩
    have HFs : Hid (fs.length = ln) := hln
    clear HCP hbh hp hpre hbd hF hE hwant hfs hhd hln HCut
    rw [zero_vals] at HV HB HE HC2
    go_enter Tryz.func17, Tryz.ntmps17
    go_wp2_with (go_at_call 28; refine (HP.out _).mono ?_; rintro e w1 ⟨rfl, rfl⟩)
    refine (HC2.out _).mono ?_
    rintro e w1 ⟨l, N, rfl, x1, x2, x3, x4⟩
    have y := (HV.out _).below x4 (HV.out _).lt
    obtain ⟨q0, q1, q2, q3, q4, q5, q6, q7, q8, q9, q10, q11, q12, q13⟩ := y.zcells
    obtain ⟨f0, f1, f2, f3, f4, f5, f6, f7, f8, f9, f10, f11, f12, f13⟩ := y.frees
    have HY : Hid (EvAt w1 (w.heap.size + 1) (Ev.zero 0)) := y
    have HX : Hid (Below w.heap.size w w1) := (HB.out _).trans (x4.mono (HB.out _).size)
    have hrw := (hrow14 w _ _).symm.trans (x4.block w.heap.size (hlt14 w _ _)).symm
    have r0 := cell_at hrw.symm 0
    have r1 := cell_at hrw.symm 1
    have r2 := cell_at hrw.symm 2
    simp at r0 r1 r2
    have HL : Hid (l.map (·.data.toList) = cutK (ln - 1) bh) := x3
    have HLm : Hid (∀ t ∈ l, t.size ≤ lim) := fun t ht => by
      have h3 := cutK_le (ln - 1) bh t.data.toList (by rw [← HL.out]; exact List.mem_map.2 ⟨t, ht, rfl⟩)
      rw [size_data] at h3
      rw [str_size] at hbl
      omega
    have hle : l.length ≤ ln := by
      have h4 := cutK_length (ln - 1) bh
      rw [← HL.out, List.length_map] at h4
      omega
    have HLl : Hid ((cutK (ln - 1) bh).length = l.length) := by show _ = _; rw [← HL.out, List.length_map]
    have HTx : Hid (TextsAt w1 (w.heap.size + 1 + 1 + 1) l N) := x2
    have HN : Hid (l.length ≤ N) := x1
    clear x1 x2 x3 x4 y hrw HC2 HP HV HB HE
    by_cases hshort : l.length < ln
    · have HW : Hid (want = none) := by show want = none; rw [HWant.out, HLl.out, if_pos hshort]
      go_wp2
      refine bodyPost_ret (v := .tuple #[.agg #[.int .i64 0, .int .i64 0, .int .i64 0, .int .i64 0, .int .i64 0, .int .i64 0, .int .i64 0, .int .i64 0, .int .i64 0, .string ⟨#[]⟩, .string ⟨#[]⟩, .string ⟨#[]⟩, .string ⟨#[]⟩, .bool false], .bool false]) (by simp [results, Tryz.results17, go_sem, q0, q1, q2, q3, q4, q5, q6, q7, q8, q9, q10, q11, q12, q13]) rfl ?_
      unfold ReadPost
      rw [HW.out]
      exact ⟨rfl, below14 HX.out (by omega) _ _ _ _ _ _ _ _ _ _ _ _ _ _⟩
    · have HW : Hid (want = readAll fs (l.map (·.data.toList)) (Ev.zero k)) := by show want = _; rw [HWant.out, HLl.out, if_neg hshort, HL.out]
      have HR2 := HRf.out (w.heap.size + 1 + 1 + 1) l N HN.out hle HLm.out w1 HX.out HTx.out
      rw [← HW.out] at HR2
      have HR3 : Hid (Calls Tryz.prog 30 #[.agg #[.int .i64 k, .string (str hd), .slice (some ⟨b, 0, none⟩) ln ln], .slice (some ⟨w.heap.size + 1 + 1 + 1, 0, none⟩) l.length N] w1 (ReadPost want w1)) := HR2
      clear HR2 HRf HWant HL HLm HLl HTx HN HW
      go_wp2_with fail
      refine HR3.out.mono ?_
      rintro e w2 ⟨he, hb2⟩
      have y := HY.out.below hb2 HY.out.lt
      clear q0 q1 q2 q3 q4 q5 q6 q7 q8 q9 q10 q11 q12 q13 f0 f1 f2 f3 f4 f5 f6 f7 f8 f9 f10 f11 f12 f13
      obtain ⟨q0, q1, q2, q3, q4, q5, q6, q7, q8, q9, q10, q11, q12, q13⟩ := y.zcells
      obtain ⟨f0, f1, f2, f3, f4, f5, f6, f7, f8, f9, f10, f11, f12, f13⟩ := y.frees
      have HX2 : Hid (Below w.heap.size w w2) := HX.out.trans (hb2.mono HX.out.size)
      clear hb2 y HR3 HY HX
      cases want with
      | none =>
        replace he : e = .returned (.tuple #[.agg #[.int .i64 0, .int .i64 0, .int .i64 0, .int .i64 0, .int .i64 0, .int .i64 0, .int .i64 0, .int .i64 0, .int .i64 0, .string ⟨#[]⟩, .string ⟨#[]⟩, .string ⟨#[]⟩, .string ⟨#[]⟩, .bool false], .bool false]) := he
        subst he
        go_wp2
        refine bodyPost_ret (v := .tuple #[.agg #[.int .i64 0, .int .i64 0, .int .i64 0, .int .i64 0, .int .i64 0, .int .i64 0, .int .i64 0, .int .i64 0, .int .i64 0, .string ⟨#[]⟩, .string ⟨#[]⟩, .string ⟨#[]⟩, .string ⟨#[]⟩, .bool false], .bool false]) (by simp [results, Tryz.results17, go_sem, q0, q1, q2, q3, q4, q5, q6, q7, q8, q9, q10, q11, q12, q13]) rfl ?_
        exact ⟨rfl, below14 HX2.out (by omega) _ _ _ _ _ _ _ _ _ _ _ _ _ _⟩
      | some ev =>
        replace he : e = .returned (.tuple #[.agg #[.int .i64 ev.kind, .int .i64 ev.session, .int .i64 ev.window, .int .i64 ev.pane, .int .i64 ev.index, .int .i64 ev.offset, .int .i64 ev.tick, .int .i64 ev.number, .int .i64 ev.flag, .string ev.name, .string ev.text, .string ev.layout, .string ev.visible, .bool ev.zoom], .bool true]) := he
        subst he
        go_wp2
        refine bodyPost_ret (v := .tuple #[.agg #[.int .i64 ev.kind, .int .i64 ev.session, .int .i64 ev.window, .int .i64 ev.pane, .int .i64 ev.index, .int .i64 ev.offset, .int .i64 ev.tick, .int .i64 ev.number, .int .i64 ev.flag, .string ev.name, .string ev.text, .string ev.layout, .string ev.visible, .bool ev.zoom], .bool true]) (by simp [results, Tryz.results17, go_sem, q0, q1, q2, q3, q4, q5, q6, q7, q8, q9, q10, q11, q12, q13]) rfl ?_
        exact ⟨rfl, below14 HX2.out (by omega) _ _ _ _ _ _ _ _ _ _ _ _ _ _⟩

end Go.Proofs.YtplolaondmeccaaGreatDoor
