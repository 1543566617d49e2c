/-
  Options, the document's side: its row of a name; place.
-/
import Derived.Test.YtgdkpmfdpfjdjaaGreatDoorJJ
import Derived.Test.YtgdkpmfdpfjdjaaGreatDoorHX
namespace Go.Proofs.YtgdkpmfdpfjdjaaGreatDoor
open Go.RowKit Go.Maps
set_option linter.unusedVariables false
set_option maxRecDepth 100000

def kbOf : Kd → Int
  | .num _ _ => 110
  | .txt => 116
  | .key => 107
  | .flag => 102
  | .cho _ => 99
def loOf : Kd → Int
  | .num lo _ => lo
  | _ => 0
def hiOf : Kd → Int
  | .num _ hi => hi
  | _ => 0
/-- A row's value, its words in memory. -/
def WordsAt (w : World) (kd : Kd) (ad : Option Addr) (m : Nat) : Prop := ∀ ws, kd = .cho ws → ∃ g, ad = some ⟨g, 0, none⟩ ∧ m = ws.length ∧ w.heap[g]? = some (.cells (ws.map Value.string).toArray 9 (0, 0))
theorem WordsAt.below {w w' : World} {kd : Kd} {ad : Option Addr} {m : Nat} (h : WordsAt w kd ad m) (hb : Below w.heap.size w w') : WordsAt w' kd ad m := fun ws e => by
  obtain ⟨g, h1, h2, h3⟩ := h ws e
  exact ⟨g, h1, h2, kpO hb h3⟩
def rowA (r : Orow) (ad : Option Addr) (m : Nat) : Value := .agg #[.string r.name, .int .i64 r.scope, .int .u8 (kbOf r.kd), .int .i64 (loOf r.kd), .int .i64 (hiOf r.kd), .slice ad m m, .string r.first]
def wsA : List ByteArray := [⟨#[112, 108, 97, 105, 110]⟩, ⟨#[114, 101, 118, 101, 114, 115, 101]⟩, ⟨#[98, 111, 108, 100]⟩]
def wsB : List ByteArray := [⟨#[108, 105, 110, 101]⟩, ⟨#[100, 111, 117, 98, 108, 101]⟩, ⟨#[98, 108, 97, 110, 107]⟩]
def wsC : List ByteArray := [⟨#[98, 111, 116, 116, 111, 109]⟩, ⟨#[116, 111, 112]⟩]
theorem cho_rows : ∀ i : Fin rowsO.length, (match rowsO[i].kd with
    | .cho ws => (decide (i.val = 6) && decide (ws = wsA)) || (decide (i.val = 8) && decide (ws = wsB)) || (decide (i.val = 15) && decide (ws = wsC))
    | _ => true) = true := by decide
theorem docA_row {Y : World} {b i : Nat} (hi : i < rowsO.length) (d : DocRows Y b) : ∃ ad m, docA (wpO b i) rowsO[i] = rowA rowsO[i] ad m ∧ WordsAt Y rowsO[i].kd ad m := by
  have hc := cho_rows ⟨i, hi⟩
  obtain ⟨r, hr⟩ : ∃ r, rowsO[i] = r := ⟨_, rfl⟩
  have hc' : (match r.kd with
    | .cho ws => (decide (i = 6) && decide (ws = wsA)) || (decide (i = 8) && decide (ws = wsB)) || (decide (i = 15) && decide (ws = wsC))
    | _ => true) = true := hr ▸ hc
  rw [hr]
  clear hc
  unfold docA docV rowA
  cases hk : r.kd with
  | num lo hi' => exact ⟨none, 0, rfl, fun ws e => by cases e⟩
  | txt => exact ⟨none, 0, rfl, fun ws e => by cases e⟩
  | key => exact ⟨none, 0, rfl, fun ws e => by cases e⟩
  | flag => exact ⟨none, 0, rfl, fun ws e => by cases e⟩
  | cho ws =>
    rw [hk] at hc'
    refine ⟨some ⟨wpO b i, 0, none⟩, ws.length, rfl, fun ws' e => ?_⟩
    cases e
    refine ⟨_, rfl, rfl, ?_⟩
    simp only [Bool.or_eq_true, Bool.and_eq_true, decide_eq_true_eq] at hc'
    rcases hc' with (⟨rfl, rfl⟩ | ⟨rfl, rfl⟩) | ⟨rfl, rfl⟩
    · exact d.w0
    · exact d.w1
    · exact d.w2
/-- What Row1 tells. -/
structure R1P (w : World) (k : ByteArray) (e : Ending) (w' : World) : Prop where
  below : Below w.heap.size w w'
  told : (∃ r ad m, rowO k = some r ∧ WordsAt w' r.kd ad m ∧ e = .returned (.tuple #[rowA r ad m, .bool true])) ∨ (rowO k = none ∧ e = .returned (.tuple #[.agg #[.string ⟨#[]⟩, .int .i64 0, .int .u8 0, .int .i64 0, .int .i64 0, .slice none 0 0, .string ⟨#[]⟩], .bool false]))
theorem rRow_any (k : ByteArray) (w : World) : Calls Tryz.prog 24 #[.string k] w fun e w' => R1P w k e w' := by
  refine (row1_any k w).mono ?_
  rintro e w' ⟨h, hb⟩
  refine ⟨hb, ?_⟩
  rcases h with ⟨i, hi, hn, b, _, he, hd⟩ | ⟨hno, he⟩
  · obtain ⟨ad, m, h1, h2⟩ := docA_row hi hd
    rw [h1] at he
    exact .inl ⟨_, ad, m, rowO_some (List.getElem_mem hi) hn, h2, he⟩
  · exact .inr ⟨rowO_none hno, he⟩
/-- What place tells. -/
structure PlP (w : World) (sc id : Int) (k : ByteArray) (e : Ending) (w' : World) : Prop where
  below : Below w.heap.size w w'
  told : (∃ r ad m, rowO k = some r ∧ WordsAt w' r.kd ad m ∧ e = .returned (.tuple #[rowA r ad m, .int .i64 (placeF sc id k)])) ∨ (rowO k = none ∧ e = .returned (.tuple #[.agg #[.string ⟨#[]⟩, .int .i64 0, .int .u8 0, .int .i64 0, .int .i64 0, .slice none 0 0, .string ⟨#[]⟩], .int .i64 230]))
theorem seven_below {w W : World} {g : Nat} (h : Below w.heap.size w W) (hg : w.heap.size ≤ g) (v0 v1 v2 v3 v4 v5 v6 : Value) : Below w.heap.size w (((((((W.setCell ⟨g, 0, none⟩ v0).setCell ⟨g, 1, none⟩ v1).setCell ⟨g, 2, none⟩ v2).setCell ⟨g, 3, none⟩ v3).setCell ⟨g, 4, none⟩ v4).setCell ⟨g, 5, none⟩ v5).setCell ⟨g, 6, none⟩ v6) :=
  ((((((h.setCell hg _).setCell hg _).setCell hg _).setCell hg _).setCell hg _).setCell hg _).setCell hg _
theorem seven_other {W : World} {i g : Nat} {o : Option Obj} (h : W.heap[i]? = o) (hn : i ≠ g) (v0 v1 v2 v3 v4 v5 v6 : Value) : (((((((W.setCell ⟨g, 0, none⟩ v0).setCell ⟨g, 1, none⟩ v1).setCell ⟨g, 2, none⟩ v2).setCell ⟨g, 3, none⟩ v3).setCell ⟨g, 4, none⟩ v4).setCell ⟨g, 5, none⟩ v5).setCell ⟨g, 6, none⟩ v6).heap[i]? = o :=
  put_other (put_other (put_other (put_other (put_other (put_other (put_other h hn _ _) hn _ _) hn _ _) hn _ _) hn _ _) hn _ _) hn _ _
theorem WordsAt.seven {W : World} {kd : Kd} {ad : Option Addr} {m g : Nat} {cs : Array Value} {T : TypeId} (h : WordsAt W kd ad m) (hg : W.heap[g]? = some (.cells cs T (0, 0))) (hT : T ≠ 9) (v0 v1 v2 v3 v4 v5 v6 : Value) : WordsAt (((((((W.setCell ⟨g, 0, none⟩ v0).setCell ⟨g, 1, none⟩ v1).setCell ⟨g, 2, none⟩ v2).setCell ⟨g, 3, none⟩ v3).setCell ⟨g, 4, none⟩ v4).setCell ⟨g, 5, none⟩ v5).setCell ⟨g, 6, none⟩ v6) kd ad m := fun ws e => by
  obtain ⟨q, h1, h2, h3⟩ := h ws e
  refine ⟨q, h1, h2, seven_other h3 (fun e => ?_) _ _ _ _ _ _ _⟩
  rw [e, hg] at h3
  cases h3
  exact hT rfl
set_option maxHeartbeats 16000000 in
theorem rPlace_any (sc id : Int) (k : ByteArray) (w : World) : Calls Tryz.prog 51 #[.int .i64 sc, .int .i64 id, .string k] w fun e w' => PlP w sc id k e w' := by
  obtain ⟨W1, hW1, a1, b1, s1⟩ := two_blk (w := w) #[.string ⟨#[]⟩, .int .i64 0, .int .u8 0, .int .i64 0, .int .i64 0, .slice none 0 0, .string ⟨#[]⟩] 56
  obtain ⟨Q, hQ⟩ : ∃ q, w.heap.size = q := ⟨_, rfl⟩
  rw [hQ] at a1
  have HQ : Hid (w.heap.size ≤ Q ∧ Q < W1.heap.size) := ⟨Nat.le_of_eq hQ, lt_block a1⟩
  have HB := hidK b1
  have HA := hidK a1
  have HR := hidK (rRow_any k W1)
  clear a1 b1 s1
  go_enter Tryz.func51, Tryz.ntmps51
  go_wp2_with fail
  clear hW1 hQ
  refine HR.out.mono ?_
  rintro e Y hP
  have HBy := hidK (bst HB.out hP.below)
  have hq := kpO hP.below HA.out
  have HQy : Hid (W1.heap.size ≤ Y.heap.size) := hP.below.size
  have ht := hP.told
  clear hP HR
  rcases ht with ⟨r, ad, m, hr, hw, rfl⟩ | ⟨hr, rfl⟩
  · unfold rowA
    obtain ⟨nm, hnm⟩ : ∃ x, r.name = x := ⟨_, rfl⟩
    obtain ⟨rs, hrs⟩ : ∃ x, r.scope = x := ⟨_, rfl⟩
    obtain ⟨kb, hkb⟩ : ∃ x, kbOf r.kd = x := ⟨_, rfl⟩
    obtain ⟨lo, hlo⟩ : ∃ x, loOf r.kd = x := ⟨_, rfl⟩
    obtain ⟨hi, hhi⟩ : ∃ x, hiOf r.kd = x := ⟨_, rfl⟩
    obtain ⟨fs, hfs⟩ : ∃ x, r.first = x := ⟨_, rfl⟩
    have HRw : Hid (rowA r ad m = .agg #[.string nm, .int .i64 rs, .int .u8 kb, .int .i64 lo, .int .i64 hi, .slice ad m m, .string fs]) := by show _ = _; unfold rowA; rw [hnm, hrs, hkb, hlo, hhi, hfs]
    obtain ⟨pc, hpc⟩ : ∃ x, placeF sc id k = x := ⟨_, rfl⟩
    have HPe := hidK hpc
    have HPl : Hid (pc = if isOfB rs sc = false then 231 else if idBad sc id = true then 1 else 0) := hpc ▸ (hrs ▸ placeF_row hr)
    rw [hnm, hrs, hkb, hlo, hhi, hfs]
    obtain ⟨V, hV, av, bv, sv⟩ := two_blk (w := Y) #[.string nm, .int .i64 rs, .int .u8 kb, .int .i64 lo, .int .i64 hi, .slice ad m m, .string fs] 56
    obtain ⟨q, hq0⟩ : ∃ q, Y.heap.size = q := ⟨_, rfl⟩
    rw [hq0] at av
    have hqv := kpO bv hq
    have HQv := hidK hqv
    have HVb : Hid (Below w.heap.size w V) := bst HBy.out bv
    have HWo : Hid (WordsAt V r.kd ad m) := hw.below bv
    have hne : ¬ Q = q := by have h1 := HQ.out; have h2 := HQy.out; omega
    have hne2 : ¬ q = Q := fun e => hne e.symm
    have x0 := cell_at av 0
    have x1 := cell_at av 1
    have x2 := cell_at av 2
    have x3 := cell_at av 3
    have x4 := cell_at av 4
    have x5 := cell_at av 5
    have x6 := cell_at av 6
    have y0 := cell_at hqv 0
    have y1 := cell_at hqv 1
    have y2 := cell_at hqv 2
    have y3 := cell_at hqv 3
    have y4 := cell_at hqv 4
    have y5 := cell_at hqv 5
    have y6 := cell_at hqv 6
    have z0 := free_at hqv 0
    have z1 := free_at hqv 1
    have z2 := free_at hqv 2
    have z3 := free_at hqv 3
    have z4 := free_at hqv 4
    have z5 := free_at hqv 5
    have z6 := free_at hqv 6
    have HR := hidK hr
    clear hpc hnm hrs hkb hlo hhi hfs av bv sv hqv hq hw hr
    by_cases e1 : rs = sc
    · have e1b : (rs == sc) = true := by simpa using e1
      subst e1
      by_cases h1 : id < 0
      · have HPc : Hid (pc = 1) := by show _ = _; rw [HPl.out]; simp [isOfB, idBad, h1]
        go_wp2_with fail
        refine ret_cellO rfl rfl (seven_set HQv.out _ _ _ _ _ _ _) Tryz.underlying56 rfl infoRow rfl ⟨seven_below HVb.out HQ.out.1 _ _ _ _ _ _ _, .inl ⟨r, ad, m, HR.out, HWo.out.seven HQv.out (by decide) _ _ _ _ _ _ _, by rw [HRw.out, HPe.out, HPc.out]; rfl⟩⟩
      · by_cases h2 : (4611686018427387904 : Int) < id
        · have HPc : Hid (pc = 1) := by show _ = _; rw [HPl.out]; simp [isOfB, idBad, h2]
          go_wp2_with fail
          refine ret_cellO rfl rfl (seven_set HQv.out _ _ _ _ _ _ _) Tryz.underlying56 rfl infoRow rfl ⟨seven_below HVb.out HQ.out.1 _ _ _ _ _ _ _, .inl ⟨r, ad, m, HR.out, HWo.out.seven HQv.out (by decide) _ _ _ _ _ _ _, by rw [HRw.out, HPe.out, HPc.out]; rfl⟩⟩
        · by_cases h3 : id = 0
          · subst h3
            have HPc : Hid (pc = 0) := by show _ = _; rw [HPl.out]; simp [isOfB, idBad]
            go_wp2_with fail
            refine ret_cellO rfl rfl (seven_set HQv.out _ _ _ _ _ _ _) Tryz.underlying56 rfl infoRow rfl ⟨seven_below HVb.out HQ.out.1 _ _ _ _ _ _ _, .inl ⟨r, ad, m, HR.out, HWo.out.seven HQv.out (by decide) _ _ _ _ _ _ _, by rw [HRw.out, HPe.out, HPc.out]; rfl⟩⟩
          · have h5 : (0 : Int) < id := by omega
            have h6 : (id == 0) = false := by simpa using h3
            have h7 : (id != 0) = true := by simpa using h3
            have k1 : decide (id < 0) = false := decide_eq_false h1
            have k2 : decide ((4611686018427387904 : Int) < id) = false := decide_eq_false h2
            by_cases h4 : rs = 1
            · subst h4
              have HPc : Hid (pc = 1) := by show _ = _; rw [HPl.out]; simp [isOfB, idBad, h5]
              go_wp2_with fail
              refine ret_cellO rfl rfl (seven_set HQv.out _ _ _ _ _ _ _) Tryz.underlying56 rfl infoRow rfl ⟨seven_below HVb.out HQ.out.1 _ _ _ _ _ _ _, .inl ⟨r, ad, m, HR.out, HWo.out.seven HQv.out (by decide) _ _ _ _ _ _ _, by rw [HRw.out, HPe.out, HPc.out]; rfl⟩⟩
            · have k4 : (rs == 1) = false := by simpa using h4
              have HPc : Hid (pc = 0) := by show _ = _; rw [HPl.out]; simp [isOfB, idBad, h1, h2, h5, h4]
              go_wp2_with fail
              refine ret_cellO rfl rfl (seven_set HQv.out _ _ _ _ _ _ _) Tryz.underlying56 rfl infoRow rfl ⟨seven_below HVb.out HQ.out.1 _ _ _ _ _ _ _, .inl ⟨r, ad, m, HR.out, HWo.out.seven HQv.out (by decide) _ _ _ _ _ _ _, by rw [HRw.out, HPe.out, HPc.out]; rfl⟩⟩
    · have e1b : (rs == sc) = false := by simpa using e1
      have e1c : ¬ sc = rs := fun e => e1 e.symm
      by_cases e2 : rs = 4
      · subst e2
        by_cases e3 : sc = 3
        · subst e3
          by_cases h1 : id < 0
          · have HPc : Hid (pc = 1) := by show _ = _; rw [HPl.out]; simp [isOfB, idBad, h1]
            go_wp2_with fail
            refine ret_cellO rfl rfl (seven_set HQv.out _ _ _ _ _ _ _) Tryz.underlying56 rfl infoRow rfl ⟨seven_below HVb.out HQ.out.1 _ _ _ _ _ _ _, .inl ⟨r, ad, m, HR.out, HWo.out.seven HQv.out (by decide) _ _ _ _ _ _ _, by rw [HRw.out, HPe.out, HPc.out]; rfl⟩⟩
          · by_cases h2 : (4611686018427387904 : Int) < id
            · have HPc : Hid (pc = 1) := by show _ = _; rw [HPl.out]; simp [isOfB, idBad, h2]
              go_wp2_with fail
              refine ret_cellO rfl rfl (seven_set HQv.out _ _ _ _ _ _ _) Tryz.underlying56 rfl infoRow rfl ⟨seven_below HVb.out HQ.out.1 _ _ _ _ _ _ _, .inl ⟨r, ad, m, HR.out, HWo.out.seven HQv.out (by decide) _ _ _ _ _ _ _, by rw [HRw.out, HPe.out, HPc.out]; rfl⟩⟩
            · by_cases h3 : id = 0
              · subst h3
                have HPc : Hid (pc = 0) := by show _ = _; rw [HPl.out]; simp [isOfB, idBad]
                go_wp2_with fail
                refine ret_cellO rfl rfl (seven_set HQv.out _ _ _ _ _ _ _) Tryz.underlying56 rfl infoRow rfl ⟨seven_below HVb.out HQ.out.1 _ _ _ _ _ _ _, .inl ⟨r, ad, m, HR.out, HWo.out.seven HQv.out (by decide) _ _ _ _ _ _ _, by rw [HRw.out, HPe.out, HPc.out]; rfl⟩⟩
              · have h5 : (0 : Int) < id := by omega
                have h6 : (id == 0) = false := by simpa using h3
                have h7 : (id != 0) = true := by simpa using h3
                have k1 : decide (id < 0) = false := decide_eq_false h1
                have k2 : decide ((4611686018427387904 : Int) < id) = false := decide_eq_false h2
                have HPc : Hid (pc = 0) := by show _ = _; rw [HPl.out]; simp [isOfB, idBad, h1, h2, h5]
                go_wp2_with fail
                refine ret_cellO rfl rfl (seven_set HQv.out _ _ _ _ _ _ _) Tryz.underlying56 rfl infoRow rfl ⟨seven_below HVb.out HQ.out.1 _ _ _ _ _ _ _, .inl ⟨r, ad, m, HR.out, HWo.out.seven HQv.out (by decide) _ _ _ _ _ _ _, by rw [HRw.out, HPe.out, HPc.out]; rfl⟩⟩
        · have e3b : (sc == 3) = false := by simpa using e3
          have HPc : Hid (pc = 231) := by show _ = _; rw [HPl.out]; simp [isOfB, e1c, e3]
          go_wp2_with fail
          refine ret_cellO rfl rfl (seven_set HQv.out _ _ _ _ _ _ _) Tryz.underlying56 rfl infoRow rfl ⟨seven_below HVb.out HQ.out.1 _ _ _ _ _ _ _, .inl ⟨r, ad, m, HR.out, HWo.out.seven HQv.out (by decide) _ _ _ _ _ _ _, by rw [HRw.out, HPe.out, HPc.out]; rfl⟩⟩
      · have HPc : Hid (pc = 231) := by show _ = _; rw [HPl.out]; simp [isOfB, e1c, e2]
        go_wp2_with fail
        refine ret_cellO rfl rfl (seven_set HQv.out _ _ _ _ _ _ _) Tryz.underlying56 rfl infoRow rfl ⟨seven_below HVb.out HQ.out.1 _ _ _ _ _ _ _, .inl ⟨r, ad, m, HR.out, HWo.out.seven HQv.out (by decide) _ _ _ _ _ _ _, by rw [HRw.out, HPe.out, HPc.out]; rfl⟩⟩
  · have HR := hidK hr
    obtain ⟨V, hV, av, bv, sv⟩ := two_blk (w := Y) #[.string ⟨#[]⟩, .int .i64 0, .int .u8 0, .int .i64 0, .int .i64 0, .slice none 0 0, .string ⟨#[]⟩] 56
    obtain ⟨q, hq0⟩ : ∃ q, Y.heap.size = q := ⟨_, rfl⟩
    rw [hq0] at av
    have hqv := kpO bv hq
    have HQv := hidK hqv
    have HVb : Hid (Below w.heap.size w V) := bst HBy.out bv
    have hne : ¬ Q = q := by have h1 := HQ.out; have h2 := HQy.out; omega
    have HQge : Hid (w.heap.size ≤ q) := by have h1 := HBy.out.size; show _ ≤ _; omega
    have hne2 : ¬ q = Q := fun e => hne e.symm
    have uz0 := free_at av 0
    have uz1 := free_at av 1
    have uz2 := free_at av 2
    have uz3 := free_at av 3
    have uz4 := free_at av 4
    have uz5 := free_at av 5
    have uz6 := free_at av 6
    have x0 := cell_at av 0
    have x1 := cell_at av 1
    have x2 := cell_at av 2
    have x3 := cell_at av 3
    have x4 := cell_at av 4
    have x5 := cell_at av 5
    have x6 := cell_at av 6
    have y0 := cell_at hqv 0
    have y1 := cell_at hqv 1
    have y2 := cell_at hqv 2
    have y3 := cell_at hqv 3
    have y4 := cell_at hqv 4
    have y5 := cell_at hqv 5
    have y6 := cell_at hqv 6
    have z0 := free_at hqv 0
    have z1 := free_at hqv 1
    have z2 := free_at hqv 2
    have z3 := free_at hqv 3
    have z4 := free_at hqv 4
    have z5 := free_at hqv 5
    have z6 := free_at hqv 6
    clear av bv sv hqv hq hr
    go_wp2_with fail
    refine ret_cellO rfl rfl (seven_set (seven_other HQv.out hne _ _ _ _ _ _ _) _ _ _ _ _ _ _) Tryz.underlying56 rfl infoRow rfl ⟨seven_below (seven_below HVb.out HQge.out _ _ _ _ _ _ _) HQ.out.1 _ _ _ _ _ _ _, .inr ⟨HR.out, rfl⟩⟩
end Go.Proofs.YtgdkpmfdpfjdjaaGreatDoor
