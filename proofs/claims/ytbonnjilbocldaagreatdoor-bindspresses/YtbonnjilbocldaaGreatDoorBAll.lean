/-
  Binds: rows bound one behind the other.
-/
import Derived.Test.YtbonnjilbocldaaGreatDoorBPre
import Derived.Test.YtbonnjilbocldaaGreatDoorHE
namespace Go.Proofs.YtbonnjilbocldaaGreatDoor
open Go.RowKit
set_option linter.unusedVariables false
set_option maxRecDepth 100000

/-- The tables behind a Bind. -/
def bndD (D : DataW Unit) (t : ByteArray) (c m : Int) (rp : Bool) (ln : ByteArray) : DataW Unit :=
  if wordB t = false ∨ validB c m = false ∨ 8192 < ln.size ∨ (Maps.has D (slotK t.data.toList c m) = false ∧ 200 ≤ Maps.size D) then D else D.put (slotK t.data.toList c m) (meanD ln rp)
theorem Tb.mono {w : World} {d b n n' : Nat} {D : DataW Unit} (h : Tb w d b n D) (hn : n ≤ n') : Tb w d b n' D := ⟨h.blk, h.own.mono hn, h.short⟩
theorem Tn.of {w w' : World} {d b n : Nat} {D : DataW Unit} (h : Tb w d b n D) (hb : Below w.heap.size w w') : Tn w w' d b (n + 1) D := ⟨(h.more hb).mono (Nat.le_succ _), But.of hb⟩
theorem bind_tn {w : World} {d b n : Nat} {D : DataW Unit} (h : Tb w d b n D) (hn : n ≤ 1000000) (t ln : ByteArray) (c m : Int) (rp : Bool) (ht : t.size ≤ 140737488355328) (hln : ln.size ≤ 140737488355328) (hc : (Lit.int .i64 c).wf = true) (hm : (Lit.int .i64 m).wf = true) :
    Calls Tryz.prog 11 #[.pointer (some ⟨d, 0, none⟩), .agg #[.string t, .int .i64 c, .int .i64 m, .bool rp, .string ln]] w fun e w' => (∃ k, e = .returned (.int .i64 k)) ∧ Tn w w' d b (n + 1) (bndD D t c m rp ln) := by
  refine (bind_any h hn t ln c m rp ht hln hc hm).mono fun e w' hp => ?_
  unfold bndP at hp
  unfold bndD
  split at hp
  · rename_i h1
    rw [if_pos (.inl h1)]
    exact ⟨⟨_, hp.1⟩, Tn.of h hp.2⟩
  · rename_i h1
    split at hp
    · rename_i h2
      rw [if_pos (.inr (.inl h2))]
      exact ⟨⟨_, hp.1⟩, Tn.of h hp.2⟩
    · rename_i h2
      split at hp
      · rename_i h3
        rw [if_pos (.inr (.inr (.inl h3)))]
        exact ⟨⟨_, hp.1⟩, Tn.of h hp.2⟩
      · rename_i h3
        split at hp
        · rename_i h4
          rw [if_pos (.inr (.inr (.inr h4)))]
          exact ⟨⟨_, hp.1⟩, Tn.of h hp.2⟩
        · rename_i h4
          rw [if_neg (by rintro (q | q | q | q); exact h1 q; exact h2 q; exact h3 q; exact h4 q)]
          exact ⟨⟨_, hp.1⟩, hp.2⟩
/-- A row of the beginning, with the key that its name means. -/
structure Rw where
  key : ByteArray
  line : ByteArray
  c : Int
  m : Int
def Rw.ok (r : Rw) : Prop := readF r.key.data.toList = some (r.c, r.m) ∧ (Lit.int .i64 r.c).wf = true ∧ (Lit.int .i64 r.m).wf = true ∧ r.key.size ≤ 1000 ∧ r.line.size ≤ 8192
def allD (D : DataW Unit) (t : ByteArray) (rp : Bool) (l : List Rw) : DataW Unit := l.foldl (fun D r => bndD D t r.c r.m rp r.line) D
/-- Rows in memory. -/
def SeeR (w : World) (v : Value) (l : List Rw) : Prop := ∃ g o c, v = .slice (some ⟨g, o, none⟩) l.length c ∧ ∀ j (hj : j < l.length), w.cell? ⟨g, o + j * 2, none⟩ = some (.string l[j].key) ∧ w.cell? ⟨g, o + j * 2 + 1, none⟩ = some (.string l[j].line)
theorem Tn.go {w w1 w2 : World} {d b n' : Nat} {D' : DataW Unit} (h : But [b] w w1) (k : Tn w1 w2 d b n' D') : Tn w w2 d b n' D' := ⟨k.tb, h.trans k.but⟩
theorem But.cellB {w w' : World} {b g o : Nat} {v : Value} (h : But [b] w w') (hg : g ≠ b) (hc : w.cell? ⟨g, o, none⟩ = some v) : w'.cell? ⟨g, o, none⟩ = some v := by
  have hlt := World.block_lt_of_cell? w _ hc
  have e := h.block g hlt (by simpa using hg)
  simp only [World.cell?] at hc ⊢
  rw [e]
  exact hc
theorem Tabs.but {w w' : World} {b : Nat} (hT : Tabs w) (h : But [b] w w') (hb : 5 < b) : Tabs w' := by
  have hc : ∀ (g o : Nat) (u : Value), g ≤ 5 → w.cell? ⟨g, o, none⟩ = some u → w'.cell? ⟨g, o, none⟩ = some u := fun g o u hg hu => h.cellB (by omega) hu
  exact ⟨fun j v hv => hc _ _ _ (by decide) (hT.sp j v hv), fun j v hv => hc _ _ _ (by decide) (hT.nm j v hv), fun j v hv => hc _ _ _ (by decide) (hT.md j v hv),
    fun c hc2 => hc _ _ _ (by decide) (hT.u8.1 c hc2), fun i hi => ⟨hc _ _ _ (by decide) (hT.u8.2 i hi).1, hc _ _ _ (by decide) (hT.u8.2 i hi).2⟩⟩
theorem allD_snoc (D : DataW Unit) (t : ByteArray) (rp : Bool) (l : List Rw) (r : Rw) : allD D t rp (l ++ [r]) = bndD (allD D t rp l) t r.c r.m rp r.line := by
  unfold allD
  rw [List.foldl_append]
  rfl
theorem str_self (t : ByteArray) : str t.data.toList = t := by first | rfl | (apply ByteArray.ext; simp [str])
set_option maxHeartbeats 8000000 in
theorem bindAll_any {w : World} {d b n : Nat} {D : DataW Unit} (h : Tb w d b n D) (hT : Tabs w) (hTb : 5 < b) (t : ByteArray) (rp : Bool) (v : Value) (l : List Rw) (hv : SeeR w v l) (hl : ∀ r ∈ l, r.ok) (hn : n + l.length ≤ 1000000) (ht : t.size ≤ 140737488355328) (hgb : ∀ g, v.ownBlock = some g → g ≠ b) :
    Calls Tryz.prog 25 #[.pointer (some ⟨d, 0, none⟩), .string t, .bool rp, v] w fun e w' => e = .returned (.tuple #[]) ∧ Tn w w' d b (n + l.length) (allD D t rp l) := by
  obtain ⟨g, o, cp, rfl, hcell⟩ := hv
  have hgb2 : g ≠ b := hgb g rfl
  obtain ⟨N, hN⟩ : ∃ N, l.length = N := ⟨_, rfl⟩
  have HN := hidK hN
  have HCe := hidK hcell
  have HTb := hidK h
  have HL := hidK hl
  have HT := hidK (And.intro hT hTb)
  have HPo : Hid (∀ w', Tn w w' d b (n + N) (allD D t rp l) → Tn w w' d b (n + l.length) (allD D t rp l)) := fun w' q => by rw [hN]; exact q
  rw [hN] at hn ⊢
  clear hcell h hl hT hN hgb
  go_enter Tryz.func25, Tryz.ntmps25
  go_wp2_with fail
  go_loopw [14] (fun iv wr => ∃ k : Nat, k ≤ N ∧ iv = .int .i64 k ∧ Hid (Tn w wr d b (n + k) (allD D t rp (l.take k)))) (fun iv _ => N - (intOf iv).toNat)
  case atStart => exact ⟨0, Nat.zero_le _, rfl, ⟨HTb.out, But.refl _ _⟩⟩
  case round =>
    obtain ⟨k, hk, rfl, HR⟩ := hrel
    by_cases hlt : k < N
    · have hka : k < l.length := by rw [HN.out]; exact hlt
      obtain ⟨b1, b2⟩ := HCe.out k hka
      have hok := HL.out _ (List.getElem_mem hka)
      have hsn : l.take (k + 1) = l.take k ++ [l[k]] := List.take_succ_eq_append_getElem hka
      obtain ⟨R, hR⟩ : ∃ R, l[k] = R := ⟨_, rfl⟩
      rw [hR] at b1 b2 hok hsn
      obtain ⟨ky, li, c, m⟩ := R
      simp only [Rw.ok] at b1 b2 hok
      obtain ⟨o1, o2, o3, o4, o5⟩ := hok
      have e1 := HR.out.but.cellB hgb2 b1
      have e2 := HR.out.but.cellB hgb2 b2
      have HSn : Hid (allD D t rp (l.take (k + 1)) = bndD (allD D t rp (l.take k)) t c m rp li) := by show _ = _; rw [hsn, allD_snoc]
      obtain ⟨Dk, hDk⟩ : ∃ Dk, allD D t rp (l.take k) = Dk := ⟨_, rfl⟩
      rw [hDk] at HR HSn
      have hTr := HT.out.1.but HR.out.but HT.out.2
      obtain ⟨V1, hV1⟩ : ∃ V1, wr.alloc (.cells #[.string ky, .string li] 92) = V1 := ⟨_, rfl⟩
      obtain ⟨q1, hq1⟩ : ∃ q1, wr.heap.size = q1 := ⟨_, rfl⟩
      have hb1 : Below wr.heap.size wr V1 := by rw [← hV1]; exact (Below.refl _ _).alloc (Nat.le_refl _) _
      have ha1 : V1.heap[q1]? = some (.cells #[.string ky, .string li] 92 (0, 0)) := by rw [← hV1, ← hq1]; exact heap_alloc_new wr _
      have hrd := read_any ky.data.toList (by have : ky.data.toList.length = ky.size := by rw [Array.length_toList]; rfl
                                              omega) (hTr.below hb1)
      have hrv : rdV ky.data.toList = .tuple #[.agg #[.int .i64 c, .int .i64 m], .int .i64 0] := by unfold rdV; rw [o1]
      rw [str_self, hrv] at hrd
      have HRd := hidK hrd
      have HBi : Hid (∀ Y, Below wr.heap.size wr Y → Calls Tryz.prog 11 #[.pointer (some ⟨d, 0, none⟩), .agg #[.string t, .int .i64 c, .int .i64 m, .bool rp, .string li]] Y fun e w' => (∃ k, e = .returned (.int .i64 k)) ∧ Tn Y w' d b (n + k + 1) (bndD Dk t c m rp li)) := fun Y hY => bind_tn (HR.out.tb.more hY) (by omega) t li c m rp ht (by omega) o2 o3
      have HB1 := hidK hb1
      have HA1 := hidK ha1
      have c1 := cell_at ha1 0
      have c2 := cell_at ha1 1
      have hi1 : (k : Int) < (N : Int) := by omega
      clear b1 b2 hsn hR o1 o2 o3 o4 o5 hDk hTr hb1 ha1 hrd hrv hka
      go_wp2_with fail
      refine HRd.out.mono ?_
      rintro e V2 ⟨rfl, hb2⟩
      have ha2 := (hb2.block q1 (lt_block HA1.out)).trans HA1.out
      obtain ⟨V3, hV3⟩ : ∃ V3, V2.alloc (.cells #[.int .i64 c, .int .i64 m] 23) = V3 := ⟨_, rfl⟩
      obtain ⟨q3, hq3⟩ : ∃ q3, V2.heap.size = q3 := ⟨_, rfl⟩
      have hb3 : Below V2.heap.size V2 V3 := by rw [← hV3]; exact (Below.refl _ _).alloc (Nat.le_refl _) _
      have ha3 : V3.heap[q3]? = some (.cells #[.int .i64 c, .int .i64 m] 23 (0, 0)) := by rw [← hV3, ← hq3]; exact heap_alloc_new V2 _
      have ha4 := (hb3.block q1 (lt_block ha2)).trans ha2
      have HB3 := hidK (below_step (below_step HB1.out hb2) hb3)
      have d1 := cell_at ha3 0
      have d2 := cell_at ha3 1
      have d3 := cell_at ha4 0
      have d4 := cell_at ha4 1
      clear hb2 hb3 ha2 ha3 ha4
      go_wp2_with fail
      refine (HBi.out _ HB3.out).mono ?_
      rintro e V4 ⟨⟨kk, rfl⟩, htn⟩
      have HRn : Hid (Tn w V4 d b (n + (k + 1)) (allD D t rp (l.take (k + 1)))) := by
        rw [HSn.out]
        exact Tn.go (HR.out.but.trans (But.of HB3.out)) htn
      clear htn
      go_wp2_with fail
      go_roundw
      case rel => exact ⟨k + 1, by omega, by first | rfl | go_num, HRn⟩
      case measure => simp [intOf]; omega
    · have hk8 : k = N := by omega
      subst hk8
      have hi1 : ¬ (k : Int) < (k : Int) := by omega
      have ht8 : l.take k = l := List.take_of_length_le (by rw [HN.out]; exact Nat.le_refl _)
      rw [ht8] at HR
      go_wp2_with fail
      first | (refine bodyPost_ret (results_none rfl _ _ _) rfl ?_) | (refine bodyPost_end (results_none rfl _ _ _) rfl ?_)
      exact ⟨rfl, by first | exact HR.out | exact HPo.out _ HR.out⟩
end Go.Proofs.YtbonnjilbocldaaGreatDoor
