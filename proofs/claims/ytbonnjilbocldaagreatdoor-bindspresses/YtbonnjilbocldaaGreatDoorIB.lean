/-
  Binds, the document's side: the bindings but one.
  Binds, the document's Find.
  Binds, the document's List.
-/
import Derived.Test.YtbonnjilbocldaaGreatDoorIA
import Derived.Deep.DeepCutAuto
namespace Go.Proofs.YtbonnjilbocldaaGreatDoor
open Go.RowKit
set_option linter.unusedVariables false
set_option maxRecDepth 100000

theorem SeeE.cells {w : World} {ad : Option Addr} {n cp : Nat} {l : List Ent} (h : SeeE w (.slice ad n cp) l) : l ≠ [] → ∃ g o, ad = some ⟨g, o, none⟩ ∧ ∀ j (hj : j < l.length) (c : Nat) u, (encE l[j])[c]? = some u → w.cell? ⟨g, o + j * 5 + c, none⟩ = some u := by
  obtain ⟨a, c, e, hc⟩ := h
  cases e
  exact hc
theorem SeeE.shape' {w : World} {v : Value} {l : List Ent} (h : SeeE w v l) : ∃ a c, v = .slice a l.length c := by
  obtain ⟨a, c, h, _⟩ := h
  exact ⟨a, c, h⟩
theorem filt_yes {L : List Ent} {k : Nat} {x : Ent} {p : Ent → Bool} (hx : L[k]? = some x) (hp : p x = true) : (L.take (k + 1)).filter p = (L.take k).filter p ++ [x] := by
  rw [List.take_add_one, hx, List.filter_append]
  simp [hp]
theorem filt_no {L : List Ent} {k : Nat} {x : Ent} {p : Ent → Bool} (hx : L[k]? = some x) (hp : p x = false) : (L.take (k + 1)).filter p = (L.take k).filter p := by
  rw [List.take_add_one, hx, List.filter_append]
  simp [hp]
theorem filt_len (L : List Ent) (k : Nat) (p : Ent → Bool) : ((L.take k).filter p).length ≤ L.length := by
  have h1 := List.length_filter_le p (L.take k)
  rw [List.length_take] at h1
  omega
theorem off_yes {t : ByteArray} {c m : Int} {e : Ent} (h : ¬ (e.t = t ∧ e.c = c ∧ e.m = m)) : offB t c m e = true := offB_iff.2 h
theorem off_no {t : ByteArray} {c m : Int} {e : Ent} (h : e.t = t ∧ e.c = c ∧ e.m = m) : offB t c m e = false := by
  cases q : offB t c m e
  · rfl
  · exact absurd h (offB_iff.1 q)
theorem EntsAt.base {w : World} {B B' : Nat} {v : Value} {l : List Ent} (h : EntsAt w B v l) (hB : B' ≤ B) : EntsAt w B' v l := by
  refine ⟨h.1, ?_⟩
  rcases h.2 with h0 | ⟨g, cap, cur, e, hb, r⟩
  · exact .inl h0
  · exact .inr ⟨g, cap, cur, e, Nat.le_trans hB hb, r⟩
theorem kp {X Y : World} {g : Nat} {o : Obj} (hb : Below X.heap.size X Y) (h : X.heap[g]? = some o) : Y.heap[g]? = some o := (hb.block g (lt_block h)).trans h
theorem infoTabs : (Tryz.prog.info? 33).map (·.size) = some 1 := by kernel_rfl
set_option maxHeartbeats 8000000 in
theorem rwithout_any {w : World} {v : Value} {L : List Ent} (hv : SeeE w v L) (hlen : L.length ≤ 200) (st : ByteArray) (sc sm : Int) :
    Calls Tryz.prog 33 #[.agg #[v], .string st, .agg #[.int .i64 sc, .int .i64 sm]] w fun e w' => ∃ v', e = .returned (.agg #[v']) ∧ EntsAt w' w.heap.size v' (L.filter (offB st sc sm)) ∧ Below w.heap.size w w' := by
  obtain ⟨ad, cp, rfl⟩ := hv.shape'
  obtain ⟨N, hN⟩ : ∃ N, L.length = N := ⟨_, rfl⟩
  rw [hN] at hv ⊢
  obtain ⟨W1, hW1⟩ : ∃ W, w.alloc (.cells #[.slice ad N cp] 33) = W := ⟨_, rfl⟩
  obtain ⟨W2, hW2⟩ : ∃ W, W1.alloc (.cells #[.int .i64 sc, .int .i64 sm] 23) = W := ⟨_, rfl⟩
  obtain ⟨W3, hW3⟩ : ∃ W, W2.alloc (.cells #[.slice none 0 0] 33) = W := ⟨_, rfl⟩
  obtain ⟨Q1, hQ1⟩ : ∃ Q, w.heap.size = Q := ⟨_, rfl⟩
  obtain ⟨Q2, hQ2⟩ : ∃ Q, W1.heap.size = Q := ⟨_, rfl⟩
  obtain ⟨Q3, hQ3⟩ : ∃ Q, W2.heap.size = Q := ⟨_, rfl⟩
  have b1 : Below w.heap.size w W1 := by rw [← hW1]; exact (Below.refl _ _).alloc (Nat.le_refl _) _
  have b2 : Below W1.heap.size W1 W2 := by rw [← hW2]; exact (Below.refl _ _).alloc (Nat.le_refl _) _
  have b3 : Below W2.heap.size W2 W3 := by rw [← hW3]; exact (Below.refl _ _).alloc (Nat.le_refl _) _
  have a1 : W1.heap[Q1]? = some (.cells #[.slice ad N cp] 33 (0, 0)) := by rw [← hW1, ← hQ1]; exact heap_alloc_new w _
  have a2 : W2.heap[Q2]? = some (.cells #[.int .i64 sc, .int .i64 sm] 23 (0, 0)) := by rw [← hW2, ← hQ2]; exact heap_alloc_new W1 _
  have a3 : W3.heap[Q3]? = some (.cells #[.slice none 0 0] 33 (0, 0)) := by rw [← hW3, ← hQ3]; exact heap_alloc_new W2 _
  have A1 := hidK (kp (below_step b2 b3) a1)
  have A2 := hidK (kp b3 a2)
  have A3 := hidK a3
  have HB := hidK (below_step (below_step b1 b2) b3)
  have HS := hidK (And.intro (hv.below HB.out) hN)
  have HLe : Hid (L.length ≤ 200) := hlen
  have HQl : Hid (w.heap.size ≤ Q3 ∧ Q3 < W3.heap.size) := ⟨by have := b1.size; have := b2.size; omega, lt_block a3⟩
  clear b1 b2 b3 a1 a2 a3 hv hN hlen
  go_enter Tryz.func33, Tryz.ntmps33
  go_wp2_with fail
  clear hW1 hW2 hW3 hQ1 hQ2 hQ3
  go_loopw [7, 8] (fun xv iv wr => ∃ k : Nat, k ≤ N ∧ iv = .int .i64 k ∧ Hid (EntsAt wr W3.heap.size xv ((L.take k).filter (offB st sc sm)) ∧ Below W3.heap.size W3 wr)) (fun _ iv _ => N - (intOf iv).toNat)
  case atStart => exact ⟨0, Nat.zero_le _, rfl, hidK ⟨EntsAt.nil _ _, Below.refl _ _⟩⟩
  case round =>
    obtain ⟨k, hk, rfl, HR⟩ := hrel
    have t0 : wr.cell? ⟨Q1, 0, none⟩ = some (.slice ad N cp) := cell_at (kp HR.out.2 A1.out) 0
    by_cases hlt : k < N
    · skip
      have hka : k < L.length := by rw [HS.out.2]; exact hlt
      obtain ⟨g, o, rfl, hc⟩ := HS.out.1.cells (fun e => by rw [e] at hka; simp at hka)
      have hcs := hc k hka
      obtain ⟨⟨et, ec, em, er, el⟩, hst⟩ : ∃ q, L[k] = q := ⟨_, rfl⟩
      rw [hst] at hcs
      have HX : Hid (L[k]? = some ⟨et, ec, em, er, el⟩) := by show _ = _; rw [List.getElem?_eq_getElem hka, hst]
      have up : ∀ (o : Nat) (v : Value), W3.cell? ⟨g, o, none⟩ = some v → wr.cell? ⟨g, o, none⟩ = some v := fun o v h => (HR.out.2.cell (World.block_lt_of_cell? _ _ h)).trans h
      have e0 : wr.cell? ⟨g, o + k * 5, none⟩ = some (.string et) := up _ _ (hcs 0 _ rfl)
      have e1 : wr.cell? ⟨g, o + k * 5 + 1, none⟩ = some (.int .i64 ec) := up _ _ (hcs 1 _ rfl)
      have e2 : wr.cell? ⟨g, o + k * 5 + 2, none⟩ = some (.int .i64 em) := up _ _ (hcs 2 _ rfl)
      have e3 : wr.cell? ⟨g, o + k * 5 + 3, none⟩ = some (.bool er) := up _ _ (hcs 3 _ rfl)
      have e4 : wr.cell? ⟨g, o + k * 5 + 4, none⟩ = some (.string el) := up _ _ (hcs 4 _ rfl)
      have hi1 : (k : Int) < (N : Int) := by omega
      have hi2 : (k : Int) < 200 := by have h1 := HLe.out; have h2 := HS.out.2; omega
      clear hc hcs hst hka up
      have hz := kp HR.out.2 A2.out
      have z0 : wr.cell? ⟨Q2, 0, none⟩ = some (.int .i64 sc) := cell_at hz 0
      have z1 : wr.cell? ⟨Q2, 1, none⟩ = some (.int .i64 sm) := cell_at hz 1
      clear hz
      by_cases q0 : et = st
      · subst q0
        by_cases q1 : ec = sc
        · subst q1
          by_cases q2 : em = sm
          · subst q2
            have HF := hidK (filt_no HX.out (off_no (e := ⟨et, ec, em, er, el⟩) ⟨rfl, rfl, rfl⟩))
            go_wp2_with fail
            go_quiet (fail)
            rename_i nq
            have HR6 : Hid (EntsAt (wr.drewN nq) W3.heap.size u7 ((L.take (k + 1)).filter (offB et ec em)) ∧ Below W3.heap.size W3 (wr.drewN nq)) := ⟨by rw [HF.out]; exact HR.out.1.below (below_drewN _ _), below_step HR.out.2 (below_drewN _ _)⟩
            go_wp2_with fail
            go_roundw
            case rel => exact ⟨k + 1, by omega, by first | rfl | go_num, HR6⟩
            case measure => simp [intOf]; omega
          · have HF := hidK (filt_yes HX.out (off_yes (e := ⟨et, ec, em, er, el⟩) (t := et) (c := ec) (m := sm) fun q => q2 q.2.2))
            have y2 : (em == sm) = false := by simpa using q2
            clear q2
            have HLn := hidK (filt_len L k (offB et ec sm))
            go_wp2_with fail
            go_quiet (fail)
            rename_i nq
            obtain ⟨Y, hY⟩ : ∃ Y, wr.drewN nq = Y := ⟨_, rfl⟩
            rw [hY]
            have HOy : Hid (EntsAt Y W3.heap.size u7 ((L.take k).filter (offB et ec sm))) := by rw [← hY]; exact HR.out.1.below (below_drewN _ _)
            have HBy : Hid (Below W3.heap.size W3 Y) := by show Below _ _ _; rw [← hY]; exact below_step HR.out.2 (below_drewN _ _)
            have f0 : Y.cell? ⟨g, o + k * 5, none⟩ = some (.string et) := by rw [← hY]; exact e0
            have f1 : Y.cell? ⟨g, o + k * 5 + 1, none⟩ = some (.int .i64 ec) := by rw [← hY]; exact e1
            have f2 : Y.cell? ⟨g, o + k * 5 + 2, none⟩ = some (.int .i64 em) := by rw [← hY]; exact e2
            have f3 : Y.cell? ⟨g, o + k * 5 + 3, none⟩ = some (.bool er) := by rw [← hY]; exact e3
            have f4 : Y.cell? ⟨g, o + k * 5 + 4, none⟩ = some (.string el) := by rw [← hY]; exact e4
            have ft : Y.cell? ⟨Q1, 0, none⟩ = some (.slice (some ⟨g, o, none⟩) N cp) := by rw [← hY]; exact t0
            have HSz : Hid (W3.heap.size ≤ Y.heap.size) := HBy.out.size
            clear hY e0 e1 e2 e3 e4 t0
            go_wp2_with (at_builtin; refine wpList_append_ent _ rfl (.tmp 34) (.tmp 40) rfl W3.heap.size _ ((L.take k).filter (offB et ec sm)) rfl (HOy.out.below ((Below.refl _ _).alloc (Nat.le_refl _) _)) Y.heap.size ⟨et, ec, em, er, el⟩ rfl (heap_alloc_new Y _) ?xa1 ?xa2 ?_; (case xa1 => have h1 := HLn.out; have h2 := HLe.out; omega); (case xa2 => have h1 := HSz.out; simp; omega); intro v6 w6 ho6 hg6; have HR6 : Hid (EntsAt w6 W3.heap.size v6 ((L.take (k + 1)).filter (offB et ec sm)) ∧ Below W3.heap.size W3 w6) := ⟨by rw [HF.out]; exact ho6, ((HBy.out.alloc HSz.out _).grown hg6 (by have h1 := HSz.out; simp; omega) (fun j hj => (HOy.out.blk hj).1))⟩; clear ho6 hg6)
            go_roundw
            case rel => exact ⟨k + 1, by omega, by first | rfl | go_num, HR6⟩
            case measure => simp [intOf]; omega
        · have HF := hidK (filt_yes HX.out (off_yes (e := ⟨et, ec, em, er, el⟩) (t := et) (c := sc) (m := sm) fun q => q1 q.2.1))
          have y1 : (ec == sc) = false := by simpa using q1
          clear q1
          have HLn := hidK (filt_len L k (offB et sc sm))
          go_wp2_with fail
          go_quiet (fail)
          rename_i nq
          obtain ⟨Y, hY⟩ : ∃ Y, wr.drewN nq = Y := ⟨_, rfl⟩
          rw [hY]
          have HOy : Hid (EntsAt Y W3.heap.size u7 ((L.take k).filter (offB et sc sm))) := by rw [← hY]; exact HR.out.1.below (below_drewN _ _)
          have HBy : Hid (Below W3.heap.size W3 Y) := by show Below _ _ _; rw [← hY]; exact below_step HR.out.2 (below_drewN _ _)
          have f0 : Y.cell? ⟨g, o + k * 5, none⟩ = some (.string et) := by rw [← hY]; exact e0
          have f1 : Y.cell? ⟨g, o + k * 5 + 1, none⟩ = some (.int .i64 ec) := by rw [← hY]; exact e1
          have f2 : Y.cell? ⟨g, o + k * 5 + 2, none⟩ = some (.int .i64 em) := by rw [← hY]; exact e2
          have f3 : Y.cell? ⟨g, o + k * 5 + 3, none⟩ = some (.bool er) := by rw [← hY]; exact e3
          have f4 : Y.cell? ⟨g, o + k * 5 + 4, none⟩ = some (.string el) := by rw [← hY]; exact e4
          have ft : Y.cell? ⟨Q1, 0, none⟩ = some (.slice (some ⟨g, o, none⟩) N cp) := by rw [← hY]; exact t0
          have HSz : Hid (W3.heap.size ≤ Y.heap.size) := HBy.out.size
          clear hY e0 e1 e2 e3 e4 t0
          go_wp2_with (at_builtin; refine wpList_append_ent _ rfl (.tmp 34) (.tmp 40) rfl W3.heap.size _ ((L.take k).filter (offB et sc sm)) rfl (HOy.out.below ((Below.refl _ _).alloc (Nat.le_refl _) _)) Y.heap.size ⟨et, ec, em, er, el⟩ rfl (heap_alloc_new Y _) ?xb1 ?xb2 ?_; (case xb1 => have h1 := HLn.out; have h2 := HLe.out; omega); (case xb2 => have h1 := HSz.out; simp; omega); intro v6 w6 ho6 hg6; have HR6 : Hid (EntsAt w6 W3.heap.size v6 ((L.take (k + 1)).filter (offB et sc sm)) ∧ Below W3.heap.size W3 w6) := ⟨by rw [HF.out]; exact ho6, ((HBy.out.alloc HSz.out _).grown hg6 (by have h1 := HSz.out; simp; omega) (fun j hj => (HOy.out.blk hj).1))⟩; clear ho6 hg6)
          go_roundw
          case rel => exact ⟨k + 1, by omega, by first | rfl | go_num, HR6⟩
          case measure => simp [intOf]; omega
      · have HF := hidK (filt_yes HX.out (off_yes (e := ⟨et, ec, em, er, el⟩) (t := st) (c := sc) (m := sm) fun q => q0 q.1))
        have y0 := bytes_ne q0
        clear q0
        have HLn := hidK (filt_len L k (offB st sc sm))
        go_wp2_with fail
        go_quiet (fail)
        rename_i nq
        obtain ⟨Y, hY⟩ : ∃ Y, wr.drewN nq = Y := ⟨_, rfl⟩
        rw [hY]
        have HOy : Hid (EntsAt Y W3.heap.size u7 ((L.take k).filter (offB st sc sm))) := by rw [← hY]; exact HR.out.1.below (below_drewN _ _)
        have HBy : Hid (Below W3.heap.size W3 Y) := by show Below _ _ _; rw [← hY]; exact below_step HR.out.2 (below_drewN _ _)
        have f0 : Y.cell? ⟨g, o + k * 5, none⟩ = some (.string et) := by rw [← hY]; exact e0
        have f1 : Y.cell? ⟨g, o + k * 5 + 1, none⟩ = some (.int .i64 ec) := by rw [← hY]; exact e1
        have f2 : Y.cell? ⟨g, o + k * 5 + 2, none⟩ = some (.int .i64 em) := by rw [← hY]; exact e2
        have f3 : Y.cell? ⟨g, o + k * 5 + 3, none⟩ = some (.bool er) := by rw [← hY]; exact e3
        have f4 : Y.cell? ⟨g, o + k * 5 + 4, none⟩ = some (.string el) := by rw [← hY]; exact e4
        have ft : Y.cell? ⟨Q1, 0, none⟩ = some (.slice (some ⟨g, o, none⟩) N cp) := by rw [← hY]; exact t0
        have HSz : Hid (W3.heap.size ≤ Y.heap.size) := HBy.out.size
        clear hY e0 e1 e2 e3 e4 t0
        go_wp2_with (at_builtin; refine wpList_append_ent _ rfl (.tmp 34) (.tmp 40) rfl W3.heap.size _ ((L.take k).filter (offB st sc sm)) rfl (HOy.out.below ((Below.refl _ _).alloc (Nat.le_refl _) _)) Y.heap.size ⟨et, ec, em, er, el⟩ rfl (heap_alloc_new Y _) ?xc1 ?xc2 ?_; (case xc1 => have h1 := HLn.out; have h2 := HLe.out; omega); (case xc2 => have h1 := HSz.out; simp; omega); intro v6 w6 ho6 hg6; have HR6 : Hid (EntsAt w6 W3.heap.size v6 ((L.take (k + 1)).filter (offB st sc sm)) ∧ Below W3.heap.size W3 w6) := ⟨by rw [HF.out]; exact ho6, ((HBy.out.alloc HSz.out _).grown hg6 (by have h1 := HSz.out; simp; omega) (fun j hj => (HOy.out.blk hj).1))⟩; clear ho6 hg6)
        go_roundw
        case rel => exact ⟨k + 1, by omega, by first | rfl | go_num, HR6⟩
        case measure => simp [intOf]; omega
    · obtain rfl : k = N := by omega
      obtain ⟨a7, c7, rfl⟩ := HR.out.1.slice
      obtain ⟨n7, hn7⟩ : ∃ n, ((L.take k).filter (offB st sc sm)).length = n := ⟨_, rfl⟩
      rw [hn7] at HR ⊢
      have hq3 := kp HR.out.2 A3.out
      have x0 := cell_at hq3 0
      have f0 := free_at hq3 0
      have HE : Hid (EntsAt wr W3.heap.size (.slice a7 n7 c7) (L.filter (offB st sc sm))) := by
        have h := HR.out.1
        rw [List.take_of_length_le (by rw [HS.out.2]; exact Nat.le_refl _)] at h
        exact h
      have HQ3 := hidK hq3
      clear hq3 hn7
      go_wp2_with fail
      refine ret_cell1 rfl rfl (put_at HQ3.out 0 _) Tryz.underlying33 rfl infoTabs rfl ⟨_, rfl, ?_, ?_⟩
      · exact (HE.out.keep fun g hg => put_other rfl (by have := (HE.out.blk hg).1; have := HQl.out; omega) _ _).base HB.out.size
      · exact (below_step HB.out HR.out.2).setCell HQl.out.1 _
end Go.Proofs.YtbonnjilbocldaaGreatDoor

namespace Go.Proofs.YtbonnjilbocldaaGreatDoor
open Go.RowKit
set_option linter.unusedVariables false
set_option maxRecDepth 100000

/-- What Find tells. -/
structure FndP (w : World) (D : DataW Unit) (st : ByteArray) (sc sm : Int) (e : Ending) (w' : World) : Prop where
  told : ∃ s r, D.atKey (slotK st.data.toList sc sm) zeroD = meanD s r ∧ e = .returned (.tuple #[foundV (Maps.has D (slotK st.data.toList sc sm)) st sc sm r s, .bool (Maps.has D (slotK st.data.toList sc sm))])
  below : Below w.heap.size w w'
theorem FndP.mk' {w : World} {D : DataW Unit} {st : ByteArray} {sc sm : Int} {e : Ending} {w' : World} {s : ByteArray} {r : Bool} (h : D.atKey (slotK st.data.toList sc sm) zeroD = meanD s r) (he : e = .returned (.tuple #[foundV (Maps.has D (slotK st.data.toList sc sm)) st sc sm r s, .bool (Maps.has D (slotK st.data.toList sc sm))])) (hb : Below w.heap.size w w') : FndP w D st sc sm e w' := ⟨⟨s, r, h, he⟩, hb⟩
set_option maxHeartbeats 8000000 in
theorem rfind_any {w : World} {v : Value} {L : List Ent} {D : DataW Unit} (hv : SeeE w v L) (hD : Dc D L) (st : ByteArray) (sc sm : Int) (hw : Ent.wf ⟨st, sc, sm, false, ⟨#[]⟩⟩) :
    Calls Tryz.prog 15 #[.agg #[v], .string st, .agg #[.int .i64 sc, .int .i64 sm]] w fun e w' => FndP w D st sc sm e w' := by
  obtain ⟨ad, cp, rfl⟩ := hv.shape'
  obtain ⟨N, hN⟩ : ∃ N, L.length = N := ⟨_, rfl⟩
  rw [hN] at hv ⊢
  obtain ⟨W1, hW1⟩ : ∃ W, w.alloc (.cells #[.slice ad N cp] 33) = W := ⟨_, rfl⟩
  obtain ⟨W2, hW2⟩ : ∃ W, W1.alloc (.cells #[.int .i64 sc, .int .i64 sm] 23) = W := ⟨_, rfl⟩
  obtain ⟨W3, hW3⟩ : ∃ W, W2.alloc (.cells #[.string ⟨#[]⟩, .int .i64 0, .int .i64 0, .bool false, .string ⟨#[]⟩] 39) = W := ⟨_, rfl⟩
  obtain ⟨Q1, hQ1⟩ : ∃ Q, w.heap.size = Q := ⟨_, rfl⟩
  obtain ⟨Q2, hQ2⟩ : ∃ Q, W1.heap.size = Q := ⟨_, rfl⟩
  obtain ⟨Q3, hQ3⟩ : ∃ Q, W2.heap.size = Q := ⟨_, rfl⟩
  have b1 : Below w.heap.size w W1 := by rw [← hW1]; exact (Below.refl _ _).alloc (Nat.le_refl _) _
  have b2 : Below W1.heap.size W1 W2 := by rw [← hW2]; exact (Below.refl _ _).alloc (Nat.le_refl _) _
  have b3 : Below W2.heap.size W2 W3 := by rw [← hW3]; exact (Below.refl _ _).alloc (Nat.le_refl _) _
  have a1 : W1.heap[Q1]? = some (.cells #[.slice ad N cp] 33 (0, 0)) := by rw [← hW1, ← hQ1]; exact heap_alloc_new w _
  have a2 : W2.heap[Q2]? = some (.cells #[.int .i64 sc, .int .i64 sm] 23 (0, 0)) := by rw [← hW2, ← hQ2]; exact heap_alloc_new W1 _
  have a3 : W3.heap[Q3]? = some (.cells #[.string ⟨#[]⟩, .int .i64 0, .int .i64 0, .bool false, .string ⟨#[]⟩] 39 (0, 0)) := by rw [← hW3, ← hQ3]; exact heap_alloc_new W2 _
  have A1 := hidK (kp (below_step b2 b3) a1)
  have A2 := hidK (kp b3 a2)
  have A3 := hidK a3
  have HB := hidK (below_step (below_step b1 b2) b3)
  have HS := hidK (And.intro (hv.below HB.out) hN)
  have HLe : Hid (L.length ≤ 200) := hD.few
  have HD := hidK hD
  have HW := hidK hw
  have HQl : Hid (w.heap.size ≤ Q3 ∧ Q3 < W3.heap.size) := ⟨by have := b1.size; have := b2.size; omega, lt_block a3⟩
  clear b1 b2 b3 a1 a2 a3 hv hN hD hw
  go_enter Tryz.func15, Tryz.ntmps15
  go_wp2_with fail
  clear hW1 hW2 hW3 hQ1 hQ2 hQ3
  go_loopw [8] (fun iv wr => ∃ k : Nat, k ≤ N ∧ iv = .int .i64 k ∧ Hid ((∀ x ∈ L.take k, ¬ (x.t = st ∧ x.c = sc ∧ x.m = sm)) ∧ Below W3.heap.size W3 wr)) (fun iv _ => N - (intOf iv).toNat)
  case atStart => exact ⟨0, Nat.zero_le _, rfl, hidK ⟨fun x hx => by simp at hx, Below.refl _ _⟩⟩
  case round =>
    obtain ⟨k, hk, rfl, HR⟩ := hrel
    have t0 : wr.cell? ⟨Q1, 0, none⟩ = some (.slice ad N cp) := cell_at (kp HR.out.2 A1.out) 0
    by_cases hlt : k < N
    · skip
      have hka : k < L.length := by rw [HS.out.2]; exact hlt
      obtain ⟨g, o, rfl, hc⟩ := HS.out.1.cells (fun e => by rw [e] at hka; simp at hka)
      have hcs := hc k hka
      obtain ⟨⟨et, ec, em, er, el⟩, hst⟩ : ∃ q, L[k] = q := ⟨_, rfl⟩
      rw [hst] at hcs
      have HX : Hid (L[k]? = some ⟨et, ec, em, er, el⟩) := by show _ = _; rw [List.getElem?_eq_getElem hka, hst]
      have up : ∀ (o : Nat) (v : Value), W3.cell? ⟨g, o, none⟩ = some v → wr.cell? ⟨g, o, none⟩ = some v := fun o v h => (HR.out.2.cell (World.block_lt_of_cell? _ _ h)).trans h
      have e0 : wr.cell? ⟨g, o + k * 5, none⟩ = some (.string et) := up _ _ (hcs 0 _ rfl)
      have e1 : wr.cell? ⟨g, o + k * 5 + 1, none⟩ = some (.int .i64 ec) := up _ _ (hcs 1 _ rfl)
      have e2 : wr.cell? ⟨g, o + k * 5 + 2, none⟩ = some (.int .i64 em) := up _ _ (hcs 2 _ rfl)
      have e3 : wr.cell? ⟨g, o + k * 5 + 3, none⟩ = some (.bool er) := up _ _ (hcs 3 _ rfl)
      have e4 : wr.cell? ⟨g, o + k * 5 + 4, none⟩ = some (.string el) := up _ _ (hcs 4 _ rfl)
      have hi1 : (k : Int) < (N : Int) := by omega
      have hi2 : (k : Int) < 200 := by have h1 := HLe.out; have h2 := HS.out.2; omega
      clear hc hcs hst hka up
      have hz := kp HR.out.2 A2.out
      have z0 : wr.cell? ⟨Q2, 0, none⟩ = some (.int .i64 sc) := cell_at hz 0
      have z1 : wr.cell? ⟨Q2, 1, none⟩ = some (.int .i64 sm) := cell_at hz 1
      clear hz
      by_cases q0 : et = st
      · subst q0
        by_cases q1 : ec = sc
        · subst q1
          by_cases q2 : em = sm
          · subst q2
            go_wp2_with fail
            go_quiet (fail)
            rename_i nq
            obtain ⟨Y, hY⟩ : ∃ Y, wr.drewN nq = Y := ⟨_, rfl⟩
            rw [hY]
            have HBy : Hid (Below W3.heap.size W3 Y) := by show Below _ _ _; rw [← hY]; exact below_step HR.out.2 (below_drewN _ _)
            have hq3 := kp HBy.out A3.out
            have x0 := cell_at hq3 0
            have x1 := cell_at hq3 1
            have x2 := cell_at hq3 2
            have x3 := cell_at hq3 3
            have x4 := cell_at hq3 4
            have y0 := free_at hq3 0
            have y1 := free_at hq3 1
            have y2 := free_at hq3 2
            have y3 := free_at hq3 3
            have y4 := free_at hq3 4
            have f0 : Y.cell? ⟨g, o + k * 5, none⟩ = some (.string et) := by rw [← hY]; exact e0
            have f1 : Y.cell? ⟨g, o + k * 5 + 1, none⟩ = some (.int .i64 ec) := by rw [← hY]; exact e1
            have f2 : Y.cell? ⟨g, o + k * 5 + 2, none⟩ = some (.int .i64 em) := by rw [← hY]; exact e2
            have f3 : Y.cell? ⟨g, o + k * 5 + 3, none⟩ = some (.bool er) := by rw [← hY]; exact e3
            have f4 : Y.cell? ⟨g, o + k * 5 + 4, none⟩ = some (.string el) := by rw [← hY]; exact e4
            have ft : Y.cell? ⟨Q1, 0, none⟩ = some (.slice (some ⟨g, o, none⟩) N cp) := by rw [← hY]; exact t0
            have HQ3 := hidK hq3
            have HFn := hidK (HD.out.find (x := ⟨et, ec, em, er, el⟩) (List.mem_of_getElem? HX.out))
            clear hq3 hY e0 e1 e2 e3 e4 t0 z0 z1
            go_wp2_with fail
            refine ret_cell2 rfl rfl (five_set HQ3.out _ _ _ _ _) Tryz.underlying39 rfl infoBinding rfl (FndP.mk' HFn.out.2 ?_ ?_)
            · have h1 : Maps.has D (slotK et.data.toList ec em) = true := HFn.out.1
              rw [h1]; rfl
            · have hb := below_step HB.out HBy.out
              exact (((((hb.setCell HQl.out.1 _).setCell HQl.out.1 _).setCell HQl.out.1 _).setCell HQl.out.1 _).setCell HQl.out.1 _)
          · have NEG : Hid (¬ (et = et ∧ ec = ec ∧ em = sm)) := fun q => q2 q.2.2
            have y2 : (em == sm) = false := by simpa using q2
            clear q2
            go_wp2_with fail
            go_quiet (fail)
            rename_i nq
            have HR6 : Hid ((∀ x ∈ L.take (k + 1), ¬ (x.t = et ∧ x.c = ec ∧ x.m = sm)) ∧ Below W3.heap.size W3 (wr.drewN nq)) := ⟨fun x hx => by
              rw [List.take_add_one, HX.out] at hx
              rcases List.mem_append.1 hx with hx | hx
              · exact HR.out.1 x hx
              · simp at hx
                subst hx
                exact fun q => NEG.out (by first | exact q | simpa using q), below_step HR.out.2 (below_drewN _ _)⟩
            go_wp2_with fail
            go_roundw
            case rel => exact ⟨k + 1, by omega, by first | rfl | go_num, HR6⟩
            case measure => simp [intOf]; omega
        · have NEG : Hid (¬ (et = et ∧ ec = sc ∧ em = sm)) := fun q => q1 q.2.1
          have y1 : (ec == sc) = false := by simpa using q1
          clear q1
          go_wp2_with fail
          go_quiet (fail)
          rename_i nq
          have HR6 : Hid ((∀ x ∈ L.take (k + 1), ¬ (x.t = et ∧ x.c = sc ∧ x.m = sm)) ∧ Below W3.heap.size W3 (wr.drewN nq)) := ⟨fun x hx => by
            rw [List.take_add_one, HX.out] at hx
            rcases List.mem_append.1 hx with hx | hx
            · exact HR.out.1 x hx
            · simp at hx
              subst hx
              exact fun q => NEG.out (by first | exact q | simpa using q), below_step HR.out.2 (below_drewN _ _)⟩
          go_wp2_with fail
          go_roundw
          case rel => exact ⟨k + 1, by omega, by first | rfl | go_num, HR6⟩
          case measure => simp [intOf]; omega
      · have NEG : Hid (¬ (et = st ∧ ec = sc ∧ em = sm)) := fun q => q0 q.1
        have y0 := bytes_ne q0
        clear q0
        go_wp2_with fail
        go_quiet (fail)
        rename_i nq
        have HR6 : Hid ((∀ x ∈ L.take (k + 1), ¬ (x.t = st ∧ x.c = sc ∧ x.m = sm)) ∧ Below W3.heap.size W3 (wr.drewN nq)) := ⟨fun x hx => by
          rw [List.take_add_one, HX.out] at hx
          rcases List.mem_append.1 hx with hx | hx
          · exact HR.out.1 x hx
          · simp at hx
            subst hx
            exact fun q => NEG.out (by first | exact q | simpa using q), below_step HR.out.2 (below_drewN _ _)⟩
        go_wp2_with fail
        go_roundw
        case rel => exact ⟨k + 1, by omega, by first | rfl | go_num, HR6⟩
        case measure => simp [intOf]; omega
    · obtain rfl : k = N := by omega
      have hq3 := kp HR.out.2 A3.out
      have x0 := cell_at hq3 0
      have x1 := cell_at hq3 1
      have x2 := cell_at hq3 2
      have x3 := cell_at hq3 3
      have x4 := cell_at hq3 4
      have y0 := free_at hq3 0
      have y1 := free_at hq3 1
      have y2 := free_at hq3 2
      have y3 := free_at hq3 3
      have y4 := free_at hq3 4
      have hno := HD.out.none HW.out (fun x hx => HR.out.1 x (by rw [List.take_of_length_le (by rw [HS.out.2]; exact Nat.le_refl _)]; exact hx))
      have HNo : Hid (Maps.has D (slotK st.data.toList sc sm) = false) := hno
      have HQ3 := hidK hq3
      clear hq3 hno
      go_wp2_with fail
      refine ret_cell2 rfl rfl (five_set HQ3.out _ _ _ _ _) Tryz.underlying39 rfl infoBinding rfl (FndP.mk' (s := ⟨#[]⟩) (r := false) (Maps.atKey_of_not_has HNo.out _) ?_ ?_)
      · rw [HNo.out]; rfl
      · have hb := below_step HB.out HR.out.2
        exact (((((hb.setCell HQl.out.1 _).setCell HQl.out.1 _).setCell HQl.out.1 _).setCell HQl.out.1 _).setCell HQl.out.1 _)
end Go.Proofs.YtbonnjilbocldaaGreatDoor

namespace Go.Proofs.YtbonnjilbocldaaGreatDoor
open Go.RowKit
set_option linter.unusedVariables false
set_option maxRecDepth 100000

theorem inT_yes {t : ByteArray} {e : Ent} (h : e.t = t) : inT t e = true := inT_iff.2 h
theorem inT_no {t : ByteArray} {e : Ent} (h : ¬ e.t = t) : inT t e = false := by
  cases q : inT t e
  · rfl
  · exact absurd (inT_iff.1 q) h
theorem EntsAt.own {w : World} {B n c : Nat} {a : Option Addr} {l : List Ent} (h : EntsAt w B (.slice a n c) l) (hn : 0 < n) : ∃ g, a = some ⟨g, 0, none⟩ := by
  rcases h.2 with ⟨e, _⟩ | ⟨g, cap, cur, e, _⟩
  · cases e; omega
  · cases e; exact ⟨g, rfl⟩
theorem EntsAt.len {w : World} {B n c : Nat} {a : Option Addr} {l : List Ent} (h : EntsAt w B (.slice a n c) l) : n = l.length := by
  obtain ⟨a', c', e⟩ := h.slice
  cases e
  rfl
/-- An element's five cells in one's own list. -/
theorem EntsAt.at5 {w : World} {B n c g : Nat} {l : List Ent} (h : EntsAt w B (.slice (some ⟨g, 0, none⟩) n c) l) {j : Nat} (hj : j < l.length) {e : Ent} (he : l[j] = e) :
    w.cell? ⟨g, j * 5, none⟩ = some (.string e.t) ∧ w.cell? ⟨g, j * 5 + 1, none⟩ = some (.int .i64 e.c) ∧ w.cell? ⟨g, j * 5 + 2, none⟩ = some (.int .i64 e.m) ∧ w.cell? ⟨g, j * 5 + 3, none⟩ = some (.bool e.rp) ∧ w.cell? ⟨g, j * 5 + 4, none⟩ = some (.string e.ln) := by
  have hs := h.see
  have hn := h.len
  subst he
  obtain ⟨g', o', e1, hc⟩ := hs.cells (fun q => by rw [q] at hj; simp at hj)
  cases e1
  have q := hc j hj
  refine ⟨?_, ?_, ?_, ?_, ?_⟩
  · have := q 0 _ rfl; rwa [Nat.zero_add] at this
  · have := q 1 _ rfl; rwa [Nat.zero_add] at this
  · have := q 2 _ rfl; rwa [Nat.zero_add] at this
  · have := q 3 _ rfl; rwa [Nat.zero_add] at this
  · have := q 4 _ rfl; rwa [Nat.zero_add] at this
theorem EntsAt.free {w : World} {B n c g : Nat} {l : List Ent} (h : EntsAt w B (.slice (some ⟨g, 0, none⟩) n c) l) (o : Nat) : w.frozen? ⟨g, o, none⟩ = false := by
  obtain ⟨_, cur, hk⟩ := h.blk (g := g) rfl
  exact free_at hk o
theorem swp_comm {l : List Ent} {i k : Nat} (h : i ≠ k) : swp l i k = (l.set k l[i]!).set i l[k]! := by
  unfold swp
  exact List.set_comm _ _ h
theorem EntsAt.swap2 {w : World} {B g n cap : Nat} {l : List Ent} (h : EntsAt w B (.slice (some ⟨g, 0, none⟩) n cap) l) {i k : Nat} (hik : i ≠ k) (hi : i < l.length) (hk : k < l.length) {a b : Ent} (ha : l[i] = a) (hb : l[k] = b) :
    EntsAt ((w.setCells g (k * 5) (encE a)).setCells g (i * 5) (encE b)) B (.slice (some ⟨g, 0, none⟩) n cap) (swp l i k) := by
  rw [swp_comm hik, getElem!_pos l k hk, getElem!_pos l i hi, ha, hb]
  exact (h.put5 k hk a).put5 i (by simpa using hi) b
theorem two_new (w : World) (o o' : Obj) : ((w.alloc o).alloc o').drew.heap[w.heap.size]? = some o ∧ ((w.alloc o).alloc o').drew.heap[w.heap.size + 1]? = some o' ∧ Below w.heap.size w ((w.alloc o).alloc o').drew := by
  refine ⟨alloc_at (heap_alloc_new w o) o', ?_, (((Below.refl _ _).alloc (Nat.le_refl _) _).alloc (by simp) _).drew⟩
  have q : (w.alloc o).heap.size = w.heap.size + 1 := by simp
  rw [← q]
  exact heap_alloc_new _ _
theorem below_sets {B g : Nat} {w : World} (hg : B ≤ g) : ∀ (vs : List Value) (o : Nat) {X : World}, Below B w X → Below B w (X.setCells g o vs)
  | [], _, _, h => h
  | v :: r, o, _, h => below_sets hg r (o + 1) (h.setCell (p := ⟨g, o, none⟩) hg v)
theorem EntsAt.drew {w : World} {B : Nat} {v : Value} {l : List Ent} (h : EntsAt w B v l) : EntsAt w.drew B v l := h.keep fun _ _ => rfl
/-- How far the exchanging has come, in memory. -/
structure Xc (w W1 wr : World) (B : Nat) (v : Value) (l0 l : List Ent) (i k : Nat) : Prop where
  own : EntsAt wr B v l
  srt : Srt l0 l i k
  below : Below W1.heap.size W1 wr
set_option maxHeartbeats 16000000 in
theorem rlist_any {w : World} {v : Value} {L : List Ent} {D : DataW Unit} (hv : SeeE w v L) (hD : Dc D L) (st : ByteArray) :
    Calls Tryz.prog 18 #[.agg #[v], .string st] w fun e w' => ∃ v l, e = .returned v ∧ Lst D st l ∧ SeeE w' v l ∧ Below w.heap.size w w' := by
  obtain ⟨ad, cp, rfl⟩ := hv.shape'
  obtain ⟨N, hN⟩ : ∃ N, L.length = N := ⟨_, rfl⟩
  rw [hN] at hv ⊢
  obtain ⟨W1, hW1⟩ : ∃ W, w.alloc (.cells #[.slice ad N cp] 33) = W := ⟨_, rfl⟩
  obtain ⟨Q1, hQ1⟩ : ∃ Q, w.heap.size = Q := ⟨_, rfl⟩
  have b1 : Below w.heap.size w W1 := by rw [← hW1]; exact (Below.refl _ _).alloc (Nat.le_refl _) _
  have a1 : W1.heap[Q1]? = some (.cells #[.slice ad N cp] 33 (0, 0)) := by rw [← hW1, ← hQ1]; exact heap_alloc_new w _
  have A1 := hidK a1
  have HB := hidK b1
  have HS := hidK (And.intro (hv.below b1) hN)
  have HLe : Hid (L.length ≤ 200) := hD.few
  have HD := hidK (hD.table st)
  clear b1 a1 hv hN hD
  go_enter Tryz.func18, Tryz.ntmps18
  go_wp2_with fail
  clear hW1 hQ1
  go_loopw [5, 6] (fun xv iv wr => ∃ k : Nat, k ≤ N ∧ iv = .int .i64 k ∧ Hid (EntsAt wr W1.heap.size xv ((L.take k).filter (inT st)) ∧ Below W1.heap.size W1 wr)) (fun _ iv _ => N - (intOf iv).toNat)
  case atStart => exact ⟨0, Nat.zero_le _, rfl, hidK ⟨EntsAt.nil _ _, Below.refl _ _⟩⟩
  case round =>
    obtain ⟨k, hk, rfl, HR⟩ := hrel
    have t0 : wr.cell? ⟨Q1, 0, none⟩ = some (.slice ad N cp) := cell_at (kp HR.out.2 A1.out) 0
    by_cases hlt : k < N
    · skip
      have hka : k < L.length := by rw [HS.out.2]; exact hlt
      obtain ⟨g, o, rfl, hc⟩ := HS.out.1.cells (fun e => by rw [e] at hka; simp at hka)
      have hcs := hc k hka
      obtain ⟨⟨et, ec, em, er, el⟩, hst⟩ : ∃ q, L[k] = q := ⟨_, rfl⟩
      rw [hst] at hcs
      have HX : Hid (L[k]? = some ⟨et, ec, em, er, el⟩) := by show _ = _; rw [List.getElem?_eq_getElem hka, hst]
      have up : ∀ (o : Nat) (v : Value), W1.cell? ⟨g, o, none⟩ = some v → wr.cell? ⟨g, o, none⟩ = some v := fun o v h => (HR.out.2.cell (World.block_lt_of_cell? _ _ h)).trans h
      have e0 : wr.cell? ⟨g, o + k * 5, none⟩ = some (.string et) := up _ _ (hcs 0 _ rfl)
      have e1 : wr.cell? ⟨g, o + k * 5 + 1, none⟩ = some (.int .i64 ec) := up _ _ (hcs 1 _ rfl)
      have e2 : wr.cell? ⟨g, o + k * 5 + 2, none⟩ = some (.int .i64 em) := up _ _ (hcs 2 _ rfl)
      have e3 : wr.cell? ⟨g, o + k * 5 + 3, none⟩ = some (.bool er) := up _ _ (hcs 3 _ rfl)
      have e4 : wr.cell? ⟨g, o + k * 5 + 4, none⟩ = some (.string el) := up _ _ (hcs 4 _ rfl)
      have hi1 : (k : Int) < (N : Int) := by omega
      have hi2 : (k : Int) < 200 := by have h1 := HLe.out; have h2 := HS.out.2; omega
      clear hc hcs hst hka up
      by_cases q0 : et = st
      · subst q0
        have HF := hidK (filt_yes HX.out (inT_yes (e := ⟨et, ec, em, er, el⟩) (t := et) rfl))
        have HLn := hidK (filt_len L k (inT et))
        obtain ⟨Y, hY⟩ : ∃ Y, wr.drewN 0 = Y := ⟨_, rfl⟩
        have hwY : Y = wr := by rw [← hY]; rfl
        have HOy : Hid (EntsAt Y W1.heap.size u5 ((L.take k).filter (inT et))) := by rw [← hY]; exact HR.out.1.below (below_drewN _ _)
        have HBy : Hid (Below W1.heap.size W1 Y) := by show Below _ _ _; rw [← hY]; exact below_step HR.out.2 (below_drewN _ _)
        have f0 : Y.cell? ⟨g, o + k * 5, none⟩ = some (.string et) := by rw [← hY]; exact e0
        have f1 : Y.cell? ⟨g, o + k * 5 + 1, none⟩ = some (.int .i64 ec) := by rw [← hY]; exact e1
        have f2 : Y.cell? ⟨g, o + k * 5 + 2, none⟩ = some (.int .i64 em) := by rw [← hY]; exact e2
        have f3 : Y.cell? ⟨g, o + k * 5 + 3, none⟩ = some (.bool er) := by rw [← hY]; exact e3
        have f4 : Y.cell? ⟨g, o + k * 5 + 4, none⟩ = some (.string el) := by rw [← hY]; exact e4
        have ft : Y.cell? ⟨Q1, 0, none⟩ = some (.slice (some ⟨g, o, none⟩) N cp) := by rw [← hY]; exact t0
        have HSz : Hid (W1.heap.size ≤ Y.heap.size) := HBy.out.size
        clear hY e0 e1 e2 e3 e4 t0
        subst hwY
        go_wp2_with (at_builtin; refine wpList_append_ent _ rfl (.tmp 26) (.tmp 32) rfl W1.heap.size _ ((L.take k).filter (inT et)) rfl (HOy.out.below ((Below.refl _ _).alloc (Nat.le_refl _) _)) Y.heap.size ⟨et, ec, em, er, el⟩ rfl (heap_alloc_new Y _) ?xa1 ?xa2 ?_; (case xa1 => have h1 := HLn.out; have h2 := HLe.out; omega); (case xa2 => have h1 := HSz.out; simp; omega); intro v6 w6 ho6 hg6; have HR6 : Hid (EntsAt w6 W1.heap.size v6 ((L.take (k + 1)).filter (inT et)) ∧ Below W1.heap.size W1 w6) := ⟨by rw [HF.out]; exact ho6, ((HBy.out.alloc HSz.out _).grown hg6 (by have h1 := HSz.out; simp; omega) (fun j hj => (HOy.out.blk hj).1))⟩; clear ho6 hg6)
        go_roundw
        case rel => exact ⟨k + 1, by omega, by first | rfl | go_num, HR6⟩
        case measure => simp [intOf]; omega
      · have HF := hidK (filt_no HX.out (inT_no (e := ⟨et, ec, em, er, el⟩) (t := st) q0))
        have y0 := bytes_ne q0
        clear q0
        have HR6 : Hid (EntsAt wr W1.heap.size u5 ((L.take (k + 1)).filter (inT st)) ∧ Below W1.heap.size W1 wr) := ⟨by rw [HF.out]; exact HR.out.1, HR.out.2⟩
        go_wp2_with fail
        go_roundw
        case rel => exact ⟨k + 1, by omega, by first | rfl | go_num, HR6⟩
        case measure => simp [intOf]; omega
    · obtain rfl : k = N := by omega
      obtain ⟨l0, hl0⟩ : ∃ l, L.filter (inT st) = l := ⟨_, rfl⟩
      have HE : Hid (EntsAt wr W1.heap.size u5 l0) := by
        have h := HR.out.1
        rw [List.take_of_length_le (by rw [HS.out.2]; exact Nat.le_refl _), hl0] at h
        exact h
      have HBw := hidK HR.out.2
      obtain ⟨a5, c5, rfl⟩ := HE.out.slice
      obtain ⟨n, hn⟩ : ∃ n, l0.length = n := ⟨_, rfl⟩
      have hfew : n ≤ 200 := by
        have h1 := List.length_filter_le (inT st) L
        have h2 := HLe.out
        rw [hl0] at h1
        omega
      have HNn := hidK hn
      have HT : Hid ((l0.Pairwise fun a b => ¬ (a.c = b.c ∧ a.m = b.m)) ∧ ∀ e, e ∈ l0 ↔ e.t = st ∧ e.In D) := by rw [← hl0]; exact HD.out
      have HFw : Hid (n ≤ 200) := hfew
      rw [hn] at HE ⊢
      obtain ⟨V, hV⟩ : ∃ V, V = wr := ⟨_, rfl⟩
      subst hV
      have HX0 : Hid (Xc w W1 V W1.heap.size (.slice a5 n c5) l0 l0 0 1) := ⟨HE.out, Srt.start _, HBw.out⟩
      clear HR hk hlt hl0 hn HE HD HBw hfew
      go_wp2_with fail
      clear t0
      go_loopw [7] (fun iv wr => ∃ (i : Nat) (l : List Ent), i ≤ n ∧ iv = .int .i64 i ∧ Hid (Xc w W1 wr W1.heap.size (.slice a5 n c5) l0 l i (i + 1))) (fun iv _ => n - (intOf iv).toNat)
      case atStart => exact ⟨0, l0, Nat.zero_le _, rfl, HX0⟩
      case round =>
        clear HX0
        obtain ⟨i, l, hi, rfl, HX⟩ := hrel
        by_cases hin : i < n
        · have i1 : (i : Int) < (n : Int) := by omega
          have i2 : (i : Int) < 200 := by have := HFw.out; omega
          obtain ⟨gb, rfl⟩ := HX.out.own.own (by omega)
          go_wp2_with fail
          go_loopw [8] (fun kv wr => ∃ (k : Nat) (l : List Ent), i < k ∧ k ≤ n ∧ kv = .int .i64 k ∧ Hid (Xc w W1 wr W1.heap.size (.slice (some ⟨gb, 0, none⟩) n c5) l0 l i k)) (fun kv _ => n - (intOf kv).toNat)
          case atStart => exact ⟨i + 1, l, by omega, by omega, by first | rfl | go_num, HX⟩
          case round =>
            clear HX
            obtain ⟨k, l, hik, hk, rfl, HX⟩ := hrel
            by_cases hkn : k < n
            · have k1 : (k : Int) < (n : Int) := by omega
              have k2 : (k : Int) < 200 := by have := HFw.out; omega
              have hll : l.length = n := by rw [HX.out.srt.len]; exact HNn.out
              have hil : i < l.length := by omega
              have hkl : k < l.length := by omega
              obtain ⟨⟨at_, ac, am, ar, al⟩, hA⟩ : ∃ q, l[i] = q := ⟨_, rfl⟩
              obtain ⟨⟨bt, bc, bm, br, bl⟩, hB⟩ : ∃ q, l[k] = q := ⟨_, rfl⟩
              obtain ⟨p0, p1, p2, p3, p4⟩ := HX.out.own.at5 hil hA
              obtain ⟨q0, q1, q2, q3, q4⟩ := HX.out.own.at5 hkl hB
              have HAB : Hid (∃ (h1 : i < l.length) (h2 : k < l.length), l[i] = ⟨at_, ac, am, ar, al⟩ ∧ l[k] = ⟨bt, bc, bm, br, bl⟩) := ⟨hil, hkl, hA, hB⟩
              have pa1 : ∀ o, (wr.alloc o).cell? ⟨gb, i * 5 + 1, none⟩ = some (.int .i64 ac) := fun o => (((Below.refl wr.heap.size wr).alloc (Nat.le_refl _) o).cell (World.block_lt_of_cell? _ _ p1)).trans p1
              have pa2 : ∀ o, (wr.alloc o).cell? ⟨gb, i * 5 + 2, none⟩ = some (.int .i64 am) := fun o => (((Below.refl wr.heap.size wr).alloc (Nat.le_refl _) o).cell (World.block_lt_of_cell? _ _ p2)).trans p2
              have qa1 : ∀ o, (wr.alloc o).cell? ⟨gb, k * 5 + 1, none⟩ = some (.int .i64 bc) := fun o => (((Below.refl wr.heap.size wr).alloc (Nat.le_refl _) o).cell (World.block_lt_of_cell? _ _ q1)).trans q1
              have qa2 : ∀ o, (wr.alloc o).cell? ⟨gb, k * 5 + 2, none⟩ = some (.int .i64 bm) := fun o => (((Below.refl wr.heap.size wr).alloc (Nat.le_refl _) o).cell (World.block_lt_of_cell? _ _ q2)).trans q2
              have pb1 : ∀ o o', ((wr.alloc o).alloc o').cell? ⟨gb, i * 5 + 1, none⟩ = some (.int .i64 ac) := fun o o' => ((((Below.refl wr.heap.size wr).alloc (Nat.le_refl _) o).alloc (by simp) o').cell (World.block_lt_of_cell? _ _ p1)).trans p1
              have pb2 : ∀ o o', ((wr.alloc o).alloc o').cell? ⟨gb, i * 5 + 2, none⟩ = some (.int .i64 am) := fun o o' => ((((Below.refl wr.heap.size wr).alloc (Nat.le_refl _) o).alloc (by simp) o').cell (World.block_lt_of_cell? _ _ p2)).trans p2
              have qb1 : ∀ o o', ((wr.alloc o).alloc o').cell? ⟨gb, k * 5 + 1, none⟩ = some (.int .i64 bc) := fun o o' => ((((Below.refl wr.heap.size wr).alloc (Nat.le_refl _) o).alloc (by simp) o').cell (World.block_lt_of_cell? _ _ q1)).trans q1
              have qb2 : ∀ o o', ((wr.alloc o).alloc o').cell? ⟨gb, k * 5 + 2, none⟩ = some (.int .i64 bm) := fun o o' => ((((Below.refl wr.heap.size wr).alloc (Nat.le_refl _) o).alloc (by simp) o').cell (World.block_lt_of_cell? _ _ q2)).trans q2
              clear hll hil hkl hA hB p0 p3 p4 q0 q3 q4
              go_wp2_with fail
              go_cut [9, 10] (fun va vb X => ∃ ga gk, va = .pointer (some ⟨ga, 0, none⟩) ∧ vb = .pointer (some ⟨gk, 0, none⟩) ∧ Hid (X.heap[ga]? = some (.cells #[.int .i64 ac, .int .i64 am] 23 (0, 0)) ∧ X.heap[gk]? = some (.cells #[.int .i64 bc, .int .i64 bm] 23 (0, 0)) ∧ Below wr.heap.size wr X))
              case first =>
                go_region
                all_goals (
                  go_wp2_with fail
                  go_meet
                  first | exact ⟨_, _, rfl, rfl, hidK ⟨(two_new wr _ _).1, (two_new wr _ _).2.1, (two_new wr _ _).2.2⟩⟩ | exact ⟨_, _, rfl, rfl, hidK ⟨(two_new wr _ _).2.1, (two_new wr _ _).1, (two_new wr _ _).2.2⟩⟩)
              case rest =>
                obtain ⟨ga, gk, rfl, rfl, HC⟩ := hcut
                obtain ⟨X, hX⟩ : ∃ X, X = wc := ⟨_, rfl⟩
                subst hX
                have ya0 := cell_at HC.out.1 0
                have ya1 := cell_at HC.out.1 1
                have yk0 := cell_at HC.out.2.1 0
                have yk1 := cell_at HC.out.2.1 1
                have HXX : Hid (Xc w W1 X W1.heap.size (.slice (some ⟨gb, 0, none⟩) n c5) l0 l i k) := ⟨HX.out.own.below HC.out.2.2, HX.out.srt, below_step HX.out.below HC.out.2.2⟩
                obtain ⟨cmp, hcmp⟩ : ∃ c, decide (bc < ac ∨ bc = ac ∧ bm < am) = c := ⟨_, rfl⟩
                have HCm := hidK hcmp
                clear pa1 pa2 qa1 qa2 pb1 pb2 qb1 qb2 p1 p2 q1 q2 hcmp HX HC
                go_upto_region 14 with fail
                go_cut [76] (fun v Y => v = .bool cmp ∧ X = Y)
                case first =>
                  by_cases z1 : bc < ac
                  · go_wp2_with fail
                    go_meet
                    case rel => exact ⟨by rw [← HCm.out]; simp [z1], rfl⟩
                  · by_cases z2 : bc = ac
                    · subst z2
                      by_cases z3 : bm < am
                      · go_wp2_with fail
                        go_meet
                        case rel => exact ⟨by rw [← HCm.out]; simp [z3], rfl⟩
                      · go_wp2_with fail
                        go_meet
                        case rel => exact ⟨by rw [← HCm.out]; simp [z3], rfl⟩
                    · have z4 : (bc == ac) = false := by simpa using z2
                      go_wp2_with fail
                      go_meet
                      case rel => exact ⟨by rw [← HCm.out]; simp [z1, z2], rfl⟩
                case rest =>
                  obtain ⟨rfl, rfl⟩ := hcut
                  obtain ⟨h1, h2, hA, hB⟩ := HAB.out
                  clear ya0 ya1 yk0 yk1
                  cases cmp with
                  | false =>
                    have hn : ¬ keyLt l[k] l[i] := by
                      have h := HCm.out
                      rw [hA, hB]
                      simpa [keyLt] using h
                    have HR6 : Hid (Xc w W1 X W1.heap.size (.slice (some ⟨gb, 0, none⟩) n c5) l0 l i (k + 1)) := ⟨HXX.out.own, HXX.out.srt.keep h1 h2 hn, HXX.out.below⟩
                    clear hA hB hn h1 h2
                    go_wp2_with fail
                    go_roundw
                    case rel => exact ⟨k + 1, l, by omega, by omega, by first | rfl | go_num, HR6⟩
                    case measure => simp [intOf]; omega
                  | true =>
                    have hn : keyLt l[k] l[i] := by
                      have h := HCm.out
                      rw [hA, hB]
                      simpa [keyLt] using h
                    obtain ⟨p0, p1, p2, p3, p4⟩ := HXX.out.own.at5 h1 hA
                    obtain ⟨q0, q1, q2, q3, q4⟩ := HXX.out.own.at5 h2 hB
                    have HSr := hidK (HXX.out.srt.swap hik h2 hn)
                    have HGb : Hid (W1.heap.size ≤ gb) := (HXX.out.own.blk rfl).1
                    have HSw := hidK (HXX.out.own.swap h1 h2 hA hB)
                    have HSw2 := hidK (HXX.out.own.swap2 (by omega) h1 h2 hA hB)
                    have wi0 : X.frozen? ⟨gb, i * 5, none⟩ = false := HXX.out.own.free _
                    have wi1 : X.frozen? ⟨gb, i * 5 + 1, none⟩ = false := HXX.out.own.free _
                    have wi2 : X.frozen? ⟨gb, i * 5 + 2, none⟩ = false := HXX.out.own.free _
                    have wi3 : X.frozen? ⟨gb, i * 5 + 3, none⟩ = false := HXX.out.own.free _
                    have wi4 : X.frozen? ⟨gb, i * 5 + 4, none⟩ = false := HXX.out.own.free _
                    have wk0 : X.frozen? ⟨gb, k * 5, none⟩ = false := HXX.out.own.free _
                    have wk1 : X.frozen? ⟨gb, k * 5 + 1, none⟩ = false := HXX.out.own.free _
                    have wk2 : X.frozen? ⟨gb, k * 5 + 2, none⟩ = false := HXX.out.own.free _
                    have wk3 : X.frozen? ⟨gb, k * 5 + 3, none⟩ = false := HXX.out.own.free _
                    have wk4 : X.frozen? ⟨gb, k * 5 + 4, none⟩ = false := HXX.out.own.free _
                    have n00 : ¬ k = i := by omega
                    have n01 : ¬ i = k := by omega
                    have n2 : ¬ k * 5 + 1 = i * 5 := by omega
                    have n3 : ¬ k * 5 = i * 5 + 1 := by omega
                    have n4 : ¬ i * 5 + 1 = k * 5 := by omega
                    have n5 : ¬ i * 5 = k * 5 + 1 := by omega
                    have n6 : ¬ k * 5 + 2 = i * 5 := by omega
                    have n7 : ¬ k * 5 = i * 5 + 2 := by omega
                    have n8 : ¬ i * 5 + 2 = k * 5 := by omega
                    have n9 : ¬ i * 5 = k * 5 + 2 := by omega
                    have n10 : ¬ k * 5 + 3 = i * 5 := by omega
                    have n11 : ¬ k * 5 = i * 5 + 3 := by omega
                    have n12 : ¬ i * 5 + 3 = k * 5 := by omega
                    have n13 : ¬ i * 5 = k * 5 + 3 := by omega
                    have n14 : ¬ k * 5 + 4 = i * 5 := by omega
                    have n15 : ¬ k * 5 = i * 5 + 4 := by omega
                    have n16 : ¬ i * 5 + 4 = k * 5 := by omega
                    have n17 : ¬ i * 5 = k * 5 + 4 := by omega
                    clear hA hB hn h1 h2
                    go_wp2_with fail
                    go_region
                    all_goals (
                      refine gen_exitB (fun Y => EntsAt Y W1.heap.size (.slice (some ⟨gb, 0, none⟩) n c5) (swp l i k) ∧ Below W1.heap.size W1 Y) (by first | exact ⟨EntsAt.drew HSw.out, Below.drew (below_sets HGb.out [_, _, _, _, _] _ (below_sets HGb.out [_, _, _, _, _] _ HXX.out.below))⟩ | exact ⟨EntsAt.drew HSw2.out, Below.drew (below_sets HGb.out [_, _, _, _, _] _ (below_sets HGb.out [_, _, _, _, _] _ HXX.out.below))⟩) ?_
                      rintro Y ⟨hy1, hy2⟩
                      have HR6 : Hid (Xc w W1 Y W1.heap.size (.slice (some ⟨gb, 0, none⟩) n c5) l0 (swp l i k) i (k + 1)) := ⟨hy1, HSr.out, hy2⟩
                      clear hy1 hy2
                      go_wp2_with fail
                      go_roundw
                      case rel => exact ⟨k + 1, swp l i k, by omega, by omega, by first | rfl | go_num, HR6⟩
                      case measure => simp [intOf]; omega)
            · obtain rfl : k = n := by omega
              have HR6 : Hid (Xc w W1 wr W1.heap.size (.slice (some ⟨gb, 0, none⟩) k c5) l0 l (i + 1) (i + 1 + 1)) := ⟨HX.out.own, HX.out.srt.next (by rw [HX.out.srt.len, HNn.out]; exact Nat.le_refl _), HX.out.below⟩
              go_wp2_with fail
              go_roundw
              case rel => exact ⟨i + 1, l, by omega, by first | rfl | go_num, HR6⟩
              case measure => simp [intOf]; omega
        · obtain rfl : i = n := by omega
          have hup := HX.out.srt.done (by rw [HX.out.srt.len, HNn.out]; exact Nat.le_refl _) HT.out.1
          have HFin : Hid (Lst D st l ∧ SeeE wr (.slice a5 i c5) l ∧ Below w.heap.size w wr) := ⟨⟨hup, fun e => (HX.out.srt.perm.mem_iff).trans (HT.out.2 e)⟩, HX.out.own.see, below_step HB.out HX.out.below⟩
          clear hup
          go_wp2_with fail
          go_ret
          exact ⟨_, l, rfl, HFin.out⟩
end Go.Proofs.YtbonnjilbocldaaGreatDoor
