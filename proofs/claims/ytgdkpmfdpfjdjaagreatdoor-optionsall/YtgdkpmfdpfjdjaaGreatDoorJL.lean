/-
  Options: New; where an option may be set.
  Options: Get.
-/
import Derived.Test.YtgdkpmfdpfjdjaaGreatDoorHY
import Derived.Deep.DeepCutAuto
namespace Go.Proofs.YtgdkpmfdpfjdjaaGreatDoor
open Go.RowKit Go.Maps
set_option linter.unusedVariables false
set_option maxRecDepth 100000

theorem tb_start (w : World) : Tb ((w.alloc (.map #[] 0)).alloc (.cells #[.map (some w.heap.size)] 59)) (w.heap.size + 1) w.heap.size 0 [] := by
  refine ⟨.map [], ?_, (World.ownsMap_made _ _ _ _).alloc _, dc_empty⟩
  have e : (w.alloc (.map #[] 0)).heap.size = w.heap.size + 1 := by simp
  rw [← e]
  exact heap_alloc_new _ _
set_option maxHeartbeats 4000000 in
theorem new_any (w : World) : Calls Tryz.prog 10 #[] w fun e w' => e = .returned (.pointer (some ⟨w.heap.size + 1, 0, none⟩)) ∧ Tb w' (w.heap.size + 1) w.heap.size 0 [] ∧ Below w.heap.size w w' := by
  have hmm := @run_makeMap Tryz.prog
  have HT := hidK (tb_start w)
  have HB : Hid (Below w.heap.size w ((w.alloc (.map #[] 0)).alloc (.cells #[.map (some w.heap.size)] 59))) := ((Below.refl _ _).alloc (Nat.le_refl _) _).alloc (by simp) _
  go_enter Tryz.func10, Tryz.ntmps10
  go_wp2_with fail
  go_ret
  exact ⟨rfl, HT.out, HB.out⟩
/-- Places in memory. -/
def SeePl (w : World) (g : Nat) (l : List (Int × Int)) : Prop := w.heap[g]? = some (.cells (l.flatMap fun p => [Value.int .i64 p.1, Value.int .i64 p.2]).toArray 64 (0, 0))
theorem flat_pl : ∀ (l : List (Int × Int)) (j : Nat) (hj : j < l.length), (l.flatMap fun p => [Value.int .i64 p.1, Value.int .i64 p.2])[j * 2]? = some (.int .i64 l[j].1) ∧ (l.flatMap fun p => [Value.int .i64 p.1, Value.int .i64 p.2])[j * 2 + 1]? = some (.int .i64 l[j].2)
  | [], j, hj => by simp at hj
  | a :: r, 0, hj => ⟨rfl, rfl⟩
  | a :: r, j + 1, hj => by
    have h := flat_pl r j (by simpa using hj)
    rw [List.flatMap_cons]
    constructor
    · rw [List.getElem?_append_right (by simp; omega)]
      rw [show (j + 1) * 2 - [Value.int .i64 a.1, Value.int .i64 a.2].length = j * 2 by simp; omega]
      exact h.1
    · rw [List.getElem?_append_right (by simp; omega)]
      rw [show (j + 1) * 2 + 1 - [Value.int .i64 a.1, Value.int .i64 a.2].length = j * 2 + 1 by simp; omega]
      exact h.2
theorem SeePl.at {w : World} {g : Nat} {l : List (Int × Int)} (h : SeePl w g l) {j : Nat} (hj : j < l.length) : w.cell? ⟨g, j * 2, none⟩ = some (.int .i64 l[j].1) ∧ w.cell? ⟨g, j * 2 + 1, none⟩ = some (.int .i64 l[j].2) := by
  obtain ⟨h1, h2⟩ := flat_pl l j hj
  exact ⟨(cell_at h (j * 2)).trans (by rw [List.getElem?_toArray]; exact h1), (cell_at h (j * 2 + 1)).trans (by rw [List.getElem?_toArray]; exact h2)⟩
set_option maxHeartbeats 4000000 in
theorem nearest_any (sc s v p : Int) (w : World) : Calls Tryz.prog 22 #[.int .i64 sc, .int .i64 s, .int .i64 v, .int .i64 p] w fun e w' => ∃ g, e = .returned (.slice (some ⟨g, 0, none⟩) (placesF sc s v p).length (placesF sc s v p).length) ∧ w.heap.size ≤ g ∧ SeePl w' g (placesF sc s v p) ∧ Below w.heap.size w w' := by
  by_cases h2 : sc = 2
  · subst h2
    go_enter Tryz.func22, Tryz.ntmps22
    go_wp2_with fail
    go_ret
    exact ⟨w.heap.size, rfl, Nat.le_refl _, heap_alloc_new _ _, (Below.refl _ _).alloc (Nat.le_refl _) _⟩
  · by_cases h3 : sc = 3
    · subst h3
      go_enter Tryz.func22, Tryz.ntmps22
      go_wp2_with fail
      go_ret
      exact ⟨w.heap.size, rfl, Nat.le_refl _, heap_alloc_new _ _, (Below.refl _ _).alloc (Nat.le_refl _) _⟩
    · by_cases h4 : sc = 4
      · subst h4
        go_enter Tryz.func22, Tryz.ntmps22
        go_wp2_with fail
        go_ret
        exact ⟨w.heap.size, rfl, Nat.le_refl _, heap_alloc_new _ _, (Below.refl _ _).alloc (Nat.le_refl _) _⟩
      · have hp : placesF sc s v p = [(1, 0)] := by unfold placesF; rw [if_neg h2, if_neg h3, if_neg h4]
        rw [hp]
        clear hp
        go_enter Tryz.func22, Tryz.ntmps22
        go_wp2_with fail
        go_ret
        exact ⟨w.heap.size, rfl, Nat.le_refl _, heap_alloc_new _ _, (Below.refl _ _).alloc (Nat.le_refl _) _⟩
theorem near_step {L : List Ent} {nm : ByteArray} {P : List (Int × Int)} {k : Nat} (hk : k < P.length) : nearF L nm (P.drop k) = match atF L P[k].1 P[k].2 nm with
    | some v => some v
    | none => nearF L nm (P.drop (k + 1)) := by
  rw [List.drop_eq_getElem_cons hk]
  rfl
theorem places_wf {sc s v p : Int} (hs : (Lit.int .i64 s).wf = true) (hv : (Lit.int .i64 v).wf = true) (hp : (Lit.int .i64 p).wf = true) : ∀ q ∈ placesF sc s v p, (Lit.int .i64 q.1).wf = true ∧ (Lit.int .i64 q.2).wf = true := by
  have w0 : (Lit.int .i64 0).wf = true := by decide
  have w1 : (Lit.int .i64 1).wf = true := by decide
  have w2 : (Lit.int .i64 2).wf = true := by decide
  have w3 : (Lit.int .i64 3).wf = true := by decide
  have w4 : (Lit.int .i64 4).wf = true := by decide
  unfold placesF
  intro q hq
  split at hq
  · simp at hq; rcases hq with rfl | rfl
    · exact ⟨w2, hs⟩
    · exact ⟨w2, w0⟩
  · split at hq
    · simp at hq; rcases hq with rfl | rfl
      · exact ⟨w3, hv⟩
      · exact ⟨w3, w0⟩
    · split at hq
      · simp at hq; rcases hq with rfl | rfl | rfl | rfl
        · exact ⟨w4, hp⟩
        · exact ⟨w3, hv⟩
        · exact ⟨w4, w0⟩
        · exact ⟨w3, w0⟩
      · simp at hq; subst hq; exact ⟨w1, w0⟩
end Go.Proofs.YtgdkpmfdpfjdjaaGreatDoor

namespace Go.Proofs.YtgdkpmfdpfjdjaaGreatDoor
open Go.RowKit Go.Maps
set_option linter.unusedVariables false
set_option maxRecDepth 100000

def getOut (L : List Ent) (nm : ByteArray) (s v p : Int) (e : Ending) : Prop := e = .returned (.tuple #[.string (getF L nm s v p).1, .int .i64 (getF L nm s v p).2])
theorem getF_some {L : List Ent} {nm : ByteArray} {s v p : Int} {r : Orow} (hr : rowO nm = some r) : getF L nm s v p = ((nearF L nm (placesF r.scope s v p)).getD r.first, 0) := by
  unfold getF
  rw [hr]
theorem places_len (sc s v p : Int) : (placesF sc s v p).length ≤ 4 := by
  unfold placesF
  repeat' split
  all_goals simp
set_option maxHeartbeats 16000000 in
theorem get_some {w : World} {d b n : Nat} {L : List Ent} (h : Tb w d b n L) (hG : Good L) {nm : ByteArray} (hnm : nm.size ≤ 140737488355328) {s v p : Int} (hs : (Lit.int .i64 s).wf = true) (hv : (Lit.int .i64 v).wf = true) (hp : (Lit.int .i64 p).wf = true) {r : Orow} (hr : rowO nm = some r) :
    Calls Tryz.prog 11 #[.pointer (some ⟨d, 0, none⟩), .string nm, .int .i64 s, .int .i64 v, .int .i64 p] w fun e w' => getOut L nm s v p e ∧ Below w.heap.size w w' := by
  have HSx : Hid (∀ Y, Below w.heap.size w Y → Y.cell? ⟨d, 0, none⟩ = some (.map (some b))) := fun Y hY => cell_at (kpO hY h.blk) 0
  have HTb := hidK h
  have HBx := hidK (Below.refl w.heap.size w)
  have HR := hidK hr
  have HK : Hid (nm.size ≤ maxLen) := by show _ ≤ _; unfold maxLen; omega
  have hrs := run_store_func
  have hrn := run_store_nil
  obtain ⟨P, hP⟩ : ∃ P, placesF r.scope s v p = P := ⟨_, rfl⟩
  have HRes : Hid (getF L nm s v p = ((nearF L nm P).getD r.first, 0)) := hP ▸ getF_some hr
  have HPw : Hid (∀ q ∈ P, (Lit.int .i64 q.1).wf = true ∧ (Lit.int .i64 q.2).wf = true) := hP ▸ places_wf hs hv hp
  have HP4 : Hid (P.length ≤ 4) := hP ▸ places_len r.scope s v p
  obtain ⟨rs, hrs0⟩ : ∃ x, r.scope = x := ⟨_, rfl⟩
  obtain ⟨xb, hxb⟩ : ∃ x, isTxt r.kd = x := ⟨_, rfl⟩
  obtain ⟨yb, hyb⟩ : ∃ x, isFlag r.kd = x := ⟨_, rfl⟩
  obtain ⟨fs, hfs⟩ : ∃ x, r.first = x := ⟨_, rfl⟩
  obtain ⟨kd, hkd⟩ : ∃ x, r.kd = x := ⟨_, rfl⟩
  have HE := hidK (And.intro hrs0 (And.intro hxb (And.intro hyb (And.intro hfs hkd))))
  have HNe : Hid (∀ X, Calls Tryz.prog 22 #[.int .i64 rs, .int .i64 s, .int .i64 v, .int .i64 p] X fun e w' => ∃ g, e = .returned (.slice (some ⟨g, 0, none⟩) P.length P.length) ∧ X.heap.size ≤ g ∧ SeePl w' g P ∧ Below X.heap.size X w') := fun X => by
    have := nearest_any rs s v p X
    rw [← hrs0, hP] at this
    rw [← hrs0]
    exact this
  rw [hfs] at HRes
  have HV : Hid (∀ (q : Int × Int) (x : ByteArray), atF L q.1 q.2 nm = some x → x.size ≤ 140737488355328) := fun q x hx => (hG.each _ (atF_mem hx)).1
  have HNm := hidK hnm
  clear hrs0 hxb hyb hfs hkd hr hP h hG hnm hs hv hp
  go_enter Tryz.func11, Tryz.ntmps11
  go_wp2_with fail
  refine table_any.mono ?_
  rintro e Y ⟨l, rfl, hT⟩
  have HYb := hidK hT.below
  rcases hT.looks nm HK.out with ⟨r', g, cap, hr', hkk, hlk⟩ | ⟨hno, -⟩
  rotate_left
  · rw [HR.out] at hno; cases hno
  obtain rfl : r = r' := Option.some.inj (HR.out.symm.trans hr')
  rw [HE.out.1, HE.out.2.1, HE.out.2.2.1, HE.out.2.2.2.1] at hlk
  have hrun := hlk Y rfl
  obtain ⟨X0, hX0, ax, bx, sx⟩ := two_blk (w := Y) #[.int .i64 rs, .func (.func g) #[] cap, .bool xb, .bool yb, .string fs] 51
  obtain ⟨Q, hQ⟩ : ∃ Q, Y.heap.size = Q := ⟨_, rfl⟩
  rw [hQ] at ax
  have HFq := hidK ax
  have HFb : Hid (Below w.heap.size w X0) := bst HYb.out bx
  have x0 := cell_at ax 0
  have HBq : Hid True := trivial
  clear hT hr' hkk hlk bx sx ax HE HBx
  · go_wp2_with fail
    refine (HNe.out _).mono ?_
    rintro e Y ⟨gp, rfl, hge, hsee, hb⟩
    have HY := hidK (bst HFb.out hb)
    have HSee := hidK hsee
    have HQ := hidK (kpO hb HFq.out)
    clear hge hsee hb x0 HFq HFb HNe
    obtain ⟨N, hN⟩ : ∃ N, P.length = N := ⟨_, rfl⟩
    have HN := hidK hN
    have hN4 : N ≤ 4 := by rw [← hN]; exact HP4.out
    rw [hN]
    clear hN
    go_wp2_with fail
    go_loopw [33] (fun iv wr => ∃ k : Nat, k ≤ N ∧ iv = .int .i64 k ∧ Hid (Below Y.heap.size Y wr) ∧ Hid (nearF L nm P = nearF L nm (P.drop k))) (fun iv _ => N - (intOf iv).toNat)
    case atStart => exact ⟨0, Nat.zero_le _, rfl, Below.refl _ _, rfl⟩
    case round =>
      obtain ⟨k, hk, rfl, HW, HD⟩ := hrel
      by_cases hlt : k < N
      · have hkP : k < P.length := by rw [HN.out]; exact hlt
        have i1 : (k : Int) < (N : Int) := by omega
        obtain ⟨⟨ps, pi⟩, hq⟩ : ∃ q, P[k] = q := ⟨_, rfl⟩
        obtain ⟨p0, p1⟩ := SeePl.at (show SeePl wr gp P from kpO HW.out HSee.out) hkP
        rw [hq] at p0 p1
        have hwf := HPw.out P[k] (List.getElem_mem hkP)
        have HSt := hidK (near_step (L := L) (nm := nm) hkP)
        rw [hq] at hwf HSt
        have hkw : keyWf ps pi nm := ⟨hwf.1, hwf.2, HNm.out⟩
        have hlk := (HTb.out.more (bst HY.out HW.out)).look hkw
        obtain ⟨V, hV, av, bv, sv⟩ := two_blk (w := wr) #[.int .i64 ps, .int .i64 pi] 64
        obtain ⟨has, hhas⟩ : ∃ x, (atF L ps pi nm).isSome = x := ⟨_, rfl⟩
        obtain ⟨hs, hhs⟩ : ∃ x, (atF L ps pi nm).getD ⟨#[]⟩ = x := ⟨_, rfl⟩
        rw [hhas, hhs] at hlk
        have HHa := hidK (And.intro hhas hhs)
        obtain ⟨q1, hq1⟩ : ∃ q, wr.heap.size = q := ⟨_, rfl⟩
        rw [hq1] at av
        have HVb := hidK bv
        have HBv : Hid (Below Y.heap.size Y V) := bst HW.out bv
        have hbw := (HTb.out.more (bst HY.out HW.out)).lt.2
        have HSz : Hid (∀ Z, Below V.heap.size V Z → Z.cell? ⟨d, 0, none⟩ = some (.map (some b)) ∧ Z.cell? ⟨q1, 0, none⟩ = some (.int .i64 ps) ∧ Z.cell? ⟨q1, 1, none⟩ = some (.int .i64 pi) ∧ (Instr.lookup 57 (.map (some b)) (.agg #[.int .i64 ps, .int .i64 pi, .string nm]) true).run Tryz.prog Z = .ok (.tuple #[.agg #[.string hs], .bool has]) Z) := fun Z hZ => by
          have e1 := kpO hZ av
          exact ⟨HSx.out Z (bst (bst HY.out HBv.out) hZ), cell_at e1 0, cell_at e1 1, hlk Z (((bst bv hZ).block b hbw))⟩
        have HBz := hidK (Below.refl V.heap.size V)
        clear hq hwf hkw hlk hhas hhs av bv sv hbw hkP
        go_upto_region 7 with fail
        clear p0 p1
        refine wp_region_held_drew (S := (fun X => X.cell? ⟨d, 0, none⟩ = some (.map (some b)) ∧ X.cell? ⟨q1, 0, none⟩ = some (.int .i64 ps) ∧ X.cell? ⟨q1, 1, none⟩ = some (.int .i64 pi) ∧ (Instr.lookup 57 (.map (some b)) (.agg #[.int .i64 ps, .int .i64 pi, .string nm]) true).run Tryz.prog X = .ok (.tuple #[.agg #[.string hs], .bool has]) X)) (by kernel_rfl) ?sG (fun hHeld => ?_)
        case sG => ((try dsimp only); exact HSz.out _ (by first | exact HBz.out | exact HBz.out.drew | exact HBz.out.alloc HBz.out.size _ | exact (HBz.out.alloc HBz.out.size _).setCell (Nat.le_refl _) _))
        have HBn := hidK HBz.out.drew
        clear HBz
        have HBz := hidK HBn.out
        clear HBn
        refine wpAnyH_take (i := 0) (oi := { dst := some 38, op := Op.move (Operand.tmp 0), type := 25, pos := "options.go:135", after := #[], guard := none }) (v := ?vG0n1) rfl (by kernel_rfl) (by kernel_rfl) (by kernel_rfl) (fun _ _ _ h => h) (Or.inl ⟨by rfl, ?yG0n1⟩) (by assumption) ?rG0n1
        case yG0n1 => (intro w hSw; (try dsimp only at hSw); first | (go_simp; done) | (go_simp; with_reducible rfl))
        try simp only [Act.put, List.setIfInBounds_toArray, List.set_cons_zero, List.set_cons_succ]
        refine wpAnyH_take (i := 1) (oi := { dst := some 39, op := Op.nilCheck (Operand.tmp 38), type := 0, pos := "options.go:135", after := #[{ on := 0, ground := Ground.data }], guard := none }) (v := ?vG1n2) rfl (by kernel_rfl) (by kernel_rfl) (by kernel_rfl) (fun _ _ _ h => h) (Or.inl ⟨by rfl, ?yG1n2⟩) (by assumption) ?rG1n2
        case yG1n2 => (intro w hSw; (try dsimp only at hSw); first | (go_simp; done) | (go_simp; with_reducible rfl))
        try simp only [Act.put, List.setIfInBounds_toArray, List.set_cons_zero, List.set_cons_succ]
        refine wpAnyH_take (i := 2) (oi := { dst := some 40, op := Op.fieldAddr 59 (Operand.tmp 39) 0, type := 0, pos := "options.go:135", after := #[{ on := 1, ground := Ground.data }], guard := none }) (v := ?vG2n3) rfl (by kernel_rfl) (by kernel_rfl) (by kernel_rfl) (fun _ _ _ h => h) (Or.inl ⟨by rfl, ?yG2n3⟩) (by assumption) ?rG2n3
        case yG2n3 => (intro w hSw; (try dsimp only at hSw); first | (go_simp; done) | (go_simp; with_reducible rfl))
        try simp only [Act.put, List.setIfInBounds_toArray, List.set_cons_zero, List.set_cons_succ]
        refine wpAnyH_take (i := 3) (oi := { dst := some 41, op := Op.load 57 (Operand.tmp 40), type := 57, pos := "options.go:135", after := #[{ on := 2, ground := Ground.data }], guard := none }) (v := ?vG3n4) rfl (by kernel_rfl) (by kernel_rfl) (by kernel_rfl) (fun _ _ _ h => h) (Or.inl ⟨by rfl, ?yG3n4⟩) (by assumption) ?rG3n4
        case yG3n4 => (intro w hSw; (try dsimp only at hSw); first | (go_simp; done) | (go_simp; with_reducible rfl))
        try simp only [Act.put, List.setIfInBounds_toArray, List.set_cons_zero, List.set_cons_succ]
        refine wpAnyH_take (i := 4) (oi := { dst := some 42, op := Op.load 64 (Operand.tmp 15), type := 64, pos := "options.go:135", after := #[], guard := none }) (v := ?vG4n5) rfl (by kernel_rfl) (by kernel_rfl) (by kernel_rfl) (fun _ _ _ h => h) (Or.inl ⟨by rfl, ?yG4n5⟩) (by assumption) ?rG4n5
        case yG4n5 => (intro w hSw; (try dsimp only at hSw); first | (go_simp; done) | (go_simp; with_reducible rfl))
        try simp only [Act.put, List.setIfInBounds_toArray, List.set_cons_zero, List.set_cons_succ]
        refine wpAnyH_take (i := 5) (oi := { dst := some 43, op := Op.move (Operand.tmp 1), type := 9, pos := "options.go:135", after := #[], guard := none }) (v := ?vG5n6) rfl (by kernel_rfl) (by kernel_rfl) (by kernel_rfl) (fun _ _ _ h => h) (Or.inl ⟨by rfl, ?yG5n6⟩) (by assumption) ?rG5n6
        case yG5n6 => (intro w hSw; (try dsimp only at hSw); first | (go_simp; done) | (go_simp; with_reducible rfl))
        try simp only [Act.put, List.setIfInBounds_toArray, List.set_cons_zero, List.set_cons_succ]
        refine wpAnyH_take (i := 6) (oi := { dst := some 44, op := Op.build 69 #[(0, Operand.tmp 42), (1, Operand.tmp 43)], type := 69, pos := "options.go:135", after := #[{ on := 4, ground := Ground.data }, { on := 5, ground := Ground.data }], guard := none }) (v := ?vG6n7) rfl (by kernel_rfl) (by kernel_rfl) (by kernel_rfl) (fun _ _ _ h => h) (Or.inl ⟨by rfl, ?yG6n7⟩) (by assumption) ?rG6n7
        case yG6n7 => (intro w hSw; (try dsimp only at hSw); first | (go_simp; done) | (go_simp; with_reducible rfl))
        try simp only [Act.put, List.setIfInBounds_toArray, List.set_cons_zero, List.set_cons_succ]
        refine wpAnyH_take (i := 7) (oi := { dst := some 45, op := Op.lookup 57 (Operand.tmp 41) (Operand.tmp 44) true, type := 67, pos := "options.go:135", after := #[{ on := 3, ground := Ground.data }, { on := 6, ground := Ground.data }], guard := none }) (v := ?vG7n8) rfl (by kernel_rfl) (by kernel_rfl) (by kernel_rfl) (fun _ _ _ h => h) (Or.inl ⟨by rfl, ?yG7n8⟩) (by assumption) ?rG7n8
        case yG7n8 => (intro w hSw; (try dsimp only at hSw); first | (go_simp; done) | (go_simp; with_reducible rfl))
        try simp only [Act.put, List.setIfInBounds_toArray, List.set_cons_zero, List.set_cons_succ]
        refine wpAnyH_take (i := 8) (oi := { dst := some 37, op := Op.move (Operand.tmp 45), type := 67, pos := "options.go:135", after := #[{ on := 7, ground := Ground.data }], guard := none }) (v := ?vG8n9) rfl (by kernel_rfl) (by kernel_rfl) (by kernel_rfl) (fun _ _ _ h => h) (Or.inl ⟨by rfl, ?yG8n9⟩) (by assumption) ?rG8n9
        case yG8n9 => (intro w hSw; (try dsimp only at hSw); first | (go_simp; done) | (go_simp; with_reducible rfl))
        try simp only [Act.put, List.setIfInBounds_toArray, List.set_cons_zero, List.set_cons_succ]
        refine wpAnyH_take (i := 9) (oi := { dst := some 46, op := Op.extract (Operand.tmp 37) 0, type := 66, pos := "options.go:135", after := #[{ on := 8, ground := Ground.data }], guard := none }) (v := ?vG9n10) rfl (by kernel_rfl) (by kernel_rfl) (by kernel_rfl) (fun _ _ _ h => h) (Or.inl ⟨by rfl, ?yG9n10⟩) (by assumption) ?rG9n10
        case yG9n10 => (intro w hSw; (try dsimp only at hSw); first | (go_simp; done) | (go_simp; with_reducible rfl))
        try simp only [Act.put, List.setIfInBounds_toArray, List.set_cons_zero, List.set_cons_succ]
        refine wpAnyH_take (i := 10) (oi := { dst := some 47, op := Op.extract (Operand.tmp 37) 1, type := 4, pos := "options.go:135", after := #[{ on := 8, ground := Ground.data }, { on := 12, ground := Ground.gcOnly Departure.lateStores }], guard := none }) (v := ?vG10n11) rfl (by kernel_rfl) (by kernel_rfl) (by kernel_rfl) (fun _ _ _ h => h) (Or.inl ⟨by rfl, ?yG10n11⟩) (by assumption) ?rG10n11
        case yG10n11 => (intro w hSw; (try dsimp only at hSw); first | (go_simp; done) | (go_simp; with_reducible rfl))
        try simp only [Act.put, List.setIfInBounds_toArray, List.set_cons_zero, List.set_cons_succ]
        refine wpAnyH_ready (rs := [11]) (by kernel_rfl) (by simp) (AllReadyH.cons (o := { dst := some 16, op := Op.alloc 66, type := 0, pos := "options.go:135", after := #[], guard := none }) rfl (fun K hK => ?bGn12q0) AllReadyH.nil)
        go_simp
        refine hK.out _ _ ?kGn12o11 (fun hHeld12 => ?_)
        case kGn12o11 => ((try dsimp only); exact HSz.out _ (by first | exact HBz.out | exact HBz.out.drew | exact HBz.out.alloc HBz.out.size _ | exact (HBz.out.alloc HBz.out.size _).setCell (Nat.le_refl _) _))
        clear hK K
        skip
        try simp only [Act.put, List.setIfInBounds_toArray, List.set_cons_zero, List.set_cons_succ]
        refine wpAnyH_ready (rs := [12]) (by kernel_rfl) (by simp) (AllReadyH.cons (o := { dst := none, op := Op.store 66 (Operand.tmp 16) (Operand.tmp 46), type := 0, pos := "options.go:135", after := #[{ on := 11, ground := Ground.data }, { on := 9, ground := Ground.data }, { on := 0, ground := Ground.phase }, { on := 1, ground := Ground.phase }, { on := 2, ground := Ground.phase }, { on := 3, ground := Ground.phase }, { on := 4, ground := Ground.phase }, { on := 5, ground := Ground.phase }, { on := 6, ground := Ground.phase }, { on := 7, ground := Ground.phase }, { on := 8, ground := Ground.phase }, { on := 9, ground := Ground.phase }, { on := 10, ground := Ground.textOnly Departure.lateStores }, { on := 11, ground := Ground.phase }], guard := none }) rfl (fun K hK => ?bGn13q0) AllReadyH.nil)
        go_simp
        refine hK.out _ _ ?kGn13o12 (fun hHeld13 => ?_)
        case kGn13o12 => ((try dsimp only); exact HSz.out _ (by first | exact HBz.out | exact HBz.out.drew | exact HBz.out.alloc HBz.out.size _ | exact (HBz.out.alloc HBz.out.size _).setCell (Nat.le_refl _) _))
        clear hK K
        skip
        try simp only [Act.put, List.setIfInBounds_toArray, List.set_cons_zero, List.set_cons_succ]
        refine wpAnyH_take (i := 13) (oi := { dst := some 17, op := Op.assign (Operand.tmp 47), type := 4, pos := "options.go:135", after := #[{ on := 10, ground := Ground.data }, { on := 12, ground := Ground.chain }, { on := 0, ground := Ground.phase }, { on := 1, ground := Ground.phase }, { on := 2, ground := Ground.phase }, { on := 3, ground := Ground.phase }, { on := 4, ground := Ground.phase }, { on := 5, ground := Ground.phase }, { on := 6, ground := Ground.phase }, { on := 7, ground := Ground.phase }, { on := 8, ground := Ground.phase }, { on := 9, ground := Ground.phase }, { on := 10, ground := Ground.phase }, { on := 11, ground := Ground.phase }, { on := 12, ground := Ground.phase }], guard := none }) (v := ?vG13n14) rfl (by kernel_rfl) (by kernel_rfl) (by kernel_rfl) (fun _ _ _ h => h) (Or.inl ⟨by rfl, ?yG13n14⟩) (by assumption) ?rG13n14
        case yG13n14 => (intro w hSw; (try dsimp only at hSw); first | (go_simp; done) | (go_simp; with_reducible rfl))
        try simp only [Act.put, List.setIfInBounds_toArray, List.set_cons_zero, List.set_cons_succ]
        refine wpAnyH_done (by kernel_rfl) ?_ _
        refine gen_exitO (fun Z => Below V.heap.size V Z ∧ Z.heap[V.heap.size]? = some (.cells #[.string hs] 66 (0, 0))) ?g1 ?_
        case g1 => first | exact ⟨(Below.refl _ _).drew.alloc (Nat.le_refl _) _, heap_alloc_new V.drew _⟩ | exact ⟨((Below.refl _ _).drew.alloc (Nat.le_refl _) _).setCell (Nat.le_refl _) _, put_at (heap_alloc_new V.drew _) 0 _⟩
        rintro Z ⟨hz1, hz2⟩
        have HZ := hidK (bst HBv.out hz1)
        obtain ⟨q4, hq4⟩ : ∃ Q, V.heap.size = Q := ⟨_, rfl⟩
        rw [hq4] at hz2 ⊢
        have z0 : Z.cell? ⟨q4, 0, none⟩ = some (.string hs) := cell_at hz2 0
        clear hz1 hz2 HSz HBz hV hq1 HVb
        cases has with
        | true =>
          have HA : Hid (atF L ps pi nm = some hs) := by
            obtain ⟨h1, h2⟩ := HHa.out
            show _ = _
            cases q : atF L ps pi nm with
            | none => rw [q] at h1; cases h1
            | some x => rw [q] at h2; rw [← h2]; rfl
          have HC := hidK (clone_any hs Z (HV.out (ps, pi) hs HA.out))
          go_wp2_with fail
          refine HC.out.mono ?_
          rintro e Z2 ⟨rfl, hb2⟩
          have HZ2 := hidK (bst (bst HY.out HZ.out) hb2)
          clear hb2
          go_wp2_with fail
          go_ret2
          refine ⟨?_, HZ2.out⟩
          unfold getOut
          rw [HRes.out, HD.out, HSt.out, HA.out]
          rfl
        | false =>
          have HA : Hid (atF L ps pi nm = none) := by
            obtain ⟨h1, h2⟩ := HHa.out
            show _ = _
            cases q : atF L ps pi nm with
            | none => rfl
            | some x => rw [q] at h1; cases h1
          have HD2 : Hid (nearF L nm P = nearF L nm (P.drop (k + 1))) := by
            show _ = _
            rw [HD.out, HSt.out, HA.out]
          go_wp2_with fail
          go_roundw
          case rel => exact ⟨k + 1, by omega, by go_num, HZ.out, HD2⟩
          case measure => simp [intOf]; omega
      · have i1 : ¬ (k : Int) < (N : Int) := by omega
        have f0 : wr.cell? ⟨Q, 4, none⟩ = some (.string fs) := cell_at (kpO HW.out HQ.out) 4
        have hd : P.drop k = [] := List.drop_eq_nil_of_le (by rw [HN.out]; omega)
        have HDe := hidK hd
        clear hd
        go_wp2_with fail
        go_ret2
        refine ⟨?_, bst HY.out HW.out⟩
        unfold getOut
        rw [HRes.out, HD.out, HDe.out]
        rfl
set_option maxHeartbeats 4000000 in
theorem get_none {w : World} {d : Nat} {L : List Ent} {nm : ByteArray} (hnm : nm.size ≤ 140737488355328) {s v p : Int} (hr : rowO nm = none) :
    Calls Tryz.prog 11 #[.pointer (some ⟨d, 0, none⟩), .string nm, .int .i64 s, .int .i64 v, .int .i64 p] w fun e w' => getOut L nm s v p e ∧ Below w.heap.size w w' := by
  have HR := hidK hr
  have HK : Hid (nm.size ≤ maxLen) := by show _ ≤ _; unfold maxLen; omega
  have HRes : Hid (getF L nm s v p = (⟨#[]⟩, 230)) := by show getF _ _ _ _ _ = _; unfold getF; rw [hr]
  have hrn := run_store_nil
  clear hr hnm
  go_enter Tryz.func11, Tryz.ntmps11
  go_wp2_with fail
  refine table_any.mono ?_
  rintro e Y ⟨l, rfl, hT⟩
  have HYb := hidK hT.below
  rcases hT.looks nm HK.out with ⟨r', g, cap, hr', hkk, hlk⟩ | ⟨-, hlk⟩
  · rw [HR.out] at hr'; cases hr'
  have hrun := hlk Y rfl
  clear hT hlk
  go_wp2_with fail
  go_ret2
  refine ⟨?_, HYb.out.alloc HYb.out.size _⟩
  unfold getOut
  rw [HRes.out]
  rfl
theorem get_any {w : World} {d b n : Nat} {L : List Ent} (h : Tb w d b n L) (hG : Good L) {nm : ByteArray} (hnm : nm.size ≤ 140737488355328) {s v p : Int} (hs : (Lit.int .i64 s).wf = true) (hv : (Lit.int .i64 v).wf = true) (hp : (Lit.int .i64 p).wf = true) :
    Calls Tryz.prog 11 #[.pointer (some ⟨d, 0, none⟩), .string nm, .int .i64 s, .int .i64 v, .int .i64 p] w fun e w' => getOut L nm s v p e ∧ Below w.heap.size w w' := by
  cases hr : rowO nm with
  | none => exact get_none hnm hr
  | some r => exact get_some h hG hnm hs hv hp hr
end Go.Proofs.YtgdkpmfdpfjdjaaGreatDoor
