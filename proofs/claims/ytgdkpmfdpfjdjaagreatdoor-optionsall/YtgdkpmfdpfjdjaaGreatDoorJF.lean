/-
  Options: both sides in memory, and what a step does to them.
  Options, the statement's play.
  Options: the laws that are one play of both sides.
  Options: what a list of steps that comes in is.
-/
import Derived.Test.YtgdkpmfdpfjdjaaGreatDoorJD
import Derived.Test.YtgdkpmfdpfjdjaaGreatDoorJE
import Derived.Test.YtgdkpmfdpfjdjaaGreatDoorHZ
import Derived.Test.YtgdkpmfdpfjdjaaGreatDoorJK
import Derived.Test.YtgdkpmfdpfjdjaaGreatDoorJA
import Derived.Test.YtgdkpmfdpfjdjaaGreatDoorRows
import Derived.Deep.DeepCutAuto
import Derived.Deep.Slices
import Derived.ChangeArms
import Derived.Carry
import Derived.OpenShut
import Derived.SizedLaws
import Derived.LaidLaws
namespace Go.Proofs.YtgdkpmfdpfjdjaaGreatDoor
open Go.RowKit Go.Maps
set_option linter.unusedVariables false
set_option maxRecDepth 100000

/-- A step of a play. -/
structure Ps where
  k : Int
  sc : Int
  a : Int
  b : Int
  c : Int
  nm : ByteArray
  vl : ByteArray
instance : Inhabited Ps := ⟨⟨0, 0, 0, 0, 0, ⟨#[]⟩, ⟨#[]⟩⟩⟩
def encP (s : Ps) : List Value := [.int .i64 s.k, .int .i64 s.sc, .int .i64 s.a, .int .i64 s.b, .int .i64 s.c, .string s.nm, .string s.vl]
structure Ps.wf (s : Ps) : Prop where
  sc : (Lit.int .i64 s.sc).wf = true
  a : (Lit.int .i64 s.a).wf = true
  b : (Lit.int .i64 s.b).wf = true
  c : (Lit.int .i64 s.c).wf = true
  nm : s.nm.size ≤ 140737488351232
  vl : s.vl.size ≤ 140737488351232
def SeeP (w : World) (v : Value) (l : List Ps) : Prop := ∃ a c, v = .slice a l.length c ∧ (l ≠ [] → ∃ g o, a = some ⟨g, o, none⟩ ∧ ∀ j (hj : j < l.length) (c : Nat) u, (encP l[j])[c]? = some u → w.cell? ⟨g, o + j * 7 + c, none⟩ = some u)
theorem good_set {L : List Ent} (hG : Good L) {sc id : Int} {nm vl : ByteArray} (hv : vl.size ≤ 140737488355328) : Good (setF L sc id nm vl).1 := by
  unfold setF
  cases hr : rowO nm with
  | none => exact hG
  | some r =>
    dsimp only
    by_cases h : placeF sc id nm = 0
    · rw [if_neg (fun q => q h)]; exact hG.put hr hv
    · rw [if_pos h]; exact hG
theorem good_add {L : List Ent} (hG : Good L) {sc id : Int} {nm vl : ByteArray} (hv : vl.size ≤ 140737488351232) : Good (addF L sc id nm vl).1 := by
  unfold addF
  cases hr : rowO nm with
  | none => exact hG
  | some r =>
    dsimp only
    by_cases h : placeF sc id nm = 0
    · rw [if_neg (fun q => q h)]
      cases ht : isTxt r.kd with
      | false => exact hG
      | true =>
        refine hG.put hr ?_
        have := now_short hG (sc := sc) (id := id) hr ht
        unfold nowF
        rw [(rowO_mem hr).2, ByteArray.size_append]
        omega
    · rw [if_pos h]; exact hG
theorem good_turn {L : List Ent} (hG : Good L) {sc id : Int} {nm : ByteArray} : Good (turnF L sc id nm).1 := by
  unfold turnF
  cases hr : rowO nm with
  | none => exact hG
  | some r =>
    dsimp only
    by_cases h : placeF sc id nm = 0
    · rw [if_neg (fun q => q h)]
      cases ht : isFlag r.kd with
      | false => exact hG
      | true =>
        refine hG.put hr ?_
        split <;> decide
    · rw [if_pos h]; exact hG
theorem good_unset {L : List Ent} (hG : Good L) {sc id : Int} {nm : ByteArray} : Good (unsetF L sc id nm).1 := by
  unfold unsetF
  by_cases h : placeF sc id nm = 0
  · rw [if_neg (fun q => q h)]; exact hG.filter _
  · rw [if_pos h]; exact hG
theorem good_drop {L : List Ent} (hG : Good L) {sc id : Int} : Good (dropF L sc id) := by
  unfold dropF
  by_cases h : id = 0
  · rw [if_pos h]; exact hG
  · rw [if_neg h]; exact hG.filter _
theorem Tb.map {w : World} {d b n : Nat} {L : List Ent} (h : Tb w d b n L) : ∃ es c, w.heap[b]? = some (.map es c) := by
  obtain ⟨D, h⟩ := h
  obtain ⟨es, clock, hb, _⟩ := h.own
  exact ⟨es, clock, hb⟩
theorem SeeE.tn {X Y : World} {d b n n' : Nat} {L L' l : List Ent} {v : Value} (h : SeeE X v l) (hX : Tb X d b n L) (ht : Tn X Y d b n' L') : SeeE Y v l := by
  obtain ⟨a, c, rfl, hc⟩ := h
  refine ⟨a, c, rfl, fun hne => ?_⟩
  obtain ⟨g, o, rfl, hcell⟩ := hc hne
  refine ⟨g, o, rfl, fun j hj k x hx => ?_⟩
  have h1 := hcell j hj k x hx
  have hg : g ≠ b := by
    rintro rfl
    obtain ⟨es, cl, hb⟩ := hX.map
    simp [World.cell?, hb] at h1
  have h2 := ht.but.block g (World.block_lt_of_cell? X _ h1) (by simpa using hg)
  rw [← h1]
  unfold World.cell?
  rw [h2]
/-- Both sides. -/
structure Sd (w X : World) (d b n Q : Nat) (L Ld : List Ent) (v : Value) : Prop where
  old : Below w.heap.size w X
  lo : w.heap.size ≤ b ∧ w.heap.size ≤ Q
  tb : Tb X d b n L
  see : SeeE X v Ld
  q : X.heap[Q]? = some (.cells #[v] 34 (0, 0))
  good : Good L
theorem Sd.below {w X Y : World} {d b n Q : Nat} {L Ld : List Ent} {v : Value} (h : Sd w X d b n Q L Ld v) (hb : Below X.heap.size X Y) : Sd w Y d b n Q L Ld v :=
  ⟨bst h.old hb, h.lo, h.tb.more hb, h.see.below hb, kpO hb h.q, h.good⟩
theorem Sd.prog {w X Y : World} {d b n n' Q : Nat} {L L' Ld : List Ent} {v : Value} (h : Sd w X d b n Q L Ld v) (ht : Tn X Y d b n' L') (hG : Good L') : Sd w Y d b n' Q L' Ld v :=
  ⟨⟨ht.but.os.trans h.old.os, ht.but.tape.trans h.old.tape, ht.but.output.trans h.old.output, Nat.le_trans h.old.size ht.but.size, fun k hk => (ht.but.block k (Nat.lt_of_lt_of_le hk h.old.size) (by have := h.lo.1; simp; omega)).trans (h.old.block k hk)⟩,
   h.lo, ht.tb, h.see.tn h.tb ht, Tn.far h.tb ht h.q, hG⟩
theorem Sd.doc {w X : World} {d b n Q : Nat} {L Ld L' : List Ent} {v v' : Value} (h : Sd w X d b n Q L Ld v) (hs : SeeE X v' L') : Sd w (X.setCell ⟨Q, 0, none⟩ v') d b n Q L L' v' := by
  obtain ⟨D, hD⟩ := h.tb
  have hd : d ≠ Q := fun e => by
    have := hD.blk
    rw [e, h.q] at this
    cases this
  have hb : b ≠ Q := fun e => by
    obtain ⟨es, cl, hm⟩ := h.tb.map
    rw [e, h.q] at hm
    cases hm
  exact ⟨h.old.setCell h.lo.2 _, h.lo, ⟨D, put_other hD.blk hd _ _, own_same hD.own (put_other rfl hb _ _), hD.dc⟩, hs.far h.q _, put_at h.q 0 v', h.good⟩
theorem Sd.op {w X : World} {d b n Q : Nat} {L Ld : List Ent} {v v' : Value} (h : Sd w X d b n Q L Ld v) {q : Nat} {cs : Array Value} (hq : X.heap[q]? = some (.cells cs 78 (0, 0))) : (X.setCell ⟨Q, 0, none⟩ v').heap[q]? = some (.cells cs 78 (0, 0)) :=
  put_other hq (fun e => by rw [e, h.q] at hq; cases hq) _ _
end Go.Proofs.YtgdkpmfdpfjdjaaGreatDoor

namespace Go.Proofs.YtgdkpmfdpfjdjaaGreatDoor
open Go.RowKit Go.Maps
set_option linter.unusedVariables false
set_option maxRecDepth 100000

set_option maxHeartbeats 80000000 in
theorem play_any {w : World} (hE : Env w) (v : Value) (l : List Ps) (hv : SeeP w v l) (hl : ∀ s ∈ l, s.wf) (lo hi : Int) :
    Calls Tryz.prog 17 #[v, .int .i64 lo, .int .i64 hi] w fun r w' => r = .returned (.bool true) ∧ Below w.heap.size w w' := by
  obtain ⟨ad, cp, rfl, hcell⟩ := hv
  obtain ⟨N, hN⟩ : ∃ N, l.length = N := ⟨_, rfl⟩
  rw [hN]
  have HNw := hidK (new_any w)
  have HE := hidK hE
  have HSu : Hid (∀ Y, Below w.heap.size w Y → Calls Tryz.prog 16 #[] Y fun r w' => r = .returned (.bool true) ∧ Below Y.heap.size Y w') := fun Y hY => sure_any (hE.below hY)
  have HCe := hidK hcell
  have HN := hidK hN
  have HL := hidK hl
  obtain ⟨d, hd⟩ : ∃ d, w.heap.size + 1 = d := ⟨_, rfl⟩
  obtain ⟨b, hb⟩ : ∃ b, w.heap.size = b := ⟨_, rfl⟩
  have Hb := hidK hb
  rw [hd, hb] at HNw
  clear hE hcell hN hl hd hb
  go_enter Tryz.func17, Tryz.ntmps17
  go_wp2_with fail
  refine HNw.out.mono ?_
  rintro e w1 ⟨rfl, ht1, hb1⟩
  obtain ⟨W0, hW0, a0, b0, s0⟩ := two_blk (w := w1) #[.slice none 0 0] 34
  obtain ⟨Q, hQ⟩ : ∃ Q, w1.heap.size = Q := ⟨_, rfl⟩
  rw [hQ] at a0
  have hbw : Below w.heap.size w w1 := by rw [Hb.out]; exact hb1
  have HS0 : Hid (Sd w W0 d b 0 Q [] [] (.slice none 0 0)) := ⟨bst hbw b0, by have h1 := Hb.out; have h2 := hbw.size; omega, ht1.more b0, ⟨none, 0, rfl, fun h => absurd rfl h⟩, a0, good_nil⟩
  have HS1 : Hid (Sd w (W0.setCell ⟨Q, 0, none⟩ (.slice none 0 0)) d b 0 Q [] [] (.slice none 0 0)) := HS0.out.doc ⟨none, 0, rfl, fun h => absurd rfl h⟩
  have z0 := cell_at a0 0
  have zf := free_at a0 0
  clear ht1 hb1 hbw a0 b0 s0 HNw HS0
  go_wp2_with fail
  clear hW0 hQ z0 zf
  go_loopw [9] (fun iv wr => ∃ (k : Nat) (L : List Ent) (n : Nat) (vd : Value), k ≤ N ∧ k ≤ 600 ∧ iv = .int .i64 k ∧ Hid (n ≤ k) ∧ Hid (Sd w wr d b n Q L L vd)) (fun iv _ => N - (intOf iv).toNat)
  case atStart => exact ⟨0, [], 0, _, Nat.zero_le _, Nat.zero_le _, rfl, Nat.le_refl _, HS1⟩
  case round =>
    clear HS1
    obtain ⟨k, L, n, vd, hk, hk2, rfl, HNn, HS⟩ := hrel
    obtain ⟨cnd, hcnd⟩ : ∃ c, (decide (k < N) && decide (k < 600)) = c := ⟨_, rfl⟩
    have HC0 := hidK hcnd
    clear hcnd
    go_upto_region 6 with fail
    go_cut [31] (fun v X => v = .bool cnd ∧ wr = X)
    case first =>
      by_cases q1 : k < N
      · have i1 : (k : Int) < (N : Int) := by omega
        by_cases q2 : k < 600
        · have i2 : (k : Int) < 600 := by omega
          go_wp2_with fail
          go_meet
          case rel => exact ⟨by rw [← HC0.out]; simp [q1, q2], rfl⟩
        · have i2 : ¬ (k : Int) < 600 := by omega
          go_wp2_with fail
          go_meet
          case rel => exact ⟨by rw [← HC0.out]; simp [q2], rfl⟩
      · have i1 : ¬ (k : Int) < (N : Int) := by omega
        go_wp2_with fail
        go_meet
        case rel => exact ⟨by rw [← HC0.out]; simp [q1], rfl⟩
    case rest =>
      obtain ⟨rfl, rfl⟩ := hcut
      cases cnd with
      | false =>
        go_wp2_with fail
        refine (HSu.out _ HS.out.old).mono ?_
        rintro e' Y ⟨rfl, hb⟩
        have HBz := hidK (bst HS.out.old hb)
        clear hb
        go_wp2_with fail
        go_ret
        exact ⟨rfl, HBz.out⟩
      | true =>
        have hkk : k < N ∧ k < 600 := by have := HC0.out; simpa using this
        have hka : k < l.length := by rw [HN.out]; exact hkk.1
        obtain ⟨g, o, rfl, hc⟩ := HCe.out (fun e => by rw [e] at hka; simp at hka)
        have hcs := hc k hka
        have hsw := HL.out _ (List.getElem_mem hka)
        obtain ⟨⟨kd, sc, ia, ib, ic, nm, vl⟩, hst⟩ : ∃ q, l[k] = q := ⟨_, rfl⟩
        rw [hst] at hcs hsw
        have up : ∀ (o : Nat) (v : Value), w.cell? ⟨g, o, none⟩ = some v → wr.cell? ⟨g, o, none⟩ = some v := fun o v h => (HS.out.old.cell (World.block_lt_of_cell? w _ h)).trans h
        have e0 : wr.cell? ⟨g, o + k * 7, none⟩ = some (.int .i64 kd) := up _ _ (hcs 0 _ rfl)
        have e1 : wr.cell? ⟨g, o + k * 7 + 1, none⟩ = some (.int .i64 sc) := up _ _ (hcs 1 _ rfl)
        have e2 : wr.cell? ⟨g, o + k * 7 + 2, none⟩ = some (.int .i64 ia) := up _ _ (hcs 2 _ rfl)
        have e3 : wr.cell? ⟨g, o + k * 7 + 3, none⟩ = some (.int .i64 ib) := up _ _ (hcs 3 _ rfl)
        have e4 : wr.cell? ⟨g, o + k * 7 + 4, none⟩ = some (.int .i64 ic) := up _ _ (hcs 4 _ rfl)
        have e5 : wr.cell? ⟨g, o + k * 7 + 5, none⟩ = some (.string nm) := up _ _ (hcs 5 _ rfl)
        have e6 : wr.cell? ⟨g, o + k * 7 + 6, none⟩ = some (.string vl) := up _ _ (hcs 6 _ rfl)
        have i1 : (k : Int) < (N : Int) := by omega
        have i2 : (k : Int) < 600 := by omega
        have HKk : Hid (k + 1 ≤ N ∧ k + 1 ≤ 600) := by show _ ∧ _; omega
        have HSw : Hid (Ps.wf ⟨kd, sc, ia, ib, ic, nm, vl⟩) := hsw
        have HNmS : Hid (nm.size ≤ 140737488351232) := hsw.nm
        have HVlS : Hid (vl.size ≤ 140737488351232) := hsw.vl
        clear hc hcs hst hsw hka up hkk HC0 hk hk2 HCe
        obtain ⟨V, hV, a5, b5, s5⟩ := two_blk (w := wr) #[.int .i64 kd, .int .i64 sc, .int .i64 ia, .int .i64 ib, .int .i64 ic, .string nm, .string vl] 78
        obtain ⟨q, hq⟩ : ∃ q, wr.heap.size = q := ⟨_, rfl⟩
        rw [hq] at a5
        have HS5 := hidK (HS.out.below b5)
        have HEn5 := hidK (HE.out.below HS5.out.old)
        have HA5 := hidK a5
        have g0 := cell_at a5 0
        have g1 := cell_at a5 1
        have g2 := cell_at a5 2
        have g3 := cell_at a5 3
        have g4 := cell_at a5 4
        have g5 := cell_at a5 5
        have g6 := cell_at a5 6
        have HVe := hidK hV
        have Hqe := hidK hq
        clear a5 b5 s5 hV hq
        go_upto_region 9 with fail
        rw [HVe.out, Hqe.out]
        clear e0 e1 e2 e3 e4 e5 e6 HVe
        have HNm := hidK (fun e W => num_any e W)
        go_upto_region 11 with fail
        go_cut [39] (fun v X => v = .int .i64 kd ∧ V = X)
        case first =>
          go_wp2_with fail
          go_meet
          case rel => exact ⟨rfl, rfl⟩
        case rest =>
        obtain ⟨rfl, rfl⟩ := hcut
        refine ‹∀ (a : Act) (w : World), Code.wp Tryz.prog (Code.block 2 _) _ a w → _› _ _ ?_
        go_cut [11, 12, 13, 14, 15, 16, 17, 18, 19] (fun v11 v12 v13 v14 v15 v16 v17 v18 v19 X => ∃ (x : Int) (L' : List Ent) (n' : Nat) (vd' : Value), v11 = .int .i64 x ∧ v12 = .int .i64 x ∧ v13 = .bool true ∧ Hid (Sd w X d b n' Q L' L' vd') ∧ Hid (n' ≤ k + 1) ∧ Hid (X.heap[q]? = some (.cells #[.int .i64 kd, .int .i64 sc, .int .i64 ia, .int .i64 ib, .int .i64 ic, .string nm, .string vl] 78 (0, 0))))
        case first =>
          have q0 := cell_at HS5.out.q 0
          clear q0
          by_cases c1 : kd = 1
          · subst c1
            as_aux_lemma =>
              have hC := set_any HS5.out.tb HEn5.out HS5.out.good (by have := HNn.out; have := HKk.out.2; unfold maxLen; omega) (sc := sc) (id := ia) (nm := nm) (by have := HNmS.out; exact ⟨HSw.out.sc, HSw.out.a, by omega⟩) vl (by have := HVlS.out; omega)
              have hg1 := good_set HS5.out.good (sc := sc) (id := ia) (nm := nm) (vl := vl) (by have := HVlS.out; omega)
              have hD : ∀ Y v0, SeeE Y v0 L → Calls Tryz.prog 27 #[.agg #[v0], .int .i64 sc, .int .i64 ia, .string nm, .string vl] Y fun e w' => ∃ v', DocP Y (setF L sc ia nm vl) v' e w' := fun Y v0 hv => rSet_any hv (by have := HS5.out.good.few; omega) sc ia nm vl (by have := HVlS.out; omega)
              obtain ⟨⟨L1, x1⟩, hR⟩ : ∃ R, setF L sc ia nm vl = R := ⟨_, rfl⟩
              rw [hR] at hC hg1 hD
              have HC := hidK hC
              have HDo := hidK hD
              have HG1 : Hid (Good L1) := hg1
              clear hC hg1 hD hR
              go_wp2_with fail
              refine HC.out.mono ?_
              rintro e w5 hp
              obtain ⟨he, n5, hn5, ht5⟩ : e = .returned (.int .i64 x1) ∧ ∃ n', n' ≤ n + 1 ∧ Tn V w5 d b n' L1 := ⟨hp.told, hp.tn⟩
              subst he
              have HS6 : Hid (Sd w w5 d b n5 Q L1 L vd) := HS5.out.prog ht5 HG1.out
              have hq6 : w5.heap[q]? = _ := Tn.far HS5.out.tb ht5 HA5.out
              have HA6 := hidK hq6
              have HN5 := hidK hn5
              clear g0 g1 g2 g3 g4 g5 g6
              have g0 := cell_at hq6 0
              have g1 := cell_at hq6 1
              have g2 := cell_at hq6 2
              have g3 := cell_at hq6 3
              have g4 := cell_at hq6 4
              have g5 := cell_at hq6 5
              have g6 := cell_at hq6 6
              have q0 := cell_at HS6.out.q 0
              clear hp ht5 hn5 hq6
              go_wp2_with fail
              refine (HDo.out _ _ HS6.out.see).mono ?_
              rintro e w7 ⟨v7, hd7⟩
              have he : e = .returned (.tuple #[.agg #[v7], .int .i64 x1]) := hd7.told
              have hse : SeeE w7 v7 L1 := hd7.see
              have hbb := hd7.below
              subst he
              obtain ⟨a7, p7, rfl⟩ := hse.shape'
              have HS7 : Hid (Sd w w7 d b n5 Q L1 L vd) := HS6.out.below hbb
              have HSe := hidK hse
              have HA7 := hidK (kpO hbb HA6.out)
              clear g0 g1 g2 g3 g4 g5 g6 q0 hd7 hse hbb
              have q0 := cell_at HS7.out.q 0
              have q1 := free_at HS7.out.q 0
              go_wp2_with fail
              go_meet
              case rel => exact ⟨x1, L1, n5, _, rfl, rfl, rfl, HS7.out.doc HSe.out, by have h1 := HN5.out; have h2 := HNn.out; show _ ≤ _; omega, HS7.out.op HA7.out⟩
          · by_cases c2 : kd = 2
            · subst c2
              as_aux_lemma =>
                have hC := add_any HS5.out.tb HEn5.out HS5.out.good (by have := HNn.out; have := HKk.out.2; unfold maxLen; omega) (sc := sc) (id := ia) (nm := nm) (by have := HNmS.out; exact ⟨HSw.out.sc, HSw.out.a, by omega⟩) vl HSw.out.vl
                have hg1 := good_add HS5.out.good (sc := sc) (id := ia) (nm := nm) (vl := vl) HSw.out.vl
                have hD : ∀ Y v0, SeeE Y v0 L → Calls Tryz.prog 29 #[.agg #[v0], .int .i64 sc, .int .i64 ia, .string nm, .string vl] Y fun e w' => ∃ v', DocP Y (addF L sc ia nm vl) v' e w' := fun Y v0 hv => rAdd_any hv (by have := HS5.out.good.few; omega) HS5.out.good sc ia nm vl HSw.out.vl
                obtain ⟨⟨L1, x1⟩, hR⟩ : ∃ R, addF L sc ia nm vl = R := ⟨_, rfl⟩
                rw [hR] at hC hg1 hD
                have HC := hidK hC
                have HDo := hidK hD
                have HG1 : Hid (Good L1) := hg1
                clear hC hg1 hD hR
                go_wp2_with fail
                refine HC.out.mono ?_
                rintro e w5 hp
                obtain ⟨he, n5, hn5, ht5⟩ : e = .returned (.int .i64 x1) ∧ ∃ n', n' ≤ n + 1 ∧ Tn V w5 d b n' L1 := ⟨hp.told, hp.tn⟩
                subst he
                have HS6 : Hid (Sd w w5 d b n5 Q L1 L vd) := HS5.out.prog ht5 HG1.out
                have hq6 : w5.heap[q]? = _ := Tn.far HS5.out.tb ht5 HA5.out
                have HA6 := hidK hq6
                have HN5 := hidK hn5
                clear g0 g1 g2 g3 g4 g5 g6
                have g0 := cell_at hq6 0
                have g1 := cell_at hq6 1
                have g2 := cell_at hq6 2
                have g3 := cell_at hq6 3
                have g4 := cell_at hq6 4
                have g5 := cell_at hq6 5
                have g6 := cell_at hq6 6
                have q0 := cell_at HS6.out.q 0
                clear hp ht5 hn5 hq6
                go_wp2_with fail
                refine (HDo.out _ _ HS6.out.see).mono ?_
                rintro e w7 ⟨v7, hd7⟩
                have he : e = .returned (.tuple #[.agg #[v7], .int .i64 x1]) := hd7.told
                have hse : SeeE w7 v7 L1 := hd7.see
                have hbb := hd7.below
                subst he
                obtain ⟨a7, p7, rfl⟩ := hse.shape'
                have HS7 : Hid (Sd w w7 d b n5 Q L1 L vd) := HS6.out.below hbb
                have HSe := hidK hse
                have HA7 := hidK (kpO hbb HA6.out)
                clear g0 g1 g2 g3 g4 g5 g6 q0 hd7 hse hbb
                have q0 := cell_at HS7.out.q 0
                have q1 := free_at HS7.out.q 0
                go_wp2_with fail
                go_meet
                case rel => exact ⟨x1, L1, n5, _, rfl, rfl, rfl, HS7.out.doc HSe.out, by have h1 := HN5.out; have h2 := HNn.out; show _ ≤ _; omega, HS7.out.op HA7.out⟩
            · by_cases c3 : kd = 3
              · subst c3
                as_aux_lemma =>
                  have hC := turn_any HS5.out.tb HEn5.out HS5.out.good (by have := HNn.out; have := HKk.out.2; unfold maxLen; omega) (sc := sc) (id := ia) (nm := nm) (by have := HNmS.out; exact ⟨HSw.out.sc, HSw.out.a, by omega⟩)
                  have hg1 := good_turn HS5.out.good (sc := sc) (id := ia) (nm := nm)
                  have hD : ∀ Y v0, SeeE Y v0 L → Calls Tryz.prog 31 #[.agg #[v0], .int .i64 sc, .int .i64 ia, .string nm] Y fun e w' => ∃ v', DocP Y (turnF L sc ia nm) v' e w' := fun Y v0 hv => rTurn_any hv (by have := HS5.out.good.few; omega) sc ia nm
                  obtain ⟨⟨L1, x1⟩, hR⟩ : ∃ R, turnF L sc ia nm = R := ⟨_, rfl⟩
                  rw [hR] at hC hg1 hD
                  have HC := hidK hC
                  have HDo := hidK hD
                  have HG1 : Hid (Good L1) := hg1
                  clear hC hg1 hD hR
                  go_wp2_with fail
                  refine HC.out.mono ?_
                  rintro e w5 hp
                  obtain ⟨he, n5, hn5, ht5⟩ : e = .returned (.int .i64 x1) ∧ ∃ n', n' ≤ n + 1 ∧ Tn V w5 d b n' L1 := ⟨hp.told, hp.tn⟩
                  subst he
                  have HS6 : Hid (Sd w w5 d b n5 Q L1 L vd) := HS5.out.prog ht5 HG1.out
                  have hq6 : w5.heap[q]? = _ := Tn.far HS5.out.tb ht5 HA5.out
                  have HA6 := hidK hq6
                  have HN5 := hidK hn5
                  clear g0 g1 g2 g3 g4 g5 g6
                  have g0 := cell_at hq6 0
                  have g1 := cell_at hq6 1
                  have g2 := cell_at hq6 2
                  have g3 := cell_at hq6 3
                  have g4 := cell_at hq6 4
                  have g5 := cell_at hq6 5
                  have g6 := cell_at hq6 6
                  have q0 := cell_at HS6.out.q 0
                  clear hp ht5 hn5 hq6
                  go_wp2_with fail
                  refine (HDo.out _ _ HS6.out.see).mono ?_
                  rintro e w7 ⟨v7, hd7⟩
                  have he : e = .returned (.tuple #[.agg #[v7], .int .i64 x1]) := hd7.told
                  have hse : SeeE w7 v7 L1 := hd7.see
                  have hbb := hd7.below
                  subst he
                  obtain ⟨a7, p7, rfl⟩ := hse.shape'
                  have HS7 : Hid (Sd w w7 d b n5 Q L1 L vd) := HS6.out.below hbb
                  have HSe := hidK hse
                  have HA7 := hidK (kpO hbb HA6.out)
                  clear g0 g1 g2 g3 g4 g5 g6 q0 hd7 hse hbb
                  have q0 := cell_at HS7.out.q 0
                  have q1 := free_at HS7.out.q 0
                  go_wp2_with fail
                  go_meet
                  case rel => exact ⟨x1, L1, n5, _, rfl, rfl, rfl, HS7.out.doc HSe.out, by have h1 := HN5.out; have h2 := HNn.out; show _ ≤ _; omega, HS7.out.op HA7.out⟩
              · by_cases c4 : kd = 4
                · subst c4
                  as_aux_lemma =>
                    have hC := unset_any HS5.out.tb HEn5.out HS5.out.good (by have := HNn.out; have := HKk.out.2; unfold maxLen; omega) (sc := sc) (id := ia) (nm := nm) (by have := HNmS.out; exact ⟨HSw.out.sc, HSw.out.a, by omega⟩)
                    have hg1 := good_unset HS5.out.good (sc := sc) (id := ia) (nm := nm)
                    have hD : ∀ Y v0, SeeE Y v0 L → Calls Tryz.prog 33 #[.agg #[v0], .int .i64 sc, .int .i64 ia, .string nm] Y fun e w' => ∃ v', DocP Y (unsetF L sc ia nm) v' e w' := fun Y v0 hv => rUnset_any hv (by have := HS5.out.good.few; omega) sc ia nm
                    obtain ⟨⟨L1, x1⟩, hR⟩ : ∃ R, unsetF L sc ia nm = R := ⟨_, rfl⟩
                    rw [hR] at hC hg1 hD
                    have HC := hidK hC
                    have HDo := hidK hD
                    have HG1 : Hid (Good L1) := hg1
                    clear hC hg1 hD hR
                    go_wp2_with fail
                    refine HC.out.mono ?_
                    rintro e w5 hp
                    obtain ⟨he, n5, hn5, ht5⟩ : e = .returned (.int .i64 x1) ∧ ∃ n', n' ≤ n + 1 ∧ Tn V w5 d b n' L1 := ⟨hp.told, hp.tn⟩
                    subst he
                    have HS6 : Hid (Sd w w5 d b n5 Q L1 L vd) := HS5.out.prog ht5 HG1.out
                    have hq6 : w5.heap[q]? = _ := Tn.far HS5.out.tb ht5 HA5.out
                    have HA6 := hidK hq6
                    have HN5 := hidK hn5
                    clear g0 g1 g2 g3 g4 g5 g6
                    have g0 := cell_at hq6 0
                    have g1 := cell_at hq6 1
                    have g2 := cell_at hq6 2
                    have g3 := cell_at hq6 3
                    have g4 := cell_at hq6 4
                    have g5 := cell_at hq6 5
                    have g6 := cell_at hq6 6
                    have q0 := cell_at HS6.out.q 0
                    clear hp ht5 hn5 hq6
                    go_wp2_with fail
                    refine (HDo.out _ _ HS6.out.see).mono ?_
                    rintro e w7 ⟨v7, hd7⟩
                    have he : e = .returned (.tuple #[.agg #[v7], .int .i64 x1]) := hd7.told
                    have hse : SeeE w7 v7 L1 := hd7.see
                    have hbb := hd7.below
                    subst he
                    obtain ⟨a7, p7, rfl⟩ := hse.shape'
                    have HS7 : Hid (Sd w w7 d b n5 Q L1 L vd) := HS6.out.below hbb
                    have HSe := hidK hse
                    have HA7 := hidK (kpO hbb HA6.out)
                    clear g0 g1 g2 g3 g4 g5 g6 q0 hd7 hse hbb
                    have q0 := cell_at HS7.out.q 0
                    have q1 := free_at HS7.out.q 0
                    go_wp2_with fail
                    go_meet
                    case rel => exact ⟨x1, L1, n5, _, rfl, rfl, rfl, HS7.out.doc HSe.out, by have h1 := HN5.out; have h2 := HNn.out; show _ ≤ _; omega, HS7.out.op HA7.out⟩
                · by_cases c5 : kd = 5
                  · subst c5
                    as_aux_lemma =>
                      have hC := get_any HS5.out.tb HS5.out.good (nm := nm) (by have := HNmS.out; omega) HSw.out.a HSw.out.b HSw.out.c
                      have hD : ∀ Y v0, SeeE Y v0 L → Calls Tryz.prog 12 #[.agg #[v0], .string nm, .int .i64 ia, .int .i64 ib, .int .i64 ic] Y fun e w' => getOut L nm ia ib ic e ∧ Below Y.heap.size Y w' := fun Y v0 hv => rGet_any hv (by have := HS5.out.good.few; omega) nm ia ib ic
                      unfold getOut at hC hD
                      obtain ⟨⟨tv, tx⟩, hR⟩ : ∃ R, getF L nm ia ib ic = R := ⟨_, rfl⟩
                      rw [hR] at hC hD
                      have HC : Hid (Calls Tryz.prog 11 #[.pointer (some ⟨d, 0, none⟩), .string nm, .int .i64 ia, .int .i64 ib, .int .i64 ic] V fun e w' => e = .returned (.tuple #[.string tv, .int .i64 tx]) ∧ Below V.heap.size V w') := hC
                      have HDo : Hid (∀ Y v0, SeeE Y v0 L → Calls Tryz.prog 12 #[.agg #[v0], .string nm, .int .i64 ia, .int .i64 ib, .int .i64 ic] Y fun e w' => e = .returned (.tuple #[.string tv, .int .i64 tx]) ∧ Below Y.heap.size Y w') := hD
                      have hn1 : (tv.toList == tv.toList) = true := by simp
                      clear hC hD hR
                      go_wp2_with fail
                      refine HC.out.mono ?_
                      rintro e w5 ⟨rfl, hb5⟩
                      have HS6 := hidK (HS5.out.below hb5)
                      have hq6 := kpO hb5 HA5.out
                      have HA6 := hidK hq6
                      clear g0 g1 g2 g3 g4 g5 g6
                      have g0 := cell_at hq6 0
                      have g1 := cell_at hq6 1
                      have g2 := cell_at hq6 2
                      have g3 := cell_at hq6 3
                      have g4 := cell_at hq6 4
                      have g5 := cell_at hq6 5
                      have g6 := cell_at hq6 6
                      have q0 := cell_at HS6.out.q 0
                      clear hb5 hq6
                      go_wp2_with fail
                      refine (HDo.out _ _ HS6.out.see).mono ?_
                      rintro e w7 ⟨rfl, hb7⟩
                      have HS7 := hidK (HS6.out.below hb7)
                      have HA7 := hidK (kpO hb7 HA6.out)
                      clear hb7 q0 g0 g1 g2 g3 g4 g5 g6
                      go_wp2_with (go_at_call 13; refine (HNm.out _ _).mono ?_; rintro e w8 ⟨rfl, hw8⟩; subst hw8)
                      go_meet
                      case rel => exact ⟨0, L, n, vd, rfl, rfl, by simp, HS7.out, by have h2 := HNn.out; show _ ≤ _; omega, HA7.out⟩
                  · by_cases c6 : kd = 6
                    · subst c6
                      as_aux_lemma =>
                        have hC := local_own HS5.out.tb HS5.out.good sc ia
                        have hD : ∀ Y v0, SeeE Y v0 L → Calls Tryz.prog 36 #[.agg #[v0], .int .i64 sc, .int .i64 ia] Y fun e w' => ∃ v', e = .returned v' ∧ SeeE w' v' (localF L sc ia) ∧ Below Y.heap.size Y w' := fun Y v0 hv => rLocal_any hv (by have := HS5.out.good.few; omega) sc ia
                        have hMl := local_len L sc ia
                        obtain ⟨M, hM⟩ : ∃ M, localF L sc ia = M := ⟨_, rfl⟩
                        rw [hM] at hC hD hMl
                        have HC := hidK hC
                        have HDo := hidK hD
                        clear hC hD hM
                        go_wp2_with fail
                        refine HC.out.mono ?_
                        rintro e w5 ⟨v9, rfl, hown, hb5⟩
                        have HS6 := hidK (HS5.out.below hb5)
                        have hq6 := kpO hb5 HA5.out
                        have HB5 := hidK hb5
                        have HOw := hidK hown
                        obtain ⟨a9, p9, rfl⟩ := hown.slice
                        clear g0 g1 g2 g3 g4 g5 g6
                        have g0 := cell_at hq6 0
                        have g1 := cell_at hq6 1
                        have g2 := cell_at hq6 2
                        have g3 := cell_at hq6 3
                        have g4 := cell_at hq6 4
                        have g5 := cell_at hq6 5
                        have g6 := cell_at hq6 6
                        have q0 := cell_at HS6.out.q 0
                        have HSa : Hid (∀ Y v7, Below w5.heap.size w5 Y → SeeE Y v7 M → Calls Tryz.prog 35 #[.slice a9 M.length p9, v7] Y fun r w' => r = .returned (.bool true) ∧ Below Y.heap.size Y w') := fun Y v7 h1 h2 => same_any (hown.see.below h1) h2 (by omega)
                        have HO8 : Hid (∀ Y, Below w5.heap.size w5 Y → M.length = 0 ∨ ∃ G o9 cur, a9 = some ⟨G, o9, none⟩ ∧ V.heap.size ≤ G ∧ o9 + M.length * 4 ≤ cur.size ∧ Y.heap[G]? = some (.cells cur 87 (0, 0))) := fun Y hY => by
                          rcases (hown.below hY).2 with ⟨e, h0⟩ | ⟨g', cap, cur, e, h1, hk, h2, h3, h4, h5⟩
                          · exact .inl h0
                          · cases e
                            exact .inr ⟨g', 0, cur, rfl, h1, by rw [h4, Nat.zero_add]; exact Nat.mul_le_mul_right _ h2, hk⟩
                        obtain ⟨m, hm⟩ : ∃ m, M.length = m := ⟨_, rfl⟩
                        have hm22 : m ≤ 22 := by omega
                        rw [hm] at HSa HO8 ⊢
                        clear hb5 hown hq6 hm hMl HOw HC
                        go_wp2_with fail
                        refine (HDo.out _ _ HS6.out.see).mono ?_
                        rintro e w7 ⟨v7, rfl, hse, hb7⟩
                        have HS7 := hidK (HSa.out w7 v7 hb7 hse)
                        have HB7 := hidK hb7
                        clear hse hb7 q0 g0 g1 g2 g3 g4 g5 g6 HDo HSa
                        go_wp2_with fail
                        refine HS7.out.mono ?_
                        rintro e w8 ⟨rfl, hb8⟩
                        have HB8 : Hid (Below V.heap.size V w8) := bst HB5.out (bst HB7.out hb8)
                        have HO9 := hidK (HO8.out w8 (bst HB7.out hb8))
                        clear hb8 HS7 HB7 HB5 HS6 HO8
                        go_wp2_with fail
                        go_loopw [19] (fun iv wz => ∃ j : Nat, j ≤ m ∧ iv = .int .i64 j ∧ Hid (Below V.heap.size V wz) ∧ Hid (m = 0 ∨ ∃ G o9 cur, a9 = some ⟨G, o9, none⟩ ∧ V.heap.size ≤ G ∧ o9 + m * 4 ≤ cur.size ∧ wz.heap[G]? = some (.cells cur 87 (0, 0)))) (fun iv _ => m - (intOf iv).toNat)
                        case atStart => exact ⟨0, Nat.zero_le _, rfl, HB8, HO9⟩
                        case round =>
                          clear HB8 HO9
                          obtain ⟨j, hj, rfl, HBj, HOj⟩ := hrel
                          by_cases hlt : j < m
                          · rcases HOj.out with h0 | ⟨G, o9, cur, rfl, hge, hsz, hcur⟩
                            · omega
                            · obtain ⟨x, hx⟩ : ∃ x, o9 + j * 4 = x := ⟨_, rfl⟩
                              have hxs : x + 4 ≤ cur.size := by omega
                              obtain ⟨u0, hu0⟩ : ∃ u, cur[x]? = some u := ⟨_, Array.getElem?_eq_getElem (by omega)⟩
                              obtain ⟨u1, hu1⟩ : ∃ u, cur[x + 1]? = some u := ⟨_, Array.getElem?_eq_getElem (by omega)⟩
                              obtain ⟨u2, hu2⟩ : ∃ u, cur[x + 2]? = some u := ⟨_, Array.getElem?_eq_getElem (by omega)⟩
                              obtain ⟨u3, hu3⟩ : ∃ u, cur[x + 3]? = some u := ⟨_, Array.getElem?_eq_getElem (by omega)⟩
                              have r0 : wr.cell? ⟨G, o9 + j * 4, none⟩ = some u0 := (cell_at hcur _).trans (by rw [hx]; exact hu0)
                              have r1 : wr.cell? ⟨G, o9 + j * 4 + 1, none⟩ = some u1 := (cell_at hcur _).trans (by rw [hx]; exact hu1)
                              have r2 : wr.cell? ⟨G, o9 + j * 4 + 2, none⟩ = some u2 := (cell_at hcur _).trans (by rw [hx]; exact hu2)
                              have r3 : wr.cell? ⟨G, o9 + j * 4 + 3, none⟩ = some u3 := (cell_at hcur _).trans (by rw [hx]; exact hu3)
                              have f0 := free_at hcur (o9 + j * 4)
                              have f1 := free_at hcur (o9 + j * 4 + 1)
                              have f2 := free_at hcur (o9 + j * 4 + 2)
                              have f3 := free_at hcur (o9 + j * 4 + 3)
                              have hji : (j : Int) < (m : Int) := by omega
                              obtain ⟨w12, hw12⟩ : ∃ W, (((wr.setCell ⟨G, o9 + j * 4, none⟩ (.int .i64 0)).setCell ⟨G, o9 + j * 4 + 1, none⟩ (.int .i64 0)).setCell ⟨G, o9 + j * 4 + 2, none⟩ (.string ⟨#[115, 112, 111, 105, 108, 116]⟩)).setCell ⟨G, o9 + j * 4 + 3, none⟩ (.string ⟨#[]⟩) = W := ⟨_, rfl⟩
                              have HBn : Hid (Below V.heap.size V w12) := by
                                rw [← hw12]
                                exact ((((HBj.out.setCell hge _).setCell hge _).setCell hge _).setCell hge _)
                              have HOn : Hid (m = 0 ∨ ∃ G' o' cur, (some ⟨G, o9, none⟩ : Option Addr) = some ⟨G', o', none⟩ ∧ V.heap.size ≤ G' ∧ o' + m * 4 ≤ cur.size ∧ w12.heap[G']? = some (.cells cur 87 (0, 0))) := by
                                rw [← hw12]
                                exact .inr ⟨G, o9, _, rfl, hge, by simpa using hsz, put_at (put_at (put_at (put_at hcur _ _) _ _) _ _) _ _⟩
                              clear hu0 hu1 hu2 hu3 hcur hsz hxs hx HOj
                              go_wp2_with fail
                              go_roundw
                              case rel => exact ⟨j + 1, by omega, by go_num, HBn, HOn⟩
                              case measure => simp [intOf]; omega
                          · have hji : ¬ (j : Int) < (m : Int) := by omega
                            go_wp2_with fail
                            go_meet
                            case rel => exact ⟨0, L, n, vd, rfl, rfl, rfl, HS5.out.below HBj.out, by have h2 := HNn.out; show _ ≤ _; omega, kpO HBj.out HA5.out⟩
                    · by_cases c7 : kd = 7
                      · subst c7
                        as_aux_lemma =>
                          have HC := hidK (drop_any HS5.out.tb sc ia)
                          have HDo : Hid (∀ Y v0, SeeE Y v0 L → Calls Tryz.prog 38 #[.agg #[v0], .int .i64 sc, .int .i64 ia] Y fun e w' => ∃ v', e = .returned (.agg #[v']) ∧ SeeE w' v' (dropF L sc ia) ∧ Below Y.heap.size Y w') := fun Y v0 hv => rDrop_any hv (by have := HS5.out.good.few; omega) sc ia
                          have HG1 := hidK (good_drop HS5.out.good (sc := sc) (id := ia))
                          go_wp2_with fail
                          refine HC.out.mono ?_
                          rintro e w5 ⟨rfl, ht5⟩
                          have HS6 : Hid (Sd w w5 d b n Q (dropF L sc ia) L vd) := HS5.out.prog ht5 HG1.out
                          have hq6 : w5.heap[q]? = _ := Tn.far HS5.out.tb ht5 HA5.out
                          have HA6 := hidK hq6
                          clear g0 g1 g2 g3 g4 g5 g6
                          have g0 := cell_at hq6 0
                          have g1 := cell_at hq6 1
                          have g2 := cell_at hq6 2
                          have g3 := cell_at hq6 3
                          have g4 := cell_at hq6 4
                          have g5 := cell_at hq6 5
                          have g6 := cell_at hq6 6
                          have q0 := cell_at HS6.out.q 0
                          clear ht5 hq6
                          go_wp2_with fail
                          refine (HDo.out _ _ HS6.out.see).mono ?_
                          rintro e w7 ⟨v7, rfl, hse, hbb⟩
                          obtain ⟨a7, p7, rfl⟩ := hse.shape'
                          have HS7 : Hid (Sd w w7 d b n Q (dropF L sc ia) L vd) := HS6.out.below hbb
                          have HSe := hidK hse
                          have HA7 := hidK (kpO hbb HA6.out)
                          clear g0 g1 g2 g3 g4 g5 g6 q0 hse hbb
                          have q0 := cell_at HS7.out.q 0
                          have q1 := free_at HS7.out.q 0
                          go_wp2_with fail
                          go_meet
                          case rel => exact ⟨0, dropF L sc ia, n, _, rfl, rfl, rfl, HS7.out.doc HSe.out, by have h2 := HNn.out; show _ ≤ _; omega, HS7.out.op HA7.out⟩
                      · as_aux_lemma =>
                          have b1 : (kd == 1) = false := by simpa using c1
                          have b2 : (kd == 2) = false := by simpa using c2
                          have b3 : (kd == 3) = false := by simpa using c3
                          have b4 : (kd == 4) = false := by simpa using c4
                          have b5 : (kd == 5) = false := by simpa using c5
                          have b6 : (kd == 6) = false := by simpa using c6
                          have b7 : (kd == 7) = false := by simpa using c7
                          go_wp2_with fail
                          go_meet
                          case rel => exact ⟨0, L, n, vd, rfl, rfl, rfl, HS5.out, by have h2 := HNn.out; show _ ≤ _; omega, HA5.out⟩
        case rest =>
          obtain ⟨x, L', n', vd', rfl, rfl, rfl, HSc, HNc, HAc⟩ := hcut
          clear HS5 HA5 g0 g1 g2 g3 g4 g5 g6 HS
          go_wp2_with (go_at_call 13; refine (HNm.out _ _).mono ?_; rintro e w8 ⟨rfl, hw8⟩; subst hw8)
          go_roundw
          case rel => exact ⟨k + 1, L', n', vd', HKk.out.1, HKk.out.2, by go_num, HNc, HSc⟩
          case measure => have := HKk.out; simp [intOf]; omega
end Go.Proofs.YtgdkpmfdpfjdjaaGreatDoor

namespace Go.Proofs.YtgdkpmfdpfjdjaaGreatDoor
open Go.RowKit
set_option linter.unusedVariables false
set_option maxRecDepth 100000

theorem optionsSets_walk {w : World} (hE : Env w) (v : Value) (l : List Ps) (hv : SeeP w v l) (hl : ∀ s ∈ l, s.wf) :
    Calls Tryz.prog 4 #[v] w fun r w' => r = .returned (.bool true) ∧ Below w.heap.size w w' := by
  have HP := hidK (fun lo hi => play_any hE v l hv hl lo hi)
  obtain ⟨ad, cp, rfl, _⟩ := hv
  clear hE hl
  go_enter Tryz.func4, Tryz.ntmps4
  go_wp2_with fail
  refine (HP.out _ _).mono ?_
  rintro e W2 ⟨rfl, hb2⟩
  have HB2 := hidK hb2
  clear hb2
  go_wp2_with fail
  go_ret
  exact ⟨rfl, HB2.out⟩
theorem optionsAsks_walk {w : World} (hE : Env w) (v : Value) (l : List Ps) (hv : SeeP w v l) (hl : ∀ s ∈ l, s.wf) :
    Calls Tryz.prog 5 #[v] w fun r w' => r = .returned (.bool true) ∧ Below w.heap.size w w' := by
  have HP := hidK (fun lo hi => play_any hE v l hv hl lo hi)
  obtain ⟨ad, cp, rfl, _⟩ := hv
  clear hE hl
  go_enter Tryz.func5, Tryz.ntmps5
  go_wp2_with fail
  refine (HP.out _ _).mono ?_
  rintro e W2 ⟨rfl, hb2⟩
  have HB2 := hidK hb2
  clear hb2
  go_wp2_with fail
  go_ret
  exact ⟨rfl, HB2.out⟩
theorem optionsAll_walk {w : World} (hE : Env w) (v : Value) (l : List Ps) (hv : SeeP w v l) (hl : ∀ s ∈ l, s.wf) :
    Calls Tryz.prog 6 #[v] w fun r w' => r = .returned (.bool true) ∧ Below w.heap.size w w' := by
  have HP := hidK (fun lo hi => play_any hE v l hv hl lo hi)
  obtain ⟨ad, cp, rfl, _⟩ := hv
  clear hE hl
  go_enter Tryz.func6, Tryz.ntmps6
  go_wp2_with fail
  refine (HP.out _ _).mono ?_
  rintro e W2 ⟨rfl, hb2⟩
  have HB2 := hidK hb2
  clear hb2
  go_wp2_with fail
  go_ret
  exact ⟨rfl, HB2.out⟩
end Go.Proofs.YtgdkpmfdpfjdjaaGreatDoor

namespace Go.Proofs.YtgdkpmfdpfjdjaaGreatDoor
open Go.RowKit Go.ChangeShapes Go.WideShapes
set_option linter.unusedVariables false
set_option maxRecDepth 100000

theorem cell_blockB {w : World} {a : Addr} {v : Value} (h : w.cell? a = some v) : a.block < w.heap.size := by
  rcases Nat.lt_or_ge a.block w.heap.size with h1 | h1
  · exact h1
  · simp [World.cell?, Array.getElem?_eq_none h1] at h
theorem cellsB9 : Tryz.prog.cellsOf 9 = 1 := by kernel_rfl
theorem cellsB3 : Tryz.prog.cellsOf 3 = 1 := by kernel_rfl
theorem cellsBO : Tryz.prog.cellsOf 78 = 7 := by kernel_rfl
theorem underBO : Tryz.prog.underlying 39 = some (.slice 78) := by kernel_rfl
theorem fieldsBO : Tryz.prog.underlying 78 = some (.struct #[⟨"Kind", 3, 0, false, "", "", 0⟩, ⟨"Scope", 3, 1, false, "", "", 8⟩, ⟨"A", 3, 2, false, "", "", 16⟩, ⟨"B", 3, 3, false, "", "", 24⟩, ⟨"C", 3, 4, false, "", "", 32⟩, ⟨"Name", 9, 5, false, "", "", 40⟩, ⟨"Value", 9, 6, false, "", "", 56⟩]) := by kernel_rfl
theorem addPB (b o j : Nat) : (⟨b, o, none⟩ : Addr).add j = ⟨b, o + j, none⟩ := by unfold Addr.add; split <;> simp_all
/-- All weights are borne. -/
def Light {H : Type} (t : TypeId) (d : DataW H) : Prop := ∀ n ∈ d.weights Tryz.prog t, n ≤ reachBytes
theorem light_of {H : Type} {ts : List TypeId} {ds : List (DataW H)} (h : (DataW.weightsEach Tryz.prog ts ds).all (· ≤ reachBytes) = true) {j : Nat} {t : TypeId} {d : DataW H} (ht : ts[j]? = some t) (hd : ds[j]? = some d) : Light t d := fun n hn => by simpa using List.all_eq_true.1 h _ (DataW.weights_mem_each ht hd n hn)
theorem weightsAll_mem {H : Type} {e : TypeId} : ∀ {l : List (DataW H)} {d : DataW H} {n : Nat}, d ∈ l → n ∈ d.weights Tryz.prog e → n ∈ DataW.weightsAll Tryz.prog e l
  | d0 :: l, d, n, hd, hn => by
    simp only [DataW.weightsAll, List.mem_append]
    rcases List.mem_cons.1 hd with rfl | hd
    · exact .inl hn
    · exact .inr (weightsAll_mem hd hn)
theorem open_opB {H : Type} {enc : TypeId × Value → H} {W : World} {base : Nat} {spare : Nat → Bool} {held : Bool} {fuel : Nat} {cs : List Value} {x : DataW H × List MemPlace} (h : DataW.trod enc Tryz.prog W base spare held fuel 78 cs = some x) :
    ∃ s : Ps, cs = encP s ∧ (Light 78 x.1 → s.wf) ∧ x.2 = [] := by
  obtain ⟨xs, n, _, hx, hl, hlen, hfs⟩ := DataW.trod_struct fieldsBO h
  rw [cellsBO] at hl
  match cs, hl, xs, hlen with
  | [c0, c1, c2, c3, c4, c5, c6], _, [y0, y1, y2, y3, y4, y5, y6], _ =>
    have t0 : DataW.trod enc Tryz.prog W base spare held n 3 [c0] = some y0 := by have h := hfs 0 _ rfl; simpa [cellsB3, cellsB9] using h
    have t1 : DataW.trod enc Tryz.prog W base spare held n 3 [c1] = some y1 := by have h := hfs 1 _ rfl; simpa [cellsB3, cellsB9] using h
    have t2 : DataW.trod enc Tryz.prog W base spare held n 3 [c2] = some y2 := by have h := hfs 2 _ rfl; simpa [cellsB3, cellsB9] using h
    have t3 : DataW.trod enc Tryz.prog W base spare held n 3 [c3] = some y3 := by have h := hfs 3 _ rfl; simpa [cellsB3, cellsB9] using h
    have t4 : DataW.trod enc Tryz.prog W base spare held n 3 [c4] = some y4 := by have h := hfs 4 _ rfl; simpa [cellsB3, cellsB9] using h
    have t5 : DataW.trod enc Tryz.prog W base spare held n 9 [c5] = some y5 := by have h := hfs 5 _ rfl; simpa [cellsB3, cellsB9] using h
    have t6 : DataW.trod enc Tryz.prog W base spare held n 9 [c6] = some y6 := by have h := hfs 6 _ rfl; simpa [cellsB3, cellsB9] using h
    obtain ⟨z0, e0, rfl, w0⟩ := DataW.trod_int Tryz.underlying3 t0
    obtain ⟨z1, e1, rfl, w1⟩ := DataW.trod_int Tryz.underlying3 t1
    obtain ⟨z2, e2, rfl, w2⟩ := DataW.trod_int Tryz.underlying3 t2
    obtain ⟨z3, e3, rfl, w3⟩ := DataW.trod_int Tryz.underlying3 t3
    obtain ⟨z4, e4, rfl, w4⟩ := DataW.trod_int Tryz.underlying3 t4
    obtain ⟨s5, e5, rfl, w5⟩ := DataW.trod_string Tryz.underlying9 t5
    obtain ⟨s6, e6, rfl, w6⟩ := DataW.trod_string Tryz.underlying9 t6
    obtain rfl := (List.cons.inj e0).1
    obtain rfl := (List.cons.inj e1).1
    obtain rfl := (List.cons.inj e2).1
    obtain rfl := (List.cons.inj e3).1
    obtain rfl := (List.cons.inj e4).1
    obtain rfl := (List.cons.inj e5).1
    obtain rfl := (List.cons.inj e6).1
    refine ⟨⟨z0, z1, z2, z3, z4, s5, s6⟩, rfl, fun hL => ?_, ?_⟩
    · have hb : ∀ s : ByteArray, s.data.toList.length ∈ x.1.weights Tryz.prog 78 → s.size ≤ 140737488351232 := fun s hs => by
        have := hL _ hs
        have e : s.data.toList.length = s.size := by rw [Array.length_toList]; rfl
        unfold reachBytes at this
        omega
      have m2 : s5.data.toList.length ∈ x.1.weights Tryz.prog 78 := by
        rw [hx]
        simp [DataW.weights, DataW.weightsEach]
      have m3 : s6.data.toList.length ∈ x.1.weights Tryz.prog 78 := by
        rw [hx]
        simp [DataW.weights, DataW.weightsEach]
      exact ⟨w1, w2, w3, w4, hb s5 m2, hb s6 m3⟩
    · rw [hx]
      simp
/-- A list of steps that comes in. -/
theorem open_opsB {H : Type} {enc : TypeId × Value → H} {W : World} {base : Nat} {spare : Nat → Bool} {held : Bool} {fuel : Nat} {V : Value} {D0 : DataW H} {P0 : List MemPlace} (h : DataW.trod enc Tryz.prog W base spare held fuel 39 [V] = some (D0, P0)) :
    ∃ l : List Ps, SeeP W V l ∧ (Light 39 D0 → ∀ s ∈ l, s.wf) ∧ ∀ x ∈ P0, x.block < W.heap.size := by
  rcases Deep.open_slice underBO h with ⟨h0, hx⟩ | ⟨a, len, cap, m, n, D, Pl, h0, hb, hl, hm, hmm, hx, hall⟩
  · have hV : V = .slice none 0 0 := (List.cons.inj h0).1
    subst hV
    simp only [Prod.mk.injEq] at hx
    obtain ⟨rfl, rfl⟩ := hx
    exact ⟨[], ⟨_, _, rfl, fun hne => absurd rfl hne⟩, fun _ o ho => absurd ho List.not_mem_nil, fun x hx => absurd hx List.not_mem_nil⟩
  · have hV : V = .slice (some a) len cap := (List.cons.inj h0).1
    subst hV
    simp only [Prod.mk.injEq] at hx
    obtain ⟨rfl, rfl⟩ := hx
    have hlm : len ≤ m := by rw [hmm]; split <;> omega
    rw [cellsBO] at hall ⊢
    have each : ∀ i, i < m → ∃ o : Ps, (Light 78 (D i) → o.wf) ∧ Pl i = [] ∧ ∀ j, j < 7 → W.cell? ((a.add (i * 7)).add j) = (encP o)[j]? := fun i hi => by
      obtain ⟨cs', h1, h2⟩ := hall i hi
      obtain ⟨_, _, hcell⟩ := World.cells?_some h1
      obtain ⟨ev, hev, hx, hr⟩ := open_opB h2
      exact ⟨ev, hx, hr, fun j hj => by rw [hcell j hj, hev]⟩
    have hplaces : ∀ x ∈ MemPlace.row a (m * 7) ++ (List.range m).flatMap Pl, x.block < W.heap.size := fun x hx => by
      rcases List.mem_append.1 hx with hx | hx
      · obtain ⟨i, hi, rfl⟩ := MemPlace.mem_row.1 hx
        obtain ⟨ev, _, _, hc⟩ := each 0 (by omega)
        have h0 := cell_blockB ((hc 0 (by decide)).trans rfl)
        rw [Deep.add_add] at h0
        show a.block < W.heap.size
        simpa [Addr.add] using h0
      · obtain ⟨i, hi, hx⟩ := List.mem_flatMap.1 hx
        obtain ⟨ev, _, hp, _⟩ := each i (List.mem_range.1 hi)
        rw [hp] at hx
        cases hx
    obtain ⟨E, hEv⟩ := Deep.choose_lt each
    refine ⟨(List.range len).map E, ⟨some a, cap, by rw [List.length_map, List.length_range], fun hne => ?_⟩, fun hL o ho => ?_, hplaces⟩
    · have hl0 : 0 < len := by
        rcases Nat.eq_zero_or_pos len with h | h
        · subst h; exact absurd rfl hne
        · exact h
      obtain ⟨b, off, spot⟩ := a
      have g0 := (hEv 0 (by omega)).2.2 0 (by decide)
      have hspot : spot = none := by
        have := World.cell?_spot (g0.trans rfl)
        simpa [Addr.add] using this
      subst hspot
      refine ⟨b, off, rfl, fun j hj c u hu => ?_⟩
      have hjl : j < len := by rw [List.length_map, List.length_range] at hj; exact hj
      have hc7 : c < 7 := by
        have := (List.getElem?_eq_some_iff.1 hu).1
        exact this
      have h2 := (hEv j (by omega)).2.2 c hc7
      rw [addPB, addPB] at h2
      rw [h2, ← hu]
      simp
    · obtain ⟨i, hi, rfl⟩ := List.mem_map.1 ho
      have hil := List.mem_range.1 hi
      refine (hEv i (by omega)).1 fun k hk => hL k ?_
      simp only [DataW.weights, underBO, List.mem_cons, List.mem_append]
      exact .inr (.inl (weightsAll_mem (List.mem_map.2 ⟨i, hi, rfl⟩) hk))
theorem open_steps {H : Type} {enc : TypeId × Value → H} {W : World} {r : Reach} {b0 base : Nat} {spare : Nat → Bool} {held : Bool} {v : Value} {d : DataW H} {p : List MemPlace} (hv : Value.okWide Tryz.prog W r b0 39 v) (h : DataW.Trod enc Tryz.prog W base spare held 39 v d p) :
    ∃ l : List Ps, SeeP W v l ∧ (Light 39 d → ∀ s ∈ l, s.wf) ∧ ∀ x ∈ p, x.block < W.heap.size := by
  obtain ⟨ad, len, cap, rfl⟩ := okWide_slice underBO hv
  obtain ⟨fuel, hf⟩ := h
  obtain ⟨d0, p0⟩ : DataW H × List MemPlace := ⟨d, p⟩
  exact open_opsB hf
theorem laidOutV : laidOutB Tryz.prog = true := laidOutO
end Go.Proofs.YtgdkpmfdpfjdjaaGreatDoor
