/-
  Options, the document's side: at.
  Options, the document's side: Get.
-/
import Derived.Test.YtgdkpmfdpfjdjaaGreatDoorOEnA
import Derived.Test.YtgdkpmfdpfjdjaaGreatDoorOTb
import Derived.Test.YtgdkpmfdpfjdjaaGreatDoorORp
import Derived.Test.YtgdkpmfdpfjdjaaGreatDoorJL
import Derived.Deep.DeepCutAuto
namespace Go.Proofs.YtgdkpmfdpfjdjaaGreatDoor
open Go.RowKit
set_option linter.unusedVariables false
set_option maxRecDepth 100000

theorem SeeE.shape' {w : World} {v : Value} {l : List Ent} (h : SeeE w v l) : ∃ a c, v = .slice a l.length c := by
  obtain ⟨a, c, rfl, _⟩ := h
  exact ⟨_, _, rfl⟩
theorem SeeE.cells {w : World} {ad : Option Addr} {n cp : Nat} {L : List Ent} (h : SeeE w (.slice ad n cp) L) {k : Nat} (hk : k < L.length) : ∃ g o, ad = some ⟨g, o, none⟩ ∧ ∀ Y, Below w.heap.size w Y → Y.cell? ⟨g, o + k * 4, none⟩ = some (.int .i64 L[k].sc) ∧ Y.cell? ⟨g, o + k * 4 + 1, none⟩ = some (.int .i64 L[k].id) ∧ Y.cell? ⟨g, o + k * 4 + 2, none⟩ = some (.string L[k].nm) ∧ Y.cell? ⟨g, o + k * 4 + 3, none⟩ = some (.string L[k].vl) := by
  obtain ⟨a, c, e, hc⟩ := h
  cases e
  obtain ⟨g, o, rfl, hcell⟩ := hc (fun e => by rw [e] at hk; simp at hk)
  refine ⟨g, o, rfl, fun Y hY => ?_⟩
  have up : ∀ (j : Nat) u, w.cell? ⟨g, j, none⟩ = some u → Y.cell? ⟨g, j, none⟩ = some u := fun j u q => (hY.cell (World.block_lt_of_cell? w _ q)).trans q
  exact ⟨up _ _ (hcell k hk 0 _ rfl), up _ _ (hcell k hk 1 _ rfl), up _ _ (hcell k hk 2 _ rfl), up _ _ (hcell k hk 3 _ rfl)⟩
theorem str_eqO {a b : ByteArray} : (a.toList == b.toList) = decide (a = b) := by
  by_cases h : a = b
  · subst h; simp
  · rw [decide_eq_false h, beq_eq_false_iff_ne]
    intro q
    apply h
    rw [Lib.toList_data, Lib.toList_data] at q
    exact ByteArray.ext (Array.ext' q)
theorem atF_drop {L : List Ent} {k : Nat} (hk : k < L.length) (sc id : Int) (nm : ByteArray) : atF (L.drop k) sc id nm = if offB sc id nm L[k] then atF (L.drop (k + 1)) sc id nm else some L[k].vl := by
  rw [List.drop_eq_getElem_cons hk]
  cases h : offB sc id nm L[k] with
  | true => rw [if_pos rfl]; exact atF_no _ (offB_iff.1 h)
  | false => rw [if_neg (by decide)]; exact atF_yes _ (offB_no.1 h)
theorem infoTabs : (Tryz.prog.info? 34).map (·.size) = some 1 := by kernel_rfl
set_option maxHeartbeats 16000000 in
theorem rAt_any {w : World} {v : Value} {L : List Ent} (hv : SeeE w v L) (hlen : L.length ≤ 1000000) (sc id : Int) (nm : ByteArray) :
    Calls Tryz.prog 25 #[.agg #[v], .int .i64 sc, .int .i64 id, .string nm] w fun e w' => e = .returned (.tuple #[.string ((atF L sc id nm).getD ⟨#[]⟩), .bool (atF L sc id nm).isSome]) ∧ Below w.heap.size w w' := by
  obtain ⟨ad, cp, rfl⟩ := hv.shape'
  obtain ⟨N, hN⟩ : ∃ N, L.length = N := ⟨_, rfl⟩
  rw [hN] at hv hlen ⊢
  obtain ⟨W1, hW1, a1, b1, s1⟩ := two_blk (w := w) #[.slice ad N cp] 34
  obtain ⟨Q1, hQ1⟩ : ∃ Q, w.heap.size = Q := ⟨_, rfl⟩
  rw [hQ1] at a1
  have HB := hidK b1
  have HA := hidK a1
  have HS := hidK (fun k (hk : k < L.length) => (hv.below b1).cells hk)
  have HN := hidK hN
  clear hv hN a1 b1 s1
  go_enter Tryz.func25, Tryz.ntmps25
  go_wp2_with fail
  clear hW1 hQ1
  go_loopw [10] (fun iv wr => ∃ k : Nat, k ≤ N ∧ iv = .int .i64 k ∧ Hid (Below W1.heap.size W1 wr) ∧ Hid (atF L sc id nm = atF (L.drop k) sc id nm)) (fun iv _ => N - (intOf iv).toNat)
  case atStart => exact ⟨0, Nat.zero_le _, rfl, Below.refl _ _, rfl⟩
  case round =>
    obtain ⟨k, hk, rfl, HW, HD⟩ := hrel
    have c0 : wr.cell? ⟨Q1, 0, none⟩ = some (.slice ad N cp) := cell_at (kpO HW.out HA.out) 0
    by_cases hlt : k < N
    · have i1 : (k : Int) < (N : Int) := by omega
      have hkl : k < L.length := by rw [HN.out]; exact hlt
      obtain ⟨g, o, rfl, hc⟩ := HS.out k hkl
      obtain ⟨p0, p1, p2, p3⟩ := hc wr HW.out
      have HSt := hidK (atF_drop hkl sc id nm)
      obtain ⟨⟨ec, ei, en, ev⟩, he⟩ : ∃ e, L[k] = e := ⟨_, rfl⟩
      rw [he] at p0 p1 p2 p3 HSt
      dsimp only at p0 p1 p2 p3 HSt
      obtain ⟨V, hV, av, bv, sv⟩ := two_blk (w := wr) #[.int .i64 ec, .int .i64 ei, .string en, .string ev] 87
      obtain ⟨q, hq⟩ : ∃ q, wr.heap.size = q := ⟨_, rfl⟩
      rw [hq] at av
      have HV : Hid (Below W1.heap.size W1 V) := bst HW.out bv
      have x0 := cell_at av 0
      have x1 := cell_at av 1
      have x2 := cell_at av 2
      have x3 := cell_at av 3
      clear av bv sv he hc hkl
      go_upto_region 5 with fail
      clear p0 p1 p2 p3 c0
      obtain ⟨cnd, hcnd⟩ : ∃ c, (!offB sc id nm ⟨ec, ei, en, ev⟩) = c := ⟨_, rfl⟩
      have HC := hidK hcnd
      clear hcnd
      go_cut [39] (fun v X => v = .bool cnd ∧ V = X)
      case first =>
        by_cases q1 : ec = sc
        · by_cases q2 : ei = id
          · by_cases q3 : en = nm
            · have q4 : (en.toList == nm.toList) = true := by rw [str_eqO]; exact decide_eq_true q3
              clear q3
              have HC2 : Hid (true = cnd) := by
                show _ = _
                rw [← HC.out]
                have : offB sc id nm ⟨ec, ei, en, ev⟩ = false := offB_no.2 ⟨q1, q2, by rw [str_eqO] at q4; exact of_decide_eq_true q4⟩
                rw [this]; rfl
              subst q1
              subst q2
              go_wp2_with fail
              go_meet
              case rel => exact ⟨by rw [HC2.out], rfl⟩
            · have q4 : (en.toList == nm.toList) = false := by rw [str_eqO]; exact decide_eq_false q3
              have HC2 : Hid (false = cnd) := by
                show _ = _
                rw [← HC.out, offB_iff.2 (fun q => q3 q.2.2)]; rfl
              clear q3
              subst q1
              subst q2
              go_wp2_with fail
              go_meet
              case rel => exact ⟨by rw [HC2.out], rfl⟩
          · have HC2 : Hid (false = cnd) := by
              show _ = _
              rw [← HC.out, offB_iff.2 (fun q => q2 q.2.1)]; rfl
            have q4 : (ei == id) = false := by simpa using q2
            subst q1
            go_wp2_with fail
            go_meet
            case rel => exact ⟨by rw [HC2.out], rfl⟩
        · have HC2 : Hid (false = cnd) := by
            show _ = _
            rw [← HC.out, offB_iff.2 (fun q => q1 q.1)]; rfl
          have q4 : (ec == sc) = false := by simpa using q1
          go_wp2_with fail
          go_meet
          case rel => exact ⟨by rw [HC2.out], rfl⟩
      case rest =>
        obtain ⟨rfl, rfl⟩ := hcut
        cases cnd with
        | true =>
          have HO : Hid (offB sc id nm ⟨ec, ei, en, ev⟩ = false) := by have := HC.out; show _ = _; simpa using this
          go_wp2_with fail
          go_ret2
          refine ⟨?_, bst HB.out HV.out⟩
          rw [HD.out, HSt.out, HO.out]
          rfl
        | false =>
          have HO : Hid (offB sc id nm ⟨ec, ei, en, ev⟩ = true) := by have := HC.out; show _ = _; simpa using this
          have HD2 : Hid (atF L sc id nm = atF (L.drop (k + 1)) sc id nm) := by
            show _ = _
            rw [HD.out, HSt.out, HO.out]; rfl
          go_wp2_with fail
          go_roundw
          case rel => exact ⟨k + 1, by omega, by go_num, HV.out, HD2⟩
          case measure => simp [intOf]; omega
    · have i1 : ¬ (k : Int) < (N : Int) := by omega
      have HDe : Hid (L.drop k = []) := List.drop_eq_nil_of_le (by rw [HN.out]; omega)
      go_wp2_with fail
      go_ret2
      refine ⟨?_, bst HB.out HW.out⟩
      rw [HD.out, HDe.out]
      rfl
end Go.Proofs.YtgdkpmfdpfjdjaaGreatDoor

namespace Go.Proofs.YtgdkpmfdpfjdjaaGreatDoor
open Go.RowKit Go.Maps
set_option linter.unusedVariables false
set_option maxRecDepth 100000

def SeeI (w : World) (g : Nat) (l : List Int) : Prop := w.heap[g]? = some (.cells (l.map fun x => Value.int .i64 x).toArray 3 (0, 0))
theorem SeeI.at {w : World} {g : Nat} {l : List Int} (h : SeeI w g l) {j : Nat} (hj : j < l.length) : w.cell? ⟨g, j, none⟩ = some (.int .i64 l[j]) := by
  refine (cell_at h j).trans ?_
  simp [hj]
/-- The two lists of Get. -/
structure GetI (W X : World) (gs gi : Nat) (P : List (Int × Int)) : Prop where
  below : Below W.heap.size W X
  sc : SeeI X gs (P.map Prod.fst)
  id : SeeI X gi (P.map Prod.snd)
set_option maxHeartbeats 32000000 in
theorem rGet_any {w : World} {v : Value} {L : List Ent} (hv : SeeE w v L) (hlen : L.length ≤ 1000000) (nm : ByteArray) (s u p : Int) :
    Calls Tryz.prog 12 #[.agg #[v], .string nm, .int .i64 s, .int .i64 u, .int .i64 p] w fun e w' => getOut L nm s u p e ∧ Below w.heap.size w w' := by
  obtain ⟨ad, cp, rfl⟩ := hv.shape'
  obtain ⟨W1, hW1, a1, b1, s1⟩ := two_blk (w := w) #[.slice ad L.length cp] 34
  obtain ⟨Q1, hQ1⟩ : ∃ Q, w.heap.size = Q := ⟨_, rfl⟩
  rw [hQ1] at a1
  have HA := hidK a1
  have HB := hidK b1
  have HSe := hidK (hv.below b1)
  have HR := hidK (rRow_any nm W1)
  have HAt : Hid (∀ X sc id, Below W1.heap.size W1 X → Calls Tryz.prog 25 #[.agg #[.slice ad L.length cp], .int .i64 sc, .int .i64 id, .string nm] X fun e w' => e = .returned (.tuple #[.string ((atF L sc id nm).getD ⟨#[]⟩), .bool (atF L sc id nm).isSome]) ∧ Below X.heap.size X w') := fun X sc id hX => rAt_any (HSe.out.below hX) hlen sc id nm
  obtain ⟨N0, hN0⟩ : ∃ n, L.length = n := ⟨_, rfl⟩
  rw [hN0] at HA HAt hW1 ⊢
  clear hv a1 b1 s1 hlen hN0 HSe
  go_enter Tryz.func12, Tryz.ntmps12
  go_wp2_with fail
  clear hW1 hQ1
  refine HR.out.mono ?_
  rintro e Y hP
  have HBy := hidK hP.below
  have ht := hP.told
  clear hP HR
  rcases ht with ⟨r, ad2, m2, hr, hw, rfl⟩ | ⟨hr, rfl⟩
  · unfold rowA
    obtain ⟨nm', hnm⟩ : ∃ x, r.name = x := ⟨_, rfl⟩
    obtain ⟨rs, hrs⟩ : ∃ x, r.scope = x := ⟨_, rfl⟩
    obtain ⟨kb, hkb⟩ : ∃ x, kbOf r.kd = x := ⟨_, rfl⟩
    obtain ⟨lo, hlo⟩ : ∃ x, loOf r.kd = x := ⟨_, rfl⟩
    obtain ⟨hi, hhi⟩ : ∃ x, hiOf r.kd = x := ⟨_, rfl⟩
    obtain ⟨fs, hfs⟩ : ∃ x, r.first = x := ⟨_, rfl⟩
    obtain ⟨P, hP⟩ : ∃ P, placesF rs s u p = P := ⟨_, rfl⟩
    have HRes : Hid (getF L nm s u p = ((nearF L nm P).getD fs, 0)) := by show _ = _; rw [getF_some hr, hrs, hfs, hP]
    have HP4 : Hid (P.length ≤ 4) := hP ▸ places_len rs s u p
    have HPe := hidK hP
    rw [hnm, hrs, hkb, hlo, hhi, hfs]
    obtain ⟨V, hV, av, bv, sv⟩ := two_blk (w := Y) #[.string nm', .int .i64 rs, .int .u8 kb, .int .i64 lo, .int .i64 hi, .slice ad2 m2 m2, .string fs] 56
    obtain ⟨q, hq0⟩ : ∃ q, Y.heap.size = q := ⟨_, rfl⟩
    rw [hq0] at av
    have HVb : Hid (Below W1.heap.size W1 V) := bst HBy.out bv
    have HAv := hidK av
    obtain ⟨V1, hV1, av1, bv1, sv1⟩ := two_blk (w := V) #[.int .i64 1] 3
    obtain ⟨V2, hV2, av2, bv2, sv2⟩ := two_blk (w := V1) #[.int .i64 0] 3
    obtain ⟨g1, hg1⟩ : ∃ q, V.heap.size = q := ⟨_, rfl⟩
    obtain ⟨g2, hg2⟩ : ∃ q, V1.heap.size = q := ⟨_, rfl⟩
    rw [hg1] at av1
    rw [hg2] at av2
    have HG12 : Hid (SeeI V2 g1 [1] ∧ SeeI V2 g2 [0] ∧ Below V.heap.size V V2) := ⟨kpO bv2 av1, av2, bst bv1 bv2⟩
    have x1 := cell_at (kpO bv2 (kpO bv1 av)) 1
    clear av1 bv1 sv1 av2 bv2 sv2
    clear hnm hrs hkb hlo hhi hfs av bv sv hw hr hP HBy
    by_cases h2 : rs = 2
    · subst h2
      obtain ⟨V3, hV3, av3, bv3, sv3⟩ := two_blk (w := V2) #[.int .i64 2, .int .i64 2] 3
      obtain ⟨V4, hV4, av4, bv4, sv4⟩ := two_blk (w := V3) #[.int .i64 s, .int .i64 0] 3
      obtain ⟨g3, hg3⟩ : ∃ q, V2.heap.size = q := ⟨_, rfl⟩
      obtain ⟨g4, hg4⟩ : ∃ q, V3.heap.size = q := ⟨_, rfl⟩
      rw [hg3] at av3
      rw [hg4] at av4
      obtain ⟨gs, gi, X0, hX⟩ : ∃ gs gi X0, g3 = gs ∧ g4 = gi ∧ V4 = X0 := ⟨_, _, _, rfl, rfl, rfl⟩
      have hp : P = [(2, s), (2, 0)] := by rw [← HPe.out]; simp [placesF]
      have HGI : Hid (GetI V X0 gs gi P) := by
        obtain ⟨rfl, rfl, rfl⟩ := hX
        rw [hp]
        exact ⟨bst HG12.out.2.2 (bst bv3 bv4), kpO bv4 av3, av4⟩
      have HN : Hid (P.length = 2) := by show _ = _; rw [hp]; rfl
      have HX := hidK hX
      clear hp hX av3 bv3 sv3 av4 bv4 sv4
      go_upto_region 16 with fail
      try rw [HX.out.1, HX.out.2.1, HX.out.2.2]
      clear hV hV1 hV2 hg1 hg2 hq0
      (try clear hV3 hV4 hg3 hg4)
      go_wp2_with fail
      go_loopw [16] (fun iv wr => ∃ k : Nat, k ≤ 2 ∧ iv = .int .i64 k ∧ Hid (Below X0.heap.size X0 wr) ∧ Hid (nearF L nm P = nearF L nm (P.drop k))) (fun iv _ => 2 - (intOf iv).toNat)
      case atStart => exact ⟨0, Nat.zero_le _, rfl, Below.refl _ _, rfl⟩
      case round =>
        obtain ⟨k, hk, rfl, HW, HD⟩ := hrel
        by_cases hlt : k < 2
        · have hkP : k < P.length := by rw [HN.out]; exact hlt
          have i1 : (k : Int) < 2 := by omega
          have p0 := SeeI.at (j := k) (show SeeI wr gs _ from kpO HW.out HGI.out.sc) (by rw [List.length_map]; exact hkP)
          have p1 := SeeI.at (j := k) (show SeeI wr gi _ from kpO HW.out HGI.out.id) (by rw [List.length_map]; exact hkP)
          rw [List.getElem_map] at p0 p1
          obtain ⟨⟨ps, pi⟩, hq⟩ : ∃ q, P[k] = q := ⟨_, rfl⟩
          have HSt := hidK (near_step (L := L) (nm := nm) hkP)
          rw [hq] at p0 p1 HSt
          dsimp only at p0 p1
          have HBw : Hid (Below V.heap.size V wr) := bst HGI.out.below HW.out
          have c0 : wr.cell? ⟨Q1, 0, none⟩ = some (.slice ad N0 cp) := cell_at (kpO HBw.out (kpO HVb.out HA.out)) 0
          have HC := hidK (HAt.out wr.drew ps pi (bst HVb.out HBw.out).drew)
          obtain ⟨av, hav⟩ : ∃ x, atF L ps pi nm = x := ⟨_, rfl⟩
          rw [hav] at HC
          have HAv2 := hidK hav
          have HS := hidK (And.intro c0 (And.intro p0 p1))
          have HSz : Hid (∀ Z, Below wr.heap.size wr Z → Z.cell? ⟨Q1, 0, none⟩ = some (.slice ad N0 cp) ∧ Z.cell? ⟨gs, k, none⟩ = some (.int .i64 ps) ∧ Z.cell? ⟨gi, k, none⟩ = some (.int .i64 pi)) := fun Z hZ => ⟨cell_at (kpO hZ (kpO HBw.out (kpO HVb.out HA.out))) 0, (hZ.cell (World.block_lt_of_cell? wr _ p0)).trans p0, (hZ.cell (World.block_lt_of_cell? wr _ p1)).trans p1⟩
          have HBz := hidK (Below.refl wr.heap.size wr)
          clear hq hav hkP c0 p0 p1 HS
          go_upto_region 19 with fail
          go_cut [17, 18] (fun xv bv X => xv = .string (av.getD ⟨#[]⟩) ∧ bv = .bool av.isSome ∧ Hid (Below X0.heap.size X0 X))
          case first =>
            refine wp_region_held_drew (S := (fun X => X.cell? ⟨Q1, 0, none⟩ = some (.slice ad N0 cp) ∧ X.cell? ⟨gs, k, none⟩ = some (.int .i64 ps) ∧ X.cell? ⟨gi, k, none⟩ = some (.int .i64 pi))) (by kernel_rfl) ?sA (fun hHeld => ?_)
            case sA => ((try dsimp only); exact HSz.out _ (by first | exact HBz.out | exact HBz.out.drew))
            skip
            refine wpAnyH_take (i := 0) (oi := { dst := some 53, op := Op.load 34 (Operand.tmp 5), type := 34, pos := "ref.go:223", after := #[], guard := none }) (v := ?vA0n1) rfl (by kernel_rfl) (by kernel_rfl) (by kernel_rfl) (fun _ _ _ h => h) (Or.inl ⟨by rfl, ?yA0n1⟩) (by assumption) ?rA0n1
            case yA0n1 => (intro w hSw; (try dsimp only at hSw); first | (go_simp; done) | (go_simp; with_reducible rfl))
            try simp only [Act.put, List.setIfInBounds_toArray, List.set_cons_zero, List.set_cons_succ]
            refine wpAnyH_take (i := 1) (oi := { dst := some 54, op := Op.move (Operand.tmp 14), type := 73, pos := "ref.go:223", after := #[], guard := none }) (v := ?vA1n2) rfl (by kernel_rfl) (by kernel_rfl) (by kernel_rfl) (fun _ _ _ h => h) (Or.inl ⟨by rfl, ?yA1n2⟩) (by assumption) ?rA1n2
            case yA1n2 => (intro w hSw; (try dsimp only at hSw); first | (go_simp; done) | (go_simp; with_reducible rfl))
            try simp only [Act.put, List.setIfInBounds_toArray, List.set_cons_zero, List.set_cons_succ]
            refine wpAnyH_take (i := 2) (oi := { dst := some 55, op := Op.move (Operand.tmp 16), type := 3, pos := "ref.go:223", after := #[], guard := none }) (v := ?vA2n3) rfl (by kernel_rfl) (by kernel_rfl) (by kernel_rfl) (fun _ _ _ h => h) (Or.inl ⟨by rfl, ?yA2n3⟩) (by assumption) ?rA2n3
            case yA2n3 => (intro w hSw; (try dsimp only at hSw); first | (go_simp; done) | (go_simp; with_reducible rfl))
            try simp only [Act.put, List.setIfInBounds_toArray, List.set_cons_zero, List.set_cons_succ]
            refine wpAnyH_take (i := 3) (oi := { dst := some 56, op := Op.indexAddr 73 (Operand.tmp 54) (Operand.tmp 55), type := 0, pos := "ref.go:223", after := #[{ on := 1, ground := Ground.data }, { on := 2, ground := Ground.data }], guard := none }) (v := ?vA3n4) rfl (by kernel_rfl) (by kernel_rfl) (by kernel_rfl) (fun _ _ _ h => h) (Or.inl ⟨by rfl, ?yA3n4⟩) (by assumption) ?rA3n4
            case yA3n4 => (intro w hSw; (try dsimp only at hSw); first | (go_simp; done) | (go_simp; with_reducible rfl))
            try simp only [Act.put, List.setIfInBounds_toArray, List.set_cons_zero, List.set_cons_succ]
            refine wpAnyH_take (i := 4) (oi := { dst := some 57, op := Op.load 3 (Operand.tmp 56), type := 3, pos := "ref.go:223", after := #[{ on := 3, ground := Ground.data }], guard := none }) (v := ?vA4n5) rfl (by kernel_rfl) (by kernel_rfl) (by kernel_rfl) (fun _ _ _ h => h) (Or.inl ⟨by rfl, ?yA4n5⟩) (by assumption) ?rA4n5
            case yA4n5 => (intro w hSw; (try dsimp only at hSw); first | (go_simp; done) | (go_simp; with_reducible rfl))
            try simp only [Act.put, List.setIfInBounds_toArray, List.set_cons_zero, List.set_cons_succ]
            refine wpAnyH_take (i := 5) (oi := { dst := some 58, op := Op.move (Operand.tmp 15), type := 73, pos := "ref.go:223", after := #[], guard := none }) (v := ?vA5n6) rfl (by kernel_rfl) (by kernel_rfl) (by kernel_rfl) (fun _ _ _ h => h) (Or.inl ⟨by rfl, ?yA5n6⟩) (by assumption) ?rA5n6
            case yA5n6 => (intro w hSw; (try dsimp only at hSw); first | (go_simp; done) | (go_simp; with_reducible rfl))
            try simp only [Act.put, List.setIfInBounds_toArray, List.set_cons_zero, List.set_cons_succ]
            refine wpAnyH_take (i := 6) (oi := { dst := some 59, op := Op.move (Operand.tmp 16), type := 3, pos := "ref.go:223", after := #[], guard := none }) (v := ?vA6n7) rfl (by kernel_rfl) (by kernel_rfl) (by kernel_rfl) (fun _ _ _ h => h) (Or.inl ⟨by rfl, ?yA6n7⟩) (by assumption) ?rA6n7
            case yA6n7 => (intro w hSw; (try dsimp only at hSw); first | (go_simp; done) | (go_simp; with_reducible rfl))
            try simp only [Act.put, List.setIfInBounds_toArray, List.set_cons_zero, List.set_cons_succ]
            refine wpAnyH_take (i := 7) (oi := { dst := some 60, op := Op.indexAddr 73 (Operand.tmp 58) (Operand.tmp 59), type := 0, pos := "ref.go:223", after := #[{ on := 5, ground := Ground.data }, { on := 6, ground := Ground.data }], guard := none }) (v := ?vA7n8) rfl (by kernel_rfl) (by kernel_rfl) (by kernel_rfl) (fun _ _ _ h => h) (Or.inl ⟨by rfl, ?yA7n8⟩) (by assumption) ?rA7n8
            case yA7n8 => (intro w hSw; (try dsimp only at hSw); first | (go_simp; done) | (go_simp; with_reducible rfl))
            try simp only [Act.put, List.setIfInBounds_toArray, List.set_cons_zero, List.set_cons_succ]
            refine wpAnyH_take (i := 8) (oi := { dst := some 61, op := Op.load 3 (Operand.tmp 60), type := 3, pos := "ref.go:223", after := #[{ on := 7, ground := Ground.data }], guard := none }) (v := ?vA8n9) rfl (by kernel_rfl) (by kernel_rfl) (by kernel_rfl) (fun _ _ _ h => h) (Or.inl ⟨by rfl, ?yA8n9⟩) (by assumption) ?rA8n9
            case yA8n9 => (intro w hSw; (try dsimp only at hSw); first | (go_simp; done) | (go_simp; with_reducible rfl))
            try simp only [Act.put, List.setIfInBounds_toArray, List.set_cons_zero, List.set_cons_succ]
            refine wpAnyH_take (i := 9) (oi := { dst := some 62, op := Op.move (Operand.tmp 1), type := 9, pos := "ref.go:223", after := #[], guard := none }) (v := ?vA9n10) rfl (by kernel_rfl) (by kernel_rfl) (by kernel_rfl) (fun _ _ _ h => h) (Or.inl ⟨by rfl, ?yA9n10⟩) (by assumption) ?rA9n10
            case yA9n10 => (intro w hSw; (try dsimp only at hSw); first | (go_simp; done) | (go_simp; with_reducible rfl))
            try simp only [Act.put, List.setIfInBounds_toArray, List.set_cons_zero, List.set_cons_succ]
            refine wpAnyH_ready (rs := [10]) (by kernel_rfl) (by simp) (AllReadyH.cons (o := { dst := some 63, op := Op.call { callee := Callee.value (Operand.func 25), args := #[Operand.tmp 53, Operand.tmp 57, Operand.tmp 61, Operand.tmp 62], argTypes := #[34, 3, 3, 9] }, type := 74, pos := "ref.go:223", after := #[{ on := 0, ground := Ground.data }, { on := 4, ground := Ground.data }, { on := 8, ground := Ground.data }, { on := 9, ground := Ground.data }], guard := none }) rfl (fun K hK => ?bAn11q0) AllReadyH.nil)
            go_simp
            go_wp2_with (refine HC.out.mono ?_; rintro e Z ⟨rfl, hb⟩; have hbb := bst HBz.out.drew hb; have HZ2 := hidK (bst HW.out hbb); clear HBz; have HBz := hidK hbb; clear hb hbb)
            refine hK.out _ _ ?kAn11o10 (fun hHeld11 => ?_)
            case kAn11o10 => ((try dsimp only); exact HSz.out _ (by first | exact HBz.out | exact HBz.out.drew))
            clear hK K
            try simp only [Act.put, List.setIfInBounds_toArray, List.set_cons_zero, List.set_cons_succ]
            refine wpAnyH_take (i := 11) (oi := { dst := some 52, op := Op.move (Operand.tmp 63), type := 74, pos := "ref.go:223", after := #[{ on := 10, ground := Ground.data }], guard := none }) (v := ?vA11n12) rfl (by kernel_rfl) (by kernel_rfl) (by kernel_rfl) (fun _ _ _ h => h) (Or.inl ⟨by rfl, ?yA11n12⟩) (by assumption) ?rA11n12
            case yA11n12 => (intro w hSw; (try dsimp only at hSw); first | (go_simp; done) | (go_simp; with_reducible rfl))
            try simp only [Act.put, List.setIfInBounds_toArray, List.set_cons_zero, List.set_cons_succ]
            refine wpAnyH_take (i := 12) (oi := { dst := some 64, op := Op.extract (Operand.tmp 52) 0, type := 9, pos := "ref.go:223", after := #[{ on := 11, ground := Ground.data }], guard := none }) (v := ?vA12n13) rfl (by kernel_rfl) (by kernel_rfl) (by kernel_rfl) (fun _ _ _ h => h) (Or.inl ⟨by rfl, ?yA12n13⟩) (by assumption) ?rA12n13
            case yA12n13 => (intro w hSw; (try dsimp only at hSw); first | (go_simp; done) | (go_simp; with_reducible rfl))
            try simp only [Act.put, List.setIfInBounds_toArray, List.set_cons_zero, List.set_cons_succ]
            refine wpAnyH_take (i := 13) (oi := { dst := some 65, op := Op.extract (Operand.tmp 52) 1, type := 4, pos := "ref.go:223", after := #[{ on := 11, ground := Ground.data }, { on := 14, ground := Ground.gcOnly Departure.lateStores }], guard := none }) (v := ?vA13n14) rfl (by kernel_rfl) (by kernel_rfl) (by kernel_rfl) (fun _ _ _ h => h) (Or.inl ⟨by rfl, ?yA13n14⟩) (by assumption) ?rA13n14
            case yA13n14 => (intro w hSw; (try dsimp only at hSw); first | (go_simp; done) | (go_simp; with_reducible rfl))
            try simp only [Act.put, List.setIfInBounds_toArray, List.set_cons_zero, List.set_cons_succ]
            refine wpAnyH_take (i := 14) (oi := { dst := some 17, op := Op.assign (Operand.tmp 64), type := 9, pos := "ref.go:223", after := #[{ on := 12, ground := Ground.data }, { on := 10, ground := Ground.chain }, { on := 0, ground := Ground.phase }, { on := 1, ground := Ground.phase }, { on := 2, ground := Ground.phase }, { on := 3, ground := Ground.phase }, { on := 4, ground := Ground.phase }, { on := 5, ground := Ground.phase }, { on := 6, ground := Ground.phase }, { on := 7, ground := Ground.phase }, { on := 8, ground := Ground.phase }, { on := 9, ground := Ground.phase }, { on := 10, ground := Ground.phase }, { on := 11, ground := Ground.phase }, { on := 12, ground := Ground.phase }, { on := 13, ground := Ground.textOnly Departure.lateStores }], guard := none }) (v := ?vA14n15) rfl (by kernel_rfl) (by kernel_rfl) (by kernel_rfl) (fun _ _ _ h => h) (Or.inl ⟨by rfl, ?yA14n15⟩) (by assumption) ?rA14n15
            case yA14n15 => (intro w hSw; (try dsimp only at hSw); first | (go_simp; done) | (go_simp; with_reducible rfl))
            try simp only [Act.put, List.setIfInBounds_toArray, List.set_cons_zero, List.set_cons_succ]
            refine wpAnyH_take (i := 15) (oi := { dst := some 18, op := Op.assign (Operand.tmp 65), type := 4, pos := "ref.go:223", after := #[{ on := 13, ground := Ground.data }, { on := 14, ground := Ground.chain }, { on := 0, ground := Ground.phase }, { on := 1, ground := Ground.phase }, { on := 2, ground := Ground.phase }, { on := 3, ground := Ground.phase }, { on := 4, ground := Ground.phase }, { on := 5, ground := Ground.phase }, { on := 6, ground := Ground.phase }, { on := 7, ground := Ground.phase }, { on := 8, ground := Ground.phase }, { on := 9, ground := Ground.phase }, { on := 10, ground := Ground.phase }, { on := 11, ground := Ground.phase }, { on := 12, ground := Ground.phase }, { on := 13, ground := Ground.phase }, { on := 14, ground := Ground.phase }], guard := none }) (v := ?vA15n16) rfl (by kernel_rfl) (by kernel_rfl) (by kernel_rfl) (fun _ _ _ h => h) (Or.inl ⟨by rfl, ?yA15n16⟩) (by assumption) ?rA15n16
            case yA15n16 => (intro w hSw; (try dsimp only at hSw); first | (go_simp; done) | (go_simp; with_reducible rfl))
            try simp only [Act.put, List.setIfInBounds_toArray, List.set_cons_zero, List.set_cons_succ]
            refine wpAnyH_done (by kernel_rfl) ?_ _
            go_wp2_with fail
            go_meet
            case rel => exact ⟨rfl, rfl, HZ2.out⟩
          case rest =>
            obtain ⟨rfl, rfl, HX⟩ := hcut
            clear HBz HSz HC
            cases av with
            | some y =>
              go_wp2_with fail
              go_ret2
              refine ⟨?_, bst HB.out (bst HVb.out (bst HGI.out.below HX.out))⟩
              unfold getOut
              rw [HRes.out, HD.out, HSt.out]
              dsimp only
              rw [HAv2.out]
              rfl
            | none =>
              have HD2 : Hid (nearF L nm P = nearF L nm (P.drop (k + 1))) := by
                show _ = _
                rw [HD.out, HSt.out]
                dsimp only
                rw [HAv2.out]
              go_wp2_with fail
              go_roundw
              case rel => exact ⟨k + 1, by omega, by go_num, HX.out, HD2⟩
              case measure => simp [intOf]; omega
        · have i1 : ¬ (k : Int) < 2 := by omega
          have f0 : wr.cell? ⟨q, 6, none⟩ = some (.string fs) := cell_at (kpO (bst HGI.out.below HW.out) HAv.out) 6
          have HDe : Hid (P.drop k = []) := List.drop_eq_nil_of_le (by rw [HN.out]; omega)
          go_wp2_with fail
          go_ret2
          refine ⟨?_, bst HB.out (bst HVb.out (bst HGI.out.below HW.out))⟩
          unfold getOut
          rw [HRes.out, HD.out, HDe.out]
          rfl
    · by_cases h3 : rs = 3
      · subst h3
        obtain ⟨V3, hV3, av3, bv3, sv3⟩ := two_blk (w := V2) #[.int .i64 3, .int .i64 3] 3
        obtain ⟨V4, hV4, av4, bv4, sv4⟩ := two_blk (w := V3) #[.int .i64 u, .int .i64 0] 3
        obtain ⟨g3, hg3⟩ : ∃ q, V2.heap.size = q := ⟨_, rfl⟩
        obtain ⟨g4, hg4⟩ : ∃ q, V3.heap.size = q := ⟨_, rfl⟩
        rw [hg3] at av3
        rw [hg4] at av4
        obtain ⟨gs, gi, X0, hX⟩ : ∃ gs gi X0, g3 = gs ∧ g4 = gi ∧ V4 = X0 := ⟨_, _, _, rfl, rfl, rfl⟩
        have hp : P = [(3, u), (3, 0)] := by rw [← HPe.out]; simp [placesF]
        have HGI : Hid (GetI V X0 gs gi P) := by
          obtain ⟨rfl, rfl, rfl⟩ := hX
          rw [hp]
          exact ⟨bst HG12.out.2.2 (bst bv3 bv4), kpO bv4 av3, av4⟩
        have HN : Hid (P.length = 2) := by show _ = _; rw [hp]; rfl
        have HX := hidK hX
        clear hp hX av3 bv3 sv3 av4 bv4 sv4
        go_upto_region 16 with fail
        try rw [HX.out.1, HX.out.2.1, HX.out.2.2]
        clear hV hV1 hV2 hg1 hg2 hq0
        (try clear hV3 hV4 hg3 hg4)
        go_wp2_with fail
        go_loopw [16] (fun iv wr => ∃ k : Nat, k ≤ 2 ∧ iv = .int .i64 k ∧ Hid (Below X0.heap.size X0 wr) ∧ Hid (nearF L nm P = nearF L nm (P.drop k))) (fun iv _ => 2 - (intOf iv).toNat)
        case atStart => exact ⟨0, Nat.zero_le _, rfl, Below.refl _ _, rfl⟩
        case round =>
          obtain ⟨k, hk, rfl, HW, HD⟩ := hrel
          by_cases hlt : k < 2
          · have hkP : k < P.length := by rw [HN.out]; exact hlt
            have i1 : (k : Int) < 2 := by omega
            have p0 := SeeI.at (j := k) (show SeeI wr gs _ from kpO HW.out HGI.out.sc) (by rw [List.length_map]; exact hkP)
            have p1 := SeeI.at (j := k) (show SeeI wr gi _ from kpO HW.out HGI.out.id) (by rw [List.length_map]; exact hkP)
            rw [List.getElem_map] at p0 p1
            obtain ⟨⟨ps, pi⟩, hq⟩ : ∃ q, P[k] = q := ⟨_, rfl⟩
            have HSt := hidK (near_step (L := L) (nm := nm) hkP)
            rw [hq] at p0 p1 HSt
            dsimp only at p0 p1
            have HBw : Hid (Below V.heap.size V wr) := bst HGI.out.below HW.out
            have c0 : wr.cell? ⟨Q1, 0, none⟩ = some (.slice ad N0 cp) := cell_at (kpO HBw.out (kpO HVb.out HA.out)) 0
            have HC := hidK (HAt.out wr.drew ps pi (bst HVb.out HBw.out).drew)
            obtain ⟨av, hav⟩ : ∃ x, atF L ps pi nm = x := ⟨_, rfl⟩
            rw [hav] at HC
            have HAv2 := hidK hav
            have HS := hidK (And.intro c0 (And.intro p0 p1))
            have HSz : Hid (∀ Z, Below wr.heap.size wr Z → Z.cell? ⟨Q1, 0, none⟩ = some (.slice ad N0 cp) ∧ Z.cell? ⟨gs, k, none⟩ = some (.int .i64 ps) ∧ Z.cell? ⟨gi, k, none⟩ = some (.int .i64 pi)) := fun Z hZ => ⟨cell_at (kpO hZ (kpO HBw.out (kpO HVb.out HA.out))) 0, (hZ.cell (World.block_lt_of_cell? wr _ p0)).trans p0, (hZ.cell (World.block_lt_of_cell? wr _ p1)).trans p1⟩
            have HBz := hidK (Below.refl wr.heap.size wr)
            clear hq hav hkP c0 p0 p1 HS
            go_upto_region 19 with fail
            go_cut [17, 18] (fun xv bv X => xv = .string (av.getD ⟨#[]⟩) ∧ bv = .bool av.isSome ∧ Hid (Below X0.heap.size X0 X))
            case first =>
              refine wp_region_held_drew (S := (fun X => X.cell? ⟨Q1, 0, none⟩ = some (.slice ad N0 cp) ∧ X.cell? ⟨gs, k, none⟩ = some (.int .i64 ps) ∧ X.cell? ⟨gi, k, none⟩ = some (.int .i64 pi))) (by kernel_rfl) ?sB (fun hHeld => ?_)
              case sB => ((try dsimp only); exact HSz.out _ (by first | exact HBz.out | exact HBz.out.drew))
              skip
              refine wpAnyH_take (i := 0) (oi := { dst := some 53, op := Op.load 34 (Operand.tmp 5), type := 34, pos := "ref.go:223", after := #[], guard := none }) (v := ?vB0n1) rfl (by kernel_rfl) (by kernel_rfl) (by kernel_rfl) (fun _ _ _ h => h) (Or.inl ⟨by rfl, ?yB0n1⟩) (by assumption) ?rB0n1
              case yB0n1 => (intro w hSw; (try dsimp only at hSw); first | (go_simp; done) | (go_simp; with_reducible rfl))
              try simp only [Act.put, List.setIfInBounds_toArray, List.set_cons_zero, List.set_cons_succ]
              refine wpAnyH_take (i := 1) (oi := { dst := some 54, op := Op.move (Operand.tmp 14), type := 73, pos := "ref.go:223", after := #[], guard := none }) (v := ?vB1n2) rfl (by kernel_rfl) (by kernel_rfl) (by kernel_rfl) (fun _ _ _ h => h) (Or.inl ⟨by rfl, ?yB1n2⟩) (by assumption) ?rB1n2
              case yB1n2 => (intro w hSw; (try dsimp only at hSw); first | (go_simp; done) | (go_simp; with_reducible rfl))
              try simp only [Act.put, List.setIfInBounds_toArray, List.set_cons_zero, List.set_cons_succ]
              refine wpAnyH_take (i := 2) (oi := { dst := some 55, op := Op.move (Operand.tmp 16), type := 3, pos := "ref.go:223", after := #[], guard := none }) (v := ?vB2n3) rfl (by kernel_rfl) (by kernel_rfl) (by kernel_rfl) (fun _ _ _ h => h) (Or.inl ⟨by rfl, ?yB2n3⟩) (by assumption) ?rB2n3
              case yB2n3 => (intro w hSw; (try dsimp only at hSw); first | (go_simp; done) | (go_simp; with_reducible rfl))
              try simp only [Act.put, List.setIfInBounds_toArray, List.set_cons_zero, List.set_cons_succ]
              refine wpAnyH_take (i := 3) (oi := { dst := some 56, op := Op.indexAddr 73 (Operand.tmp 54) (Operand.tmp 55), type := 0, pos := "ref.go:223", after := #[{ on := 1, ground := Ground.data }, { on := 2, ground := Ground.data }], guard := none }) (v := ?vB3n4) rfl (by kernel_rfl) (by kernel_rfl) (by kernel_rfl) (fun _ _ _ h => h) (Or.inl ⟨by rfl, ?yB3n4⟩) (by assumption) ?rB3n4
              case yB3n4 => (intro w hSw; (try dsimp only at hSw); first | (go_simp; done) | (go_simp; with_reducible rfl))
              try simp only [Act.put, List.setIfInBounds_toArray, List.set_cons_zero, List.set_cons_succ]
              refine wpAnyH_take (i := 4) (oi := { dst := some 57, op := Op.load 3 (Operand.tmp 56), type := 3, pos := "ref.go:223", after := #[{ on := 3, ground := Ground.data }], guard := none }) (v := ?vB4n5) rfl (by kernel_rfl) (by kernel_rfl) (by kernel_rfl) (fun _ _ _ h => h) (Or.inl ⟨by rfl, ?yB4n5⟩) (by assumption) ?rB4n5
              case yB4n5 => (intro w hSw; (try dsimp only at hSw); first | (go_simp; done) | (go_simp; with_reducible rfl))
              try simp only [Act.put, List.setIfInBounds_toArray, List.set_cons_zero, List.set_cons_succ]
              refine wpAnyH_take (i := 5) (oi := { dst := some 58, op := Op.move (Operand.tmp 15), type := 73, pos := "ref.go:223", after := #[], guard := none }) (v := ?vB5n6) rfl (by kernel_rfl) (by kernel_rfl) (by kernel_rfl) (fun _ _ _ h => h) (Or.inl ⟨by rfl, ?yB5n6⟩) (by assumption) ?rB5n6
              case yB5n6 => (intro w hSw; (try dsimp only at hSw); first | (go_simp; done) | (go_simp; with_reducible rfl))
              try simp only [Act.put, List.setIfInBounds_toArray, List.set_cons_zero, List.set_cons_succ]
              refine wpAnyH_take (i := 6) (oi := { dst := some 59, op := Op.move (Operand.tmp 16), type := 3, pos := "ref.go:223", after := #[], guard := none }) (v := ?vB6n7) rfl (by kernel_rfl) (by kernel_rfl) (by kernel_rfl) (fun _ _ _ h => h) (Or.inl ⟨by rfl, ?yB6n7⟩) (by assumption) ?rB6n7
              case yB6n7 => (intro w hSw; (try dsimp only at hSw); first | (go_simp; done) | (go_simp; with_reducible rfl))
              try simp only [Act.put, List.setIfInBounds_toArray, List.set_cons_zero, List.set_cons_succ]
              refine wpAnyH_take (i := 7) (oi := { dst := some 60, op := Op.indexAddr 73 (Operand.tmp 58) (Operand.tmp 59), type := 0, pos := "ref.go:223", after := #[{ on := 5, ground := Ground.data }, { on := 6, ground := Ground.data }], guard := none }) (v := ?vB7n8) rfl (by kernel_rfl) (by kernel_rfl) (by kernel_rfl) (fun _ _ _ h => h) (Or.inl ⟨by rfl, ?yB7n8⟩) (by assumption) ?rB7n8
              case yB7n8 => (intro w hSw; (try dsimp only at hSw); first | (go_simp; done) | (go_simp; with_reducible rfl))
              try simp only [Act.put, List.setIfInBounds_toArray, List.set_cons_zero, List.set_cons_succ]
              refine wpAnyH_take (i := 8) (oi := { dst := some 61, op := Op.load 3 (Operand.tmp 60), type := 3, pos := "ref.go:223", after := #[{ on := 7, ground := Ground.data }], guard := none }) (v := ?vB8n9) rfl (by kernel_rfl) (by kernel_rfl) (by kernel_rfl) (fun _ _ _ h => h) (Or.inl ⟨by rfl, ?yB8n9⟩) (by assumption) ?rB8n9
              case yB8n9 => (intro w hSw; (try dsimp only at hSw); first | (go_simp; done) | (go_simp; with_reducible rfl))
              try simp only [Act.put, List.setIfInBounds_toArray, List.set_cons_zero, List.set_cons_succ]
              refine wpAnyH_take (i := 9) (oi := { dst := some 62, op := Op.move (Operand.tmp 1), type := 9, pos := "ref.go:223", after := #[], guard := none }) (v := ?vB9n10) rfl (by kernel_rfl) (by kernel_rfl) (by kernel_rfl) (fun _ _ _ h => h) (Or.inl ⟨by rfl, ?yB9n10⟩) (by assumption) ?rB9n10
              case yB9n10 => (intro w hSw; (try dsimp only at hSw); first | (go_simp; done) | (go_simp; with_reducible rfl))
              try simp only [Act.put, List.setIfInBounds_toArray, List.set_cons_zero, List.set_cons_succ]
              refine wpAnyH_ready (rs := [10]) (by kernel_rfl) (by simp) (AllReadyH.cons (o := { dst := some 63, op := Op.call { callee := Callee.value (Operand.func 25), args := #[Operand.tmp 53, Operand.tmp 57, Operand.tmp 61, Operand.tmp 62], argTypes := #[34, 3, 3, 9] }, type := 74, pos := "ref.go:223", after := #[{ on := 0, ground := Ground.data }, { on := 4, ground := Ground.data }, { on := 8, ground := Ground.data }, { on := 9, ground := Ground.data }], guard := none }) rfl (fun K hK => ?bBn11q0) AllReadyH.nil)
              go_simp
              go_wp2_with (refine HC.out.mono ?_; rintro e Z ⟨rfl, hb⟩; have hbb := bst HBz.out.drew hb; have HZ2 := hidK (bst HW.out hbb); clear HBz; have HBz := hidK hbb; clear hb hbb)
              refine hK.out _ _ ?kBn11o10 (fun hHeld11 => ?_)
              case kBn11o10 => ((try dsimp only); exact HSz.out _ (by first | exact HBz.out | exact HBz.out.drew))
              clear hK K
              try simp only [Act.put, List.setIfInBounds_toArray, List.set_cons_zero, List.set_cons_succ]
              refine wpAnyH_take (i := 11) (oi := { dst := some 52, op := Op.move (Operand.tmp 63), type := 74, pos := "ref.go:223", after := #[{ on := 10, ground := Ground.data }], guard := none }) (v := ?vB11n12) rfl (by kernel_rfl) (by kernel_rfl) (by kernel_rfl) (fun _ _ _ h => h) (Or.inl ⟨by rfl, ?yB11n12⟩) (by assumption) ?rB11n12
              case yB11n12 => (intro w hSw; (try dsimp only at hSw); first | (go_simp; done) | (go_simp; with_reducible rfl))
              try simp only [Act.put, List.setIfInBounds_toArray, List.set_cons_zero, List.set_cons_succ]
              refine wpAnyH_take (i := 12) (oi := { dst := some 64, op := Op.extract (Operand.tmp 52) 0, type := 9, pos := "ref.go:223", after := #[{ on := 11, ground := Ground.data }], guard := none }) (v := ?vB12n13) rfl (by kernel_rfl) (by kernel_rfl) (by kernel_rfl) (fun _ _ _ h => h) (Or.inl ⟨by rfl, ?yB12n13⟩) (by assumption) ?rB12n13
              case yB12n13 => (intro w hSw; (try dsimp only at hSw); first | (go_simp; done) | (go_simp; with_reducible rfl))
              try simp only [Act.put, List.setIfInBounds_toArray, List.set_cons_zero, List.set_cons_succ]
              refine wpAnyH_take (i := 13) (oi := { dst := some 65, op := Op.extract (Operand.tmp 52) 1, type := 4, pos := "ref.go:223", after := #[{ on := 11, ground := Ground.data }, { on := 14, ground := Ground.gcOnly Departure.lateStores }], guard := none }) (v := ?vB13n14) rfl (by kernel_rfl) (by kernel_rfl) (by kernel_rfl) (fun _ _ _ h => h) (Or.inl ⟨by rfl, ?yB13n14⟩) (by assumption) ?rB13n14
              case yB13n14 => (intro w hSw; (try dsimp only at hSw); first | (go_simp; done) | (go_simp; with_reducible rfl))
              try simp only [Act.put, List.setIfInBounds_toArray, List.set_cons_zero, List.set_cons_succ]
              refine wpAnyH_take (i := 14) (oi := { dst := some 17, op := Op.assign (Operand.tmp 64), type := 9, pos := "ref.go:223", after := #[{ on := 12, ground := Ground.data }, { on := 10, ground := Ground.chain }, { on := 0, ground := Ground.phase }, { on := 1, ground := Ground.phase }, { on := 2, ground := Ground.phase }, { on := 3, ground := Ground.phase }, { on := 4, ground := Ground.phase }, { on := 5, ground := Ground.phase }, { on := 6, ground := Ground.phase }, { on := 7, ground := Ground.phase }, { on := 8, ground := Ground.phase }, { on := 9, ground := Ground.phase }, { on := 10, ground := Ground.phase }, { on := 11, ground := Ground.phase }, { on := 12, ground := Ground.phase }, { on := 13, ground := Ground.textOnly Departure.lateStores }], guard := none }) (v := ?vB14n15) rfl (by kernel_rfl) (by kernel_rfl) (by kernel_rfl) (fun _ _ _ h => h) (Or.inl ⟨by rfl, ?yB14n15⟩) (by assumption) ?rB14n15
              case yB14n15 => (intro w hSw; (try dsimp only at hSw); first | (go_simp; done) | (go_simp; with_reducible rfl))
              try simp only [Act.put, List.setIfInBounds_toArray, List.set_cons_zero, List.set_cons_succ]
              refine wpAnyH_take (i := 15) (oi := { dst := some 18, op := Op.assign (Operand.tmp 65), type := 4, pos := "ref.go:223", after := #[{ on := 13, ground := Ground.data }, { on := 14, ground := Ground.chain }, { on := 0, ground := Ground.phase }, { on := 1, ground := Ground.phase }, { on := 2, ground := Ground.phase }, { on := 3, ground := Ground.phase }, { on := 4, ground := Ground.phase }, { on := 5, ground := Ground.phase }, { on := 6, ground := Ground.phase }, { on := 7, ground := Ground.phase }, { on := 8, ground := Ground.phase }, { on := 9, ground := Ground.phase }, { on := 10, ground := Ground.phase }, { on := 11, ground := Ground.phase }, { on := 12, ground := Ground.phase }, { on := 13, ground := Ground.phase }, { on := 14, ground := Ground.phase }], guard := none }) (v := ?vB15n16) rfl (by kernel_rfl) (by kernel_rfl) (by kernel_rfl) (fun _ _ _ h => h) (Or.inl ⟨by rfl, ?yB15n16⟩) (by assumption) ?rB15n16
              case yB15n16 => (intro w hSw; (try dsimp only at hSw); first | (go_simp; done) | (go_simp; with_reducible rfl))
              try simp only [Act.put, List.setIfInBounds_toArray, List.set_cons_zero, List.set_cons_succ]
              refine wpAnyH_done (by kernel_rfl) ?_ _
              go_wp2_with fail
              go_meet
              case rel => exact ⟨rfl, rfl, HZ2.out⟩
            case rest =>
              obtain ⟨rfl, rfl, HX⟩ := hcut
              clear HBz HSz HC
              cases av with
              | some y =>
                go_wp2_with fail
                go_ret2
                refine ⟨?_, bst HB.out (bst HVb.out (bst HGI.out.below HX.out))⟩
                unfold getOut
                rw [HRes.out, HD.out, HSt.out]
                dsimp only
                rw [HAv2.out]
                rfl
              | none =>
                have HD2 : Hid (nearF L nm P = nearF L nm (P.drop (k + 1))) := by
                  show _ = _
                  rw [HD.out, HSt.out]
                  dsimp only
                  rw [HAv2.out]
                go_wp2_with fail
                go_roundw
                case rel => exact ⟨k + 1, by omega, by go_num, HX.out, HD2⟩
                case measure => simp [intOf]; omega
          · have i1 : ¬ (k : Int) < 2 := by omega
            have f0 : wr.cell? ⟨q, 6, none⟩ = some (.string fs) := cell_at (kpO (bst HGI.out.below HW.out) HAv.out) 6
            have HDe : Hid (P.drop k = []) := List.drop_eq_nil_of_le (by rw [HN.out]; omega)
            go_wp2_with fail
            go_ret2
            refine ⟨?_, bst HB.out (bst HVb.out (bst HGI.out.below HW.out))⟩
            unfold getOut
            rw [HRes.out, HD.out, HDe.out]
            rfl
      · by_cases h4 : rs = 4
        · subst h4
          obtain ⟨V3, hV3, av3, bv3, sv3⟩ := two_blk (w := V2) #[.int .i64 4, .int .i64 3, .int .i64 4, .int .i64 3] 3
          obtain ⟨V4, hV4, av4, bv4, sv4⟩ := two_blk (w := V3) #[.int .i64 p, .int .i64 u, .int .i64 0, .int .i64 0] 3
          obtain ⟨g3, hg3⟩ : ∃ q, V2.heap.size = q := ⟨_, rfl⟩
          obtain ⟨g4, hg4⟩ : ∃ q, V3.heap.size = q := ⟨_, rfl⟩
          rw [hg3] at av3
          rw [hg4] at av4
          obtain ⟨gs, gi, X0, hX⟩ : ∃ gs gi X0, g3 = gs ∧ g4 = gi ∧ V4 = X0 := ⟨_, _, _, rfl, rfl, rfl⟩
          have hp : P = [(4, p), (3, u), (4, 0), (3, 0)] := by rw [← HPe.out]; simp [placesF]
          have HGI : Hid (GetI V X0 gs gi P) := by
            obtain ⟨rfl, rfl, rfl⟩ := hX
            rw [hp]
            exact ⟨bst HG12.out.2.2 (bst bv3 bv4), kpO bv4 av3, av4⟩
          have HN : Hid (P.length = 4) := by show _ = _; rw [hp]; rfl
          have HX := hidK hX
          clear hp hX av3 bv3 sv3 av4 bv4 sv4
          go_upto_region 16 with fail
          try rw [HX.out.1, HX.out.2.1, HX.out.2.2]
          clear hV hV1 hV2 hg1 hg2 hq0
          (try clear hV3 hV4 hg3 hg4)
          go_wp2_with fail
          go_loopw [16] (fun iv wr => ∃ k : Nat, k ≤ 4 ∧ iv = .int .i64 k ∧ Hid (Below X0.heap.size X0 wr) ∧ Hid (nearF L nm P = nearF L nm (P.drop k))) (fun iv _ => 4 - (intOf iv).toNat)
          case atStart => exact ⟨0, Nat.zero_le _, rfl, Below.refl _ _, rfl⟩
          case round =>
            obtain ⟨k, hk, rfl, HW, HD⟩ := hrel
            by_cases hlt : k < 4
            · have hkP : k < P.length := by rw [HN.out]; exact hlt
              have i1 : (k : Int) < 4 := by omega
              have p0 := SeeI.at (j := k) (show SeeI wr gs _ from kpO HW.out HGI.out.sc) (by rw [List.length_map]; exact hkP)
              have p1 := SeeI.at (j := k) (show SeeI wr gi _ from kpO HW.out HGI.out.id) (by rw [List.length_map]; exact hkP)
              rw [List.getElem_map] at p0 p1
              obtain ⟨⟨ps, pi⟩, hq⟩ : ∃ q, P[k] = q := ⟨_, rfl⟩
              have HSt := hidK (near_step (L := L) (nm := nm) hkP)
              rw [hq] at p0 p1 HSt
              dsimp only at p0 p1
              have HBw : Hid (Below V.heap.size V wr) := bst HGI.out.below HW.out
              have c0 : wr.cell? ⟨Q1, 0, none⟩ = some (.slice ad N0 cp) := cell_at (kpO HBw.out (kpO HVb.out HA.out)) 0
              have HC := hidK (HAt.out wr.drew ps pi (bst HVb.out HBw.out).drew)
              obtain ⟨av, hav⟩ : ∃ x, atF L ps pi nm = x := ⟨_, rfl⟩
              rw [hav] at HC
              have HAv2 := hidK hav
              have HS := hidK (And.intro c0 (And.intro p0 p1))
              have HSz : Hid (∀ Z, Below wr.heap.size wr Z → Z.cell? ⟨Q1, 0, none⟩ = some (.slice ad N0 cp) ∧ Z.cell? ⟨gs, k, none⟩ = some (.int .i64 ps) ∧ Z.cell? ⟨gi, k, none⟩ = some (.int .i64 pi)) := fun Z hZ => ⟨cell_at (kpO hZ (kpO HBw.out (kpO HVb.out HA.out))) 0, (hZ.cell (World.block_lt_of_cell? wr _ p0)).trans p0, (hZ.cell (World.block_lt_of_cell? wr _ p1)).trans p1⟩
              have HBz := hidK (Below.refl wr.heap.size wr)
              clear hq hav hkP c0 p0 p1 HS
              go_upto_region 19 with fail
              go_cut [17, 18] (fun xv bv X => xv = .string (av.getD ⟨#[]⟩) ∧ bv = .bool av.isSome ∧ Hid (Below X0.heap.size X0 X))
              case first =>
                refine wp_region_held_drew (S := (fun X => X.cell? ⟨Q1, 0, none⟩ = some (.slice ad N0 cp) ∧ X.cell? ⟨gs, k, none⟩ = some (.int .i64 ps) ∧ X.cell? ⟨gi, k, none⟩ = some (.int .i64 pi))) (by kernel_rfl) ?sC (fun hHeld => ?_)
                case sC => ((try dsimp only); exact HSz.out _ (by first | exact HBz.out | exact HBz.out.drew))
                skip
                refine wpAnyH_take (i := 0) (oi := { dst := some 53, op := Op.load 34 (Operand.tmp 5), type := 34, pos := "ref.go:223", after := #[], guard := none }) (v := ?vC0n1) rfl (by kernel_rfl) (by kernel_rfl) (by kernel_rfl) (fun _ _ _ h => h) (Or.inl ⟨by rfl, ?yC0n1⟩) (by assumption) ?rC0n1
                case yC0n1 => (intro w hSw; (try dsimp only at hSw); first | (go_simp; done) | (go_simp; with_reducible rfl))
                try simp only [Act.put, List.setIfInBounds_toArray, List.set_cons_zero, List.set_cons_succ]
                refine wpAnyH_take (i := 1) (oi := { dst := some 54, op := Op.move (Operand.tmp 14), type := 73, pos := "ref.go:223", after := #[], guard := none }) (v := ?vC1n2) rfl (by kernel_rfl) (by kernel_rfl) (by kernel_rfl) (fun _ _ _ h => h) (Or.inl ⟨by rfl, ?yC1n2⟩) (by assumption) ?rC1n2
                case yC1n2 => (intro w hSw; (try dsimp only at hSw); first | (go_simp; done) | (go_simp; with_reducible rfl))
                try simp only [Act.put, List.setIfInBounds_toArray, List.set_cons_zero, List.set_cons_succ]
                refine wpAnyH_take (i := 2) (oi := { dst := some 55, op := Op.move (Operand.tmp 16), type := 3, pos := "ref.go:223", after := #[], guard := none }) (v := ?vC2n3) rfl (by kernel_rfl) (by kernel_rfl) (by kernel_rfl) (fun _ _ _ h => h) (Or.inl ⟨by rfl, ?yC2n3⟩) (by assumption) ?rC2n3
                case yC2n3 => (intro w hSw; (try dsimp only at hSw); first | (go_simp; done) | (go_simp; with_reducible rfl))
                try simp only [Act.put, List.setIfInBounds_toArray, List.set_cons_zero, List.set_cons_succ]
                refine wpAnyH_take (i := 3) (oi := { dst := some 56, op := Op.indexAddr 73 (Operand.tmp 54) (Operand.tmp 55), type := 0, pos := "ref.go:223", after := #[{ on := 1, ground := Ground.data }, { on := 2, ground := Ground.data }], guard := none }) (v := ?vC3n4) rfl (by kernel_rfl) (by kernel_rfl) (by kernel_rfl) (fun _ _ _ h => h) (Or.inl ⟨by rfl, ?yC3n4⟩) (by assumption) ?rC3n4
                case yC3n4 => (intro w hSw; (try dsimp only at hSw); first | (go_simp; done) | (go_simp; with_reducible rfl))
                try simp only [Act.put, List.setIfInBounds_toArray, List.set_cons_zero, List.set_cons_succ]
                refine wpAnyH_take (i := 4) (oi := { dst := some 57, op := Op.load 3 (Operand.tmp 56), type := 3, pos := "ref.go:223", after := #[{ on := 3, ground := Ground.data }], guard := none }) (v := ?vC4n5) rfl (by kernel_rfl) (by kernel_rfl) (by kernel_rfl) (fun _ _ _ h => h) (Or.inl ⟨by rfl, ?yC4n5⟩) (by assumption) ?rC4n5
                case yC4n5 => (intro w hSw; (try dsimp only at hSw); first | (go_simp; done) | (go_simp; with_reducible rfl))
                try simp only [Act.put, List.setIfInBounds_toArray, List.set_cons_zero, List.set_cons_succ]
                refine wpAnyH_take (i := 5) (oi := { dst := some 58, op := Op.move (Operand.tmp 15), type := 73, pos := "ref.go:223", after := #[], guard := none }) (v := ?vC5n6) rfl (by kernel_rfl) (by kernel_rfl) (by kernel_rfl) (fun _ _ _ h => h) (Or.inl ⟨by rfl, ?yC5n6⟩) (by assumption) ?rC5n6
                case yC5n6 => (intro w hSw; (try dsimp only at hSw); first | (go_simp; done) | (go_simp; with_reducible rfl))
                try simp only [Act.put, List.setIfInBounds_toArray, List.set_cons_zero, List.set_cons_succ]
                refine wpAnyH_take (i := 6) (oi := { dst := some 59, op := Op.move (Operand.tmp 16), type := 3, pos := "ref.go:223", after := #[], guard := none }) (v := ?vC6n7) rfl (by kernel_rfl) (by kernel_rfl) (by kernel_rfl) (fun _ _ _ h => h) (Or.inl ⟨by rfl, ?yC6n7⟩) (by assumption) ?rC6n7
                case yC6n7 => (intro w hSw; (try dsimp only at hSw); first | (go_simp; done) | (go_simp; with_reducible rfl))
                try simp only [Act.put, List.setIfInBounds_toArray, List.set_cons_zero, List.set_cons_succ]
                refine wpAnyH_take (i := 7) (oi := { dst := some 60, op := Op.indexAddr 73 (Operand.tmp 58) (Operand.tmp 59), type := 0, pos := "ref.go:223", after := #[{ on := 5, ground := Ground.data }, { on := 6, ground := Ground.data }], guard := none }) (v := ?vC7n8) rfl (by kernel_rfl) (by kernel_rfl) (by kernel_rfl) (fun _ _ _ h => h) (Or.inl ⟨by rfl, ?yC7n8⟩) (by assumption) ?rC7n8
                case yC7n8 => (intro w hSw; (try dsimp only at hSw); first | (go_simp; done) | (go_simp; with_reducible rfl))
                try simp only [Act.put, List.setIfInBounds_toArray, List.set_cons_zero, List.set_cons_succ]
                refine wpAnyH_take (i := 8) (oi := { dst := some 61, op := Op.load 3 (Operand.tmp 60), type := 3, pos := "ref.go:223", after := #[{ on := 7, ground := Ground.data }], guard := none }) (v := ?vC8n9) rfl (by kernel_rfl) (by kernel_rfl) (by kernel_rfl) (fun _ _ _ h => h) (Or.inl ⟨by rfl, ?yC8n9⟩) (by assumption) ?rC8n9
                case yC8n9 => (intro w hSw; (try dsimp only at hSw); first | (go_simp; done) | (go_simp; with_reducible rfl))
                try simp only [Act.put, List.setIfInBounds_toArray, List.set_cons_zero, List.set_cons_succ]
                refine wpAnyH_take (i := 9) (oi := { dst := some 62, op := Op.move (Operand.tmp 1), type := 9, pos := "ref.go:223", after := #[], guard := none }) (v := ?vC9n10) rfl (by kernel_rfl) (by kernel_rfl) (by kernel_rfl) (fun _ _ _ h => h) (Or.inl ⟨by rfl, ?yC9n10⟩) (by assumption) ?rC9n10
                case yC9n10 => (intro w hSw; (try dsimp only at hSw); first | (go_simp; done) | (go_simp; with_reducible rfl))
                try simp only [Act.put, List.setIfInBounds_toArray, List.set_cons_zero, List.set_cons_succ]
                refine wpAnyH_ready (rs := [10]) (by kernel_rfl) (by simp) (AllReadyH.cons (o := { dst := some 63, op := Op.call { callee := Callee.value (Operand.func 25), args := #[Operand.tmp 53, Operand.tmp 57, Operand.tmp 61, Operand.tmp 62], argTypes := #[34, 3, 3, 9] }, type := 74, pos := "ref.go:223", after := #[{ on := 0, ground := Ground.data }, { on := 4, ground := Ground.data }, { on := 8, ground := Ground.data }, { on := 9, ground := Ground.data }], guard := none }) rfl (fun K hK => ?bCn11q0) AllReadyH.nil)
                go_simp
                go_wp2_with (refine HC.out.mono ?_; rintro e Z ⟨rfl, hb⟩; have hbb := bst HBz.out.drew hb; have HZ2 := hidK (bst HW.out hbb); clear HBz; have HBz := hidK hbb; clear hb hbb)
                refine hK.out _ _ ?kCn11o10 (fun hHeld11 => ?_)
                case kCn11o10 => ((try dsimp only); exact HSz.out _ (by first | exact HBz.out | exact HBz.out.drew))
                clear hK K
                try simp only [Act.put, List.setIfInBounds_toArray, List.set_cons_zero, List.set_cons_succ]
                refine wpAnyH_take (i := 11) (oi := { dst := some 52, op := Op.move (Operand.tmp 63), type := 74, pos := "ref.go:223", after := #[{ on := 10, ground := Ground.data }], guard := none }) (v := ?vC11n12) rfl (by kernel_rfl) (by kernel_rfl) (by kernel_rfl) (fun _ _ _ h => h) (Or.inl ⟨by rfl, ?yC11n12⟩) (by assumption) ?rC11n12
                case yC11n12 => (intro w hSw; (try dsimp only at hSw); first | (go_simp; done) | (go_simp; with_reducible rfl))
                try simp only [Act.put, List.setIfInBounds_toArray, List.set_cons_zero, List.set_cons_succ]
                refine wpAnyH_take (i := 12) (oi := { dst := some 64, op := Op.extract (Operand.tmp 52) 0, type := 9, pos := "ref.go:223", after := #[{ on := 11, ground := Ground.data }], guard := none }) (v := ?vC12n13) rfl (by kernel_rfl) (by kernel_rfl) (by kernel_rfl) (fun _ _ _ h => h) (Or.inl ⟨by rfl, ?yC12n13⟩) (by assumption) ?rC12n13
                case yC12n13 => (intro w hSw; (try dsimp only at hSw); first | (go_simp; done) | (go_simp; with_reducible rfl))
                try simp only [Act.put, List.setIfInBounds_toArray, List.set_cons_zero, List.set_cons_succ]
                refine wpAnyH_take (i := 13) (oi := { dst := some 65, op := Op.extract (Operand.tmp 52) 1, type := 4, pos := "ref.go:223", after := #[{ on := 11, ground := Ground.data }, { on := 14, ground := Ground.gcOnly Departure.lateStores }], guard := none }) (v := ?vC13n14) rfl (by kernel_rfl) (by kernel_rfl) (by kernel_rfl) (fun _ _ _ h => h) (Or.inl ⟨by rfl, ?yC13n14⟩) (by assumption) ?rC13n14
                case yC13n14 => (intro w hSw; (try dsimp only at hSw); first | (go_simp; done) | (go_simp; with_reducible rfl))
                try simp only [Act.put, List.setIfInBounds_toArray, List.set_cons_zero, List.set_cons_succ]
                refine wpAnyH_take (i := 14) (oi := { dst := some 17, op := Op.assign (Operand.tmp 64), type := 9, pos := "ref.go:223", after := #[{ on := 12, ground := Ground.data }, { on := 10, ground := Ground.chain }, { on := 0, ground := Ground.phase }, { on := 1, ground := Ground.phase }, { on := 2, ground := Ground.phase }, { on := 3, ground := Ground.phase }, { on := 4, ground := Ground.phase }, { on := 5, ground := Ground.phase }, { on := 6, ground := Ground.phase }, { on := 7, ground := Ground.phase }, { on := 8, ground := Ground.phase }, { on := 9, ground := Ground.phase }, { on := 10, ground := Ground.phase }, { on := 11, ground := Ground.phase }, { on := 12, ground := Ground.phase }, { on := 13, ground := Ground.textOnly Departure.lateStores }], guard := none }) (v := ?vC14n15) rfl (by kernel_rfl) (by kernel_rfl) (by kernel_rfl) (fun _ _ _ h => h) (Or.inl ⟨by rfl, ?yC14n15⟩) (by assumption) ?rC14n15
                case yC14n15 => (intro w hSw; (try dsimp only at hSw); first | (go_simp; done) | (go_simp; with_reducible rfl))
                try simp only [Act.put, List.setIfInBounds_toArray, List.set_cons_zero, List.set_cons_succ]
                refine wpAnyH_take (i := 15) (oi := { dst := some 18, op := Op.assign (Operand.tmp 65), type := 4, pos := "ref.go:223", after := #[{ on := 13, ground := Ground.data }, { on := 14, ground := Ground.chain }, { on := 0, ground := Ground.phase }, { on := 1, ground := Ground.phase }, { on := 2, ground := Ground.phase }, { on := 3, ground := Ground.phase }, { on := 4, ground := Ground.phase }, { on := 5, ground := Ground.phase }, { on := 6, ground := Ground.phase }, { on := 7, ground := Ground.phase }, { on := 8, ground := Ground.phase }, { on := 9, ground := Ground.phase }, { on := 10, ground := Ground.phase }, { on := 11, ground := Ground.phase }, { on := 12, ground := Ground.phase }, { on := 13, ground := Ground.phase }, { on := 14, ground := Ground.phase }], guard := none }) (v := ?vC15n16) rfl (by kernel_rfl) (by kernel_rfl) (by kernel_rfl) (fun _ _ _ h => h) (Or.inl ⟨by rfl, ?yC15n16⟩) (by assumption) ?rC15n16
                case yC15n16 => (intro w hSw; (try dsimp only at hSw); first | (go_simp; done) | (go_simp; with_reducible rfl))
                try simp only [Act.put, List.setIfInBounds_toArray, List.set_cons_zero, List.set_cons_succ]
                refine wpAnyH_done (by kernel_rfl) ?_ _
                go_wp2_with fail
                go_meet
                case rel => exact ⟨rfl, rfl, HZ2.out⟩
              case rest =>
                obtain ⟨rfl, rfl, HX⟩ := hcut
                clear HBz HSz HC
                cases av with
                | some y =>
                  go_wp2_with fail
                  go_ret2
                  refine ⟨?_, bst HB.out (bst HVb.out (bst HGI.out.below HX.out))⟩
                  unfold getOut
                  rw [HRes.out, HD.out, HSt.out]
                  dsimp only
                  rw [HAv2.out]
                  rfl
                | none =>
                  have HD2 : Hid (nearF L nm P = nearF L nm (P.drop (k + 1))) := by
                    show _ = _
                    rw [HD.out, HSt.out]
                    dsimp only
                    rw [HAv2.out]
                  go_wp2_with fail
                  go_roundw
                  case rel => exact ⟨k + 1, by omega, by go_num, HX.out, HD2⟩
                  case measure => simp [intOf]; omega
            · have i1 : ¬ (k : Int) < 4 := by omega
              have f0 : wr.cell? ⟨q, 6, none⟩ = some (.string fs) := cell_at (kpO (bst HGI.out.below HW.out) HAv.out) 6
              have HDe : Hid (P.drop k = []) := List.drop_eq_nil_of_le (by rw [HN.out]; omega)
              go_wp2_with fail
              go_ret2
              refine ⟨?_, bst HB.out (bst HVb.out (bst HGI.out.below HW.out))⟩
              unfold getOut
              rw [HRes.out, HD.out, HDe.out]
              rfl
        · have k2 : (rs == 2) = false := by simpa using h2
          have k3 : (rs == 3) = false := by simpa using h3
          have k4 : (rs == 4) = false := by simpa using h4
          obtain ⟨gs, gi, X0, hX⟩ : ∃ gs gi X0, g1 = gs ∧ g2 = gi ∧ V2 = X0 := ⟨_, _, _, rfl, rfl, rfl⟩
          have hp : P = [(1, 0)] := by rw [← HPe.out]; simp [placesF, h2, h3, h4]
          have HGI : Hid (GetI V X0 gs gi P) := by
            obtain ⟨rfl, rfl, rfl⟩ := hX
            rw [hp]
            exact ⟨HG12.out.2.2, HG12.out.1, HG12.out.2.1⟩
          have HN : Hid (P.length = 1) := by show _ = _; rw [hp]; rfl
          have HX := hidK hX
          clear hp hX
          go_upto_region 16 with fail
          try rw [HX.out.1, HX.out.2.1, HX.out.2.2]
          clear hV hV1 hV2 hg1 hg2 hq0
          (try clear hV3 hV4 hg3 hg4)
          go_wp2_with fail
          go_loopw [16] (fun iv wr => ∃ k : Nat, k ≤ 1 ∧ iv = .int .i64 k ∧ Hid (Below X0.heap.size X0 wr) ∧ Hid (nearF L nm P = nearF L nm (P.drop k))) (fun iv _ => 1 - (intOf iv).toNat)
          case atStart => exact ⟨0, Nat.zero_le _, rfl, Below.refl _ _, rfl⟩
          case round =>
            obtain ⟨k, hk, rfl, HW, HD⟩ := hrel
            by_cases hlt : k < 1
            · have hkP : k < P.length := by rw [HN.out]; exact hlt
              have i1 : (k : Int) < 1 := by omega
              have p0 := SeeI.at (j := k) (show SeeI wr gs _ from kpO HW.out HGI.out.sc) (by rw [List.length_map]; exact hkP)
              have p1 := SeeI.at (j := k) (show SeeI wr gi _ from kpO HW.out HGI.out.id) (by rw [List.length_map]; exact hkP)
              rw [List.getElem_map] at p0 p1
              obtain ⟨⟨ps, pi⟩, hq⟩ : ∃ q, P[k] = q := ⟨_, rfl⟩
              have HSt := hidK (near_step (L := L) (nm := nm) hkP)
              rw [hq] at p0 p1 HSt
              dsimp only at p0 p1
              have HBw : Hid (Below V.heap.size V wr) := bst HGI.out.below HW.out
              have c0 : wr.cell? ⟨Q1, 0, none⟩ = some (.slice ad N0 cp) := cell_at (kpO HBw.out (kpO HVb.out HA.out)) 0
              have HC := hidK (HAt.out wr.drew ps pi (bst HVb.out HBw.out).drew)
              obtain ⟨av, hav⟩ : ∃ x, atF L ps pi nm = x := ⟨_, rfl⟩
              rw [hav] at HC
              have HAv2 := hidK hav
              have HS := hidK (And.intro c0 (And.intro p0 p1))
              have HSz : Hid (∀ Z, Below wr.heap.size wr Z → Z.cell? ⟨Q1, 0, none⟩ = some (.slice ad N0 cp) ∧ Z.cell? ⟨gs, k, none⟩ = some (.int .i64 ps) ∧ Z.cell? ⟨gi, k, none⟩ = some (.int .i64 pi)) := fun Z hZ => ⟨cell_at (kpO hZ (kpO HBw.out (kpO HVb.out HA.out))) 0, (hZ.cell (World.block_lt_of_cell? wr _ p0)).trans p0, (hZ.cell (World.block_lt_of_cell? wr _ p1)).trans p1⟩
              have HBz := hidK (Below.refl wr.heap.size wr)
              clear hq hav hkP c0 p0 p1 HS
              go_upto_region 19 with fail
              go_cut [17, 18] (fun xv bv X => xv = .string (av.getD ⟨#[]⟩) ∧ bv = .bool av.isSome ∧ Hid (Below X0.heap.size X0 X))
              case first =>
                refine wp_region_held_drew (S := (fun X => X.cell? ⟨Q1, 0, none⟩ = some (.slice ad N0 cp) ∧ X.cell? ⟨gs, k, none⟩ = some (.int .i64 ps) ∧ X.cell? ⟨gi, k, none⟩ = some (.int .i64 pi))) (by kernel_rfl) ?sE (fun hHeld => ?_)
                case sE => ((try dsimp only); exact HSz.out _ (by first | exact HBz.out | exact HBz.out.drew))
                skip
                refine wpAnyH_take (i := 0) (oi := { dst := some 53, op := Op.load 34 (Operand.tmp 5), type := 34, pos := "ref.go:223", after := #[], guard := none }) (v := ?vE0n1) rfl (by kernel_rfl) (by kernel_rfl) (by kernel_rfl) (fun _ _ _ h => h) (Or.inl ⟨by rfl, ?yE0n1⟩) (by assumption) ?rE0n1
                case yE0n1 => (intro w hSw; (try dsimp only at hSw); first | (go_simp; done) | (go_simp; with_reducible rfl))
                try simp only [Act.put, List.setIfInBounds_toArray, List.set_cons_zero, List.set_cons_succ]
                refine wpAnyH_take (i := 1) (oi := { dst := some 54, op := Op.move (Operand.tmp 14), type := 73, pos := "ref.go:223", after := #[], guard := none }) (v := ?vE1n2) rfl (by kernel_rfl) (by kernel_rfl) (by kernel_rfl) (fun _ _ _ h => h) (Or.inl ⟨by rfl, ?yE1n2⟩) (by assumption) ?rE1n2
                case yE1n2 => (intro w hSw; (try dsimp only at hSw); first | (go_simp; done) | (go_simp; with_reducible rfl))
                try simp only [Act.put, List.setIfInBounds_toArray, List.set_cons_zero, List.set_cons_succ]
                refine wpAnyH_take (i := 2) (oi := { dst := some 55, op := Op.move (Operand.tmp 16), type := 3, pos := "ref.go:223", after := #[], guard := none }) (v := ?vE2n3) rfl (by kernel_rfl) (by kernel_rfl) (by kernel_rfl) (fun _ _ _ h => h) (Or.inl ⟨by rfl, ?yE2n3⟩) (by assumption) ?rE2n3
                case yE2n3 => (intro w hSw; (try dsimp only at hSw); first | (go_simp; done) | (go_simp; with_reducible rfl))
                try simp only [Act.put, List.setIfInBounds_toArray, List.set_cons_zero, List.set_cons_succ]
                refine wpAnyH_take (i := 3) (oi := { dst := some 56, op := Op.indexAddr 73 (Operand.tmp 54) (Operand.tmp 55), type := 0, pos := "ref.go:223", after := #[{ on := 1, ground := Ground.data }, { on := 2, ground := Ground.data }], guard := none }) (v := ?vE3n4) rfl (by kernel_rfl) (by kernel_rfl) (by kernel_rfl) (fun _ _ _ h => h) (Or.inl ⟨by rfl, ?yE3n4⟩) (by assumption) ?rE3n4
                case yE3n4 => (intro w hSw; (try dsimp only at hSw); first | (go_simp; done) | (go_simp; with_reducible rfl))
                try simp only [Act.put, List.setIfInBounds_toArray, List.set_cons_zero, List.set_cons_succ]
                refine wpAnyH_take (i := 4) (oi := { dst := some 57, op := Op.load 3 (Operand.tmp 56), type := 3, pos := "ref.go:223", after := #[{ on := 3, ground := Ground.data }], guard := none }) (v := ?vE4n5) rfl (by kernel_rfl) (by kernel_rfl) (by kernel_rfl) (fun _ _ _ h => h) (Or.inl ⟨by rfl, ?yE4n5⟩) (by assumption) ?rE4n5
                case yE4n5 => (intro w hSw; (try dsimp only at hSw); first | (go_simp; done) | (go_simp; with_reducible rfl))
                try simp only [Act.put, List.setIfInBounds_toArray, List.set_cons_zero, List.set_cons_succ]
                refine wpAnyH_take (i := 5) (oi := { dst := some 58, op := Op.move (Operand.tmp 15), type := 73, pos := "ref.go:223", after := #[], guard := none }) (v := ?vE5n6) rfl (by kernel_rfl) (by kernel_rfl) (by kernel_rfl) (fun _ _ _ h => h) (Or.inl ⟨by rfl, ?yE5n6⟩) (by assumption) ?rE5n6
                case yE5n6 => (intro w hSw; (try dsimp only at hSw); first | (go_simp; done) | (go_simp; with_reducible rfl))
                try simp only [Act.put, List.setIfInBounds_toArray, List.set_cons_zero, List.set_cons_succ]
                refine wpAnyH_take (i := 6) (oi := { dst := some 59, op := Op.move (Operand.tmp 16), type := 3, pos := "ref.go:223", after := #[], guard := none }) (v := ?vE6n7) rfl (by kernel_rfl) (by kernel_rfl) (by kernel_rfl) (fun _ _ _ h => h) (Or.inl ⟨by rfl, ?yE6n7⟩) (by assumption) ?rE6n7
                case yE6n7 => (intro w hSw; (try dsimp only at hSw); first | (go_simp; done) | (go_simp; with_reducible rfl))
                try simp only [Act.put, List.setIfInBounds_toArray, List.set_cons_zero, List.set_cons_succ]
                refine wpAnyH_take (i := 7) (oi := { dst := some 60, op := Op.indexAddr 73 (Operand.tmp 58) (Operand.tmp 59), type := 0, pos := "ref.go:223", after := #[{ on := 5, ground := Ground.data }, { on := 6, ground := Ground.data }], guard := none }) (v := ?vE7n8) rfl (by kernel_rfl) (by kernel_rfl) (by kernel_rfl) (fun _ _ _ h => h) (Or.inl ⟨by rfl, ?yE7n8⟩) (by assumption) ?rE7n8
                case yE7n8 => (intro w hSw; (try dsimp only at hSw); first | (go_simp; done) | (go_simp; with_reducible rfl))
                try simp only [Act.put, List.setIfInBounds_toArray, List.set_cons_zero, List.set_cons_succ]
                refine wpAnyH_take (i := 8) (oi := { dst := some 61, op := Op.load 3 (Operand.tmp 60), type := 3, pos := "ref.go:223", after := #[{ on := 7, ground := Ground.data }], guard := none }) (v := ?vE8n9) rfl (by kernel_rfl) (by kernel_rfl) (by kernel_rfl) (fun _ _ _ h => h) (Or.inl ⟨by rfl, ?yE8n9⟩) (by assumption) ?rE8n9
                case yE8n9 => (intro w hSw; (try dsimp only at hSw); first | (go_simp; done) | (go_simp; with_reducible rfl))
                try simp only [Act.put, List.setIfInBounds_toArray, List.set_cons_zero, List.set_cons_succ]
                refine wpAnyH_take (i := 9) (oi := { dst := some 62, op := Op.move (Operand.tmp 1), type := 9, pos := "ref.go:223", after := #[], guard := none }) (v := ?vE9n10) rfl (by kernel_rfl) (by kernel_rfl) (by kernel_rfl) (fun _ _ _ h => h) (Or.inl ⟨by rfl, ?yE9n10⟩) (by assumption) ?rE9n10
                case yE9n10 => (intro w hSw; (try dsimp only at hSw); first | (go_simp; done) | (go_simp; with_reducible rfl))
                try simp only [Act.put, List.setIfInBounds_toArray, List.set_cons_zero, List.set_cons_succ]
                refine wpAnyH_ready (rs := [10]) (by kernel_rfl) (by simp) (AllReadyH.cons (o := { dst := some 63, op := Op.call { callee := Callee.value (Operand.func 25), args := #[Operand.tmp 53, Operand.tmp 57, Operand.tmp 61, Operand.tmp 62], argTypes := #[34, 3, 3, 9] }, type := 74, pos := "ref.go:223", after := #[{ on := 0, ground := Ground.data }, { on := 4, ground := Ground.data }, { on := 8, ground := Ground.data }, { on := 9, ground := Ground.data }], guard := none }) rfl (fun K hK => ?bEn11q0) AllReadyH.nil)
                go_simp
                go_wp2_with (refine HC.out.mono ?_; rintro e Z ⟨rfl, hb⟩; have hbb := bst HBz.out.drew hb; have HZ2 := hidK (bst HW.out hbb); clear HBz; have HBz := hidK hbb; clear hb hbb)
                refine hK.out _ _ ?kEn11o10 (fun hHeld11 => ?_)
                case kEn11o10 => ((try dsimp only); exact HSz.out _ (by first | exact HBz.out | exact HBz.out.drew))
                clear hK K
                try simp only [Act.put, List.setIfInBounds_toArray, List.set_cons_zero, List.set_cons_succ]
                refine wpAnyH_take (i := 11) (oi := { dst := some 52, op := Op.move (Operand.tmp 63), type := 74, pos := "ref.go:223", after := #[{ on := 10, ground := Ground.data }], guard := none }) (v := ?vE11n12) rfl (by kernel_rfl) (by kernel_rfl) (by kernel_rfl) (fun _ _ _ h => h) (Or.inl ⟨by rfl, ?yE11n12⟩) (by assumption) ?rE11n12
                case yE11n12 => (intro w hSw; (try dsimp only at hSw); first | (go_simp; done) | (go_simp; with_reducible rfl))
                try simp only [Act.put, List.setIfInBounds_toArray, List.set_cons_zero, List.set_cons_succ]
                refine wpAnyH_take (i := 12) (oi := { dst := some 64, op := Op.extract (Operand.tmp 52) 0, type := 9, pos := "ref.go:223", after := #[{ on := 11, ground := Ground.data }], guard := none }) (v := ?vE12n13) rfl (by kernel_rfl) (by kernel_rfl) (by kernel_rfl) (fun _ _ _ h => h) (Or.inl ⟨by rfl, ?yE12n13⟩) (by assumption) ?rE12n13
                case yE12n13 => (intro w hSw; (try dsimp only at hSw); first | (go_simp; done) | (go_simp; with_reducible rfl))
                try simp only [Act.put, List.setIfInBounds_toArray, List.set_cons_zero, List.set_cons_succ]
                refine wpAnyH_take (i := 13) (oi := { dst := some 65, op := Op.extract (Operand.tmp 52) 1, type := 4, pos := "ref.go:223", after := #[{ on := 11, ground := Ground.data }, { on := 14, ground := Ground.gcOnly Departure.lateStores }], guard := none }) (v := ?vE13n14) rfl (by kernel_rfl) (by kernel_rfl) (by kernel_rfl) (fun _ _ _ h => h) (Or.inl ⟨by rfl, ?yE13n14⟩) (by assumption) ?rE13n14
                case yE13n14 => (intro w hSw; (try dsimp only at hSw); first | (go_simp; done) | (go_simp; with_reducible rfl))
                try simp only [Act.put, List.setIfInBounds_toArray, List.set_cons_zero, List.set_cons_succ]
                refine wpAnyH_take (i := 14) (oi := { dst := some 17, op := Op.assign (Operand.tmp 64), type := 9, pos := "ref.go:223", after := #[{ on := 12, ground := Ground.data }, { on := 10, ground := Ground.chain }, { on := 0, ground := Ground.phase }, { on := 1, ground := Ground.phase }, { on := 2, ground := Ground.phase }, { on := 3, ground := Ground.phase }, { on := 4, ground := Ground.phase }, { on := 5, ground := Ground.phase }, { on := 6, ground := Ground.phase }, { on := 7, ground := Ground.phase }, { on := 8, ground := Ground.phase }, { on := 9, ground := Ground.phase }, { on := 10, ground := Ground.phase }, { on := 11, ground := Ground.phase }, { on := 12, ground := Ground.phase }, { on := 13, ground := Ground.textOnly Departure.lateStores }], guard := none }) (v := ?vE14n15) rfl (by kernel_rfl) (by kernel_rfl) (by kernel_rfl) (fun _ _ _ h => h) (Or.inl ⟨by rfl, ?yE14n15⟩) (by assumption) ?rE14n15
                case yE14n15 => (intro w hSw; (try dsimp only at hSw); first | (go_simp; done) | (go_simp; with_reducible rfl))
                try simp only [Act.put, List.setIfInBounds_toArray, List.set_cons_zero, List.set_cons_succ]
                refine wpAnyH_take (i := 15) (oi := { dst := some 18, op := Op.assign (Operand.tmp 65), type := 4, pos := "ref.go:223", after := #[{ on := 13, ground := Ground.data }, { on := 14, ground := Ground.chain }, { on := 0, ground := Ground.phase }, { on := 1, ground := Ground.phase }, { on := 2, ground := Ground.phase }, { on := 3, ground := Ground.phase }, { on := 4, ground := Ground.phase }, { on := 5, ground := Ground.phase }, { on := 6, ground := Ground.phase }, { on := 7, ground := Ground.phase }, { on := 8, ground := Ground.phase }, { on := 9, ground := Ground.phase }, { on := 10, ground := Ground.phase }, { on := 11, ground := Ground.phase }, { on := 12, ground := Ground.phase }, { on := 13, ground := Ground.phase }, { on := 14, ground := Ground.phase }], guard := none }) (v := ?vE15n16) rfl (by kernel_rfl) (by kernel_rfl) (by kernel_rfl) (fun _ _ _ h => h) (Or.inl ⟨by rfl, ?yE15n16⟩) (by assumption) ?rE15n16
                case yE15n16 => (intro w hSw; (try dsimp only at hSw); first | (go_simp; done) | (go_simp; with_reducible rfl))
                try simp only [Act.put, List.setIfInBounds_toArray, List.set_cons_zero, List.set_cons_succ]
                refine wpAnyH_done (by kernel_rfl) ?_ _
                go_wp2_with fail
                go_meet
                case rel => exact ⟨rfl, rfl, HZ2.out⟩
              case rest =>
                obtain ⟨rfl, rfl, HX⟩ := hcut
                clear HBz HSz HC
                cases av with
                | some y =>
                  go_wp2_with fail
                  go_ret2
                  refine ⟨?_, bst HB.out (bst HVb.out (bst HGI.out.below HX.out))⟩
                  unfold getOut
                  rw [HRes.out, HD.out, HSt.out]
                  dsimp only
                  rw [HAv2.out]
                  rfl
                | none =>
                  have HD2 : Hid (nearF L nm P = nearF L nm (P.drop (k + 1))) := by
                    show _ = _
                    rw [HD.out, HSt.out]
                    dsimp only
                    rw [HAv2.out]
                  go_wp2_with fail
                  go_roundw
                  case rel => exact ⟨k + 1, by omega, by go_num, HX.out, HD2⟩
                  case measure => simp [intOf]; omega
            · have i1 : ¬ (k : Int) < 1 := by omega
              have f0 : wr.cell? ⟨q, 6, none⟩ = some (.string fs) := cell_at (kpO (bst HGI.out.below HW.out) HAv.out) 6
              have HDe : Hid (P.drop k = []) := List.drop_eq_nil_of_le (by rw [HN.out]; omega)
              go_wp2_with fail
              go_ret2
              refine ⟨?_, bst HB.out (bst HVb.out (bst HGI.out.below HW.out))⟩
              unfold getOut
              rw [HRes.out, HD.out, HDe.out]
              rfl
  · have HRes : Hid (getF L nm s u p = (⟨#[]⟩, 230)) := by show getF _ _ _ _ _ = _; unfold getF; rw [hr]
    clear hr
    go_wp2_with fail
    go_ret2
    refine ⟨?_, bst HB.out (HBy.out.alloc HBy.out.size _)⟩
    unfold getOut
    rw [HRes.out]
    rfl
end Go.Proofs.YtgdkpmfdpfjdjaaGreatDoor
