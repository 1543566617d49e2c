/-
  Options, the document's side: without.
  Options, the document's side: Value.
  Options, the document's side: now, Set, Add, Turn, Unset.
  Options, the document's side: Set.
  Options, the document's side: Add.
  Options, the document's side: Drop.
  Options, the document's side: Turn.
  Options, the document's side: Local.
  Options, the document's side: Unset.
-/
import Derived.Test.YtgdkpmfdpfjdjaaGreatDoorHZ
import Derived.Test.YtgdkpmfdpfjdjaaGreatDoorORp
import Derived.Test.YtgdkpmfdpfjdjaaGreatDoorHY
import Derived.Test.YtgdkpmfdpfjdjaaGreatDoorJI
import Derived.Test.YtgdkpmfdpfjdjaaGreatDoorJE
import Derived.Test.YtgdkpmfdpfjdjaaGreatDoorJJ
import Derived.Deep.DeepCutAuto
namespace Go.Proofs.YtgdkpmfdpfjdjaaGreatDoor
open Go.RowKit
set_option linter.unusedVariables false
set_option maxRecDepth 100000

theorem EntsAt.base {w : World} {B B' : Nat} {v : Value} {l : List Ent} (h : EntsAt w B v l) (hb : B' ≤ B) : EntsAt w B' v l := by
  refine ⟨h.1, ?_⟩
  rcases h.2 with h0 | ⟨g, cap, cur, e, hB, r⟩
  · exact .inl h0
  · exact .inr ⟨g, cap, cur, e, Nat.le_trans hb hB, r⟩
set_option maxHeartbeats 16000000 in
theorem rWithout_any {w : World} {v : Value} {L : List Ent} (hv : SeeE w v L) (hlen : L.length ≤ 1000000) (sc id : Int) (nm : ByteArray) :
    Calls Tryz.prog 53 #[.agg #[v], .int .i64 sc, .int .i64 id, .string nm] w fun e w' => ∃ v', e = .returned (.agg #[v']) ∧ EntsAt w' w.heap.size v' (L.filter (offB sc id nm)) ∧ Below w.heap.size w w' := by
  obtain ⟨ad, cp, rfl⟩ := hv.shape'
  obtain ⟨N, hN⟩ : ∃ N, L.length = N := ⟨_, rfl⟩
  rw [hN] at hv hlen ⊢
  obtain ⟨W1, hW1, a1, b1, s1⟩ := two_blk (w := w) #[.slice ad N cp] 34
  obtain ⟨Q1, hQ1⟩ : ∃ Q, w.heap.size = Q := ⟨_, rfl⟩
  rw [hQ1] at a1
  obtain ⟨W2, hW2, a2, b2, s2⟩ := two_blk (w := W1) #[.slice none 0 0] 34
  obtain ⟨Q2, hQ2⟩ : ∃ Q, W1.heap.size = Q := ⟨_, rfl⟩
  rw [hQ2] at a2
  have HB := hidK (bst b1 b2)
  have HA := hidK (kpO b2 a1)
  have HA2 := hidK a2
  have HQ2 : Hid (w.heap.size < W2.heap.size ∧ w.heap.size ≤ Q2 ∧ Q2 < W2.heap.size) := by show _ ∧ _; omega
  have HS := hidK (fun k (hk : k < L.length) => ((hv.below b1).below b2).cells hk)
  have HN := hidK hN
  clear hv hN a1 b1 s1 a2 b2 s2
  go_enter Tryz.func53, Tryz.ntmps53
  go_wp2_with fail
  clear hW1 hQ1 hW2 hQ2
  go_loopw [9, 10] (fun lv iv wr => ∃ k : Nat, k ≤ N ∧ iv = .int .i64 k ∧ Hid (Below W2.heap.size W2 wr) ∧ Hid (EntsAt wr W2.heap.size lv ((L.take k).filter (offB sc id nm)))) (fun _ iv _ => N - (intOf iv).toNat)
  case atStart => exact ⟨0, Nat.zero_le _, rfl, Below.refl _ _, EntsAt.nil _ _⟩
  case round =>
    obtain ⟨k, hk, rfl, HW, HO⟩ := hrel
    have c0 : wr.cell? ⟨Q1, 0, none⟩ = some (.slice ad N cp) := cell_at (kpO HW.out HA.out) 0
    by_cases hlt : k < N
    · have i1 : (k : Int) < (N : Int) := by omega
      have hkl : k < L.length := by rw [HN.out]; exact hlt
      obtain ⟨g, o, rfl, hc⟩ := HS.out k hkl
      obtain ⟨p0, p1, p2, p3⟩ := hc wr HW.out
      have HTk := hidK (List.take_succ_eq_append_getElem hkl)
      obtain ⟨⟨ec, ei, en, ev⟩, he⟩ : ∃ e, L[k] = e := ⟨_, rfl⟩
      rw [he] at p0 p1 p2 p3 HTk
      dsimp only at p0 p1 p2 p3
      obtain ⟨V, hV, av, bv, sv⟩ := two_blk (w := wr) #[.int .i64 ec, .int .i64 ei, .string en, .string ev] 87
      obtain ⟨q, hq⟩ : ∃ q, wr.heap.size = q := ⟨_, rfl⟩
      rw [hq] at av
      have HV : Hid (Below W2.heap.size W2 V) := bst HW.out bv
      have HVv := hidK bv
      have x0 := cell_at av 0
      have x1 := cell_at av 1
      have x2 := cell_at av 2
      have x3 := cell_at av 3
      clear av bv sv he hc hkl
      go_upto_region 6 with fail
      clear p0 p1 p2 p3 c0
      obtain ⟨cnd, hcnd⟩ : ∃ c, offB sc id nm ⟨ec, ei, en, ev⟩ = c := ⟨_, rfl⟩
      have HC := hidK hcnd
      clear hcnd
      go_cut [39] (fun v X => v = .bool cnd ∧ V = X)
      case first =>
        by_cases q1 : ec = sc
        · by_cases q2 : ei = id
          · by_cases q3 : en = nm
            · have q4 : (en.toList == nm.toList) = true := by rw [str_eqO]; exact decide_eq_true q3
              clear q3
              have HC2 : Hid (false = cnd) := by
                show _ = _
                rw [← HC.out]
                have : offB sc id nm ⟨ec, ei, en, ev⟩ = false := offB_no.2 ⟨q1, q2, by rw [str_eqO] at q4; exact of_decide_eq_true q4⟩
                rw [this]
              subst q1
              subst q2
              go_wp2_with fail
              go_meet
              case rel => exact ⟨by rw [HC2.out], rfl⟩
            · have q4 : (en.toList == nm.toList) = false := by rw [str_eqO]; exact decide_eq_false q3
              have HC2 : Hid (true = cnd) := by
                show _ = _
                rw [← HC.out, offB_iff.2 (fun q => q3 q.2.2)]
              clear q3
              subst q1
              subst q2
              go_wp2_with fail
              go_meet
              case rel => exact ⟨by rw [HC2.out], rfl⟩
          · have HC2 : Hid (true = cnd) := by
              show _ = _
              rw [← HC.out, offB_iff.2 (fun q => q2 q.2.1)]
            have q4 : (ei == id) = false := by simpa using q2
            subst q1
            go_wp2_with fail
            go_meet
            case rel => exact ⟨by rw [HC2.out], rfl⟩
        · have HC2 : Hid (true = cnd) := by
            show _ = _
            rw [← HC.out, offB_iff.2 (fun q => q1 q.1)]
          have q4 : (ec == sc) = false := by simpa using q1
          go_wp2_with fail
          go_meet
          case rel => exact ⟨by rw [HC2.out], rfl⟩
      case rest =>
        obtain ⟨rfl, rfl⟩ := hcut
        have HOv := hidK (HO.out.below HVv.out)
        have hlo : ((L.take k).filter (offB sc id nm)).length ≤ 1000000 := by
          have h1 := List.length_filter_le (offB sc id nm) (L.take k)
          have h2 := List.length_take_le k L
          omega
        cases cnd with
        | true =>
          have HF : Hid ((L.take (k + 1)).filter (offB sc id nm) = (L.take k).filter (offB sc id nm) ++ [⟨ec, ei, en, ev⟩]) := by
            show _ = _
            rw [HTk.out, List.filter_append, List.filter_cons_of_pos HC.out]; rfl
          have y0 : V.cell? ⟨q, 0, none⟩ = some (.int .i64 ec) := x0
          go_wp2_with (at_builtin; refine wpList_append_ent _ rfl (.tmp 40) (.tmp 42) rfl W2.heap.size _ ((L.take k).filter (offB sc id nm)) rfl (HOv.out.below ((Below.refl _ _).alloc (Nat.le_refl _) _)) V.heap.size ⟨ec, ei, en, ev⟩ rfl (heap_alloc_new V _) ?x1 ?x2 ?_; (case x1 => omega); (case x2 => have h1 := HV.out.size; simp; omega); intro v6 w6 ho6 hg6; have HO6 := hidK ho6; have HG6 : Hid (Below W2.heap.size W2 w6) := (HV.out.alloc HV.out.size _).grown hg6 (by have h1 := HV.out.size; simp; omega) (fun j hj => (HOv.out.blk hj).1); clear ho6 hg6)
          go_roundw
          case rel => exact ⟨k + 1, by omega, by go_num, HG6.out, by rw [HF.out]; exact HO6.out⟩
          case measure => simp [intOf]; omega
        | false =>
          have HF : Hid ((L.take (k + 1)).filter (offB sc id nm) = (L.take k).filter (offB sc id nm)) := by
            show _ = _
            rw [HTk.out, List.filter_append, List.filter_cons_of_neg (by rw [HC.out]; decide)]; simp
          go_wp2_with fail
          go_roundw
          case rel => exact ⟨k + 1, by omega, by go_num, HV.out, by rw [HF.out]; exact HOv.out⟩
          case measure => simp [intOf]; omega
    · have i1 : ¬ (k : Int) < (N : Int) := by omega
      have HTa : Hid (L.take k = L) := List.take_of_length_le (by rw [HN.out]; omega)
      have d0 := cell_at (kpO HW.out HA2.out) 0
      have f0 := free_at (kpO HW.out HA2.out) 0
      obtain ⟨la, lc, rfl⟩ := HO.out.slice
      go_wp2_with fail
      refine ret_kind rfl rfl (put_at (kpO HW.out HA2.out) 0 _) Tryz.underlying34 rfl infoTabs rfl ⟨_, rfl, ?_, (bst HB.out HW.out).setCell HQ2.out.2.1 _⟩
      have h := HO.out
      rw [HTa.out] at h ⊢
      refine EntsAt.keep (EntsAt.base h (Nat.le_of_lt HQ2.out.1)) fun g hg => put_other rfl (fun e => ?_) _ _
      have := (h.blk hg).1
      have h3 := HQ2.out.2.2
      omega
end Go.Proofs.YtgdkpmfdpfjdjaaGreatDoor

namespace Go.Proofs.YtgdkpmfdpfjdjaaGreatDoor
open Go.RowKit Go.Maps
set_option linter.unusedVariables false
set_option maxRecDepth 100000

theorem num_yes {lo hi n : Int} {t : ByteArray} (h : Num t.data.toList n) : valB (.num lo hi) t = decide (lo ≤ n ∧ n ≤ hi) := by
  unfold valB
  by_cases q : lo ≤ n ∧ n ≤ hi
  · rw [decide_eq_true q]; exact @decide_eq_true _ (Classical.propDecidable _) ⟨n, h, q⟩
  · rw [decide_eq_false q]
    refine @decide_eq_false _ (Classical.propDecidable _) ?_
    rintro ⟨m, hm, hq⟩
    rw [num_one hm h] at hq
    exact q hq
theorem num_no {lo hi : Int} {t : ByteArray} (h : ∀ n, ¬ Num t.data.toList n) : valB (.num lo hi) t = false := by
  unfold valB
  refine @decide_eq_false _ (Classical.propDecidable _) ?_
  rintro ⟨m, hm, _⟩
  exact h m hm
def rowS (nm : ByteArray) (sc kb lo hi : Int) (ad : Option Addr) (m : Nat) (fs : ByteArray) : Value := .agg #[.string nm, .int .i64 sc, .int .u8 kb, .int .i64 lo, .int .i64 hi, .slice ad m m, .string fs]
set_option maxHeartbeats 8000000 in
theorem rValue_num (nm : ByteArray) (sc lo hi : Int) (ad : Option Addr) (m : Nat) (fs t : ByteArray) (ht : t.size ≤ 140737488355328) (w : World) :
    Calls Tryz.prog 52 #[.agg #[.string nm, .int .i64 sc, .int .u8 110, .int .i64 lo, .int .i64 hi, .slice ad m m, .string fs], .string t] w fun e w' => e = .returned (.bool (valB (.num lo hi) t)) ∧ Below w.heap.size w w' := by
  obtain ⟨W1, hW1, a1, b1, s1⟩ := two_blk (w := w) #[.string nm, .int .i64 sc, .int .u8 110, .int .i64 lo, .int .i64 hi, .slice ad m m, .string fs] 56
  obtain ⟨Q, hQ⟩ : ∃ q, w.heap.size = q := ⟨_, rfl⟩
  rw [hQ] at a1
  have HA := hidK a1
  have HB := hidK b1
  have c2 := cell_at a1 2
  have HN := hidK (refNumber_any t W1 ht)
  clear a1 b1 s1
  go_enter Tryz.func52, Tryz.ntmps52
  go_wp2_with fail
  clear hW1 hQ c2
  refine HN.out.mono ?_
  rintro e Y ⟨(⟨n, rfl, hn⟩ | ⟨rfl, hn⟩), hb⟩
  · have HV := hidK (num_yes (lo := lo) (hi := hi) hn)
    have HY := hidK (bst HB.out hb)
    have ha := kpO hb HA.out
    have c3 := cell_at ha 3
    have c4 := cell_at ha 4
    clear hb ha hn
    by_cases q1 : lo ≤ n
    · by_cases q2 : n ≤ hi
      · go_wp2_with fail
        go_ret
        exact ⟨by rw [HV.out, decide_eq_true ⟨q1, q2⟩]; rfl, HY.out⟩
      · have HV2 : Hid (valB (.num lo hi) t = false) := by show _ = _; rw [HV.out]; exact decide_eq_false (fun h => q2 h.2)
        have k2 : decide (n ≤ hi) = false := decide_eq_false q2
        clear q2
        go_wp2_with fail
        go_ret
        exact ⟨by rw [HV2.out]; rfl, HY.out⟩
    · have HV2 : Hid (valB (.num lo hi) t = false) := by show _ = _; rw [HV.out]; exact decide_eq_false (fun h => q1 h.1)
      go_wp2_with fail
      go_ret
      exact ⟨by rw [HV2.out]; rfl, HY.out⟩
  · have HV := hidK (num_no (lo := lo) (hi := hi) hn)
    have HY := hidK (bst HB.out hb)
    clear hb hn
    go_wp2_with fail
    go_ret
    exact ⟨by rw [HV.out]; rfl, HY.out⟩
set_option maxHeartbeats 8000000 in
theorem rValue_flag (nm : ByteArray) (sc lo hi : Int) (ad : Option Addr) (m : Nat) (fs t : ByteArray) (w : World) :
    Calls Tryz.prog 52 #[.agg #[.string nm, .int .i64 sc, .int .u8 102, .int .i64 lo, .int .i64 hi, .slice ad m m, .string fs], .string t] w fun e w' => e = .returned (.bool (valB .flag t)) ∧ Below w.heap.size w w' := by
  obtain ⟨W1, hW1, a1, b1, s1⟩ := two_blk (w := w) #[.string nm, .int .i64 sc, .int .u8 102, .int .i64 lo, .int .i64 hi, .slice ad m m, .string fs] 56
  obtain ⟨Q, hQ⟩ : ∃ q, w.heap.size = q := ⟨_, rfl⟩
  rw [hQ] at a1
  have HB := hidK b1
  have c2 := cell_at a1 2
  clear a1 b1 s1
  have e1 : (t.toList == [111, 110]) = decide (t = ⟨#[111, 110]⟩) := by rw [← str_eqO, Lib.toList_data ⟨#[111, 110]⟩]
  have e2 : (t.toList == [111, 102, 102]) = decide (t = ⟨#[111, 102, 102]⟩) := by rw [← str_eqO, Lib.toList_data ⟨#[111, 102, 102]⟩]
  by_cases q1 : t = ⟨#[111, 110]⟩
  · have HV : Hid (valB .flag t = true) := decide_eq_true (.inl q1)
    rw [decide_eq_true q1] at e1
    clear q1 e2
    go_enter Tryz.func52, Tryz.ntmps52
    go_wp2_with fail
    go_ret
    exact ⟨by rw [HV.out]; rfl, by first | exact HB.out | (rw [← hQ]; exact HB.out)⟩
  · rw [decide_eq_false q1] at e1
    by_cases q2 : t = ⟨#[111, 102, 102]⟩
    · have HV : Hid (valB .flag t = true) := decide_eq_true (.inr q2)
      rw [decide_eq_true q2] at e2
      clear q1 q2
      go_enter Tryz.func52, Tryz.ntmps52
      go_wp2_with fail
      go_ret
      exact ⟨by rw [HV.out]; rfl, by first | exact HB.out | (rw [← hQ]; exact HB.out)⟩
    · have HV : Hid (valB .flag t = false) := decide_eq_false (fun h => h.elim q1 q2)
      rw [decide_eq_false q2] at e2
      clear q1 q2
      go_enter Tryz.func52, Tryz.ntmps52
      go_wp2_with fail
      go_ret
      exact ⟨by rw [HV.out]; rfl, by first | exact HB.out | (rw [← hQ]; exact HB.out)⟩
set_option maxHeartbeats 8000000 in
theorem rValue_key (nm : ByteArray) (sc lo hi : Int) (ad : Option Addr) (m : Nat) (fs t : ByteArray) (ht : t.size ≤ 140737488355328) (w : World) :
    Calls Tryz.prog 52 #[.agg #[.string nm, .int .i64 sc, .int .u8 107, .int .i64 lo, .int .i64 hi, .slice ad m m, .string fs], .string t] w fun e w' => e = .returned (.bool (valB .key t)) ∧ Below w.heap.size w w' := by
  obtain ⟨W1, hW1, a1, b1, s1⟩ := two_blk (w := w) #[.string nm, .int .i64 sc, .int .u8 107, .int .i64 lo, .int .i64 hi, .slice ad m m, .string fs] 56
  obtain ⟨Q, hQ⟩ : ∃ q, w.heap.size = q := ⟨_, rfl⟩
  rw [hQ] at a1
  have HB := hidK b1
  have c2 := cell_at a1 2
  have HR := hidK (rread_any t.data.toList (by rw [size_data]; exact ht) W1)
  rw [show str t.data.toList = t from rfl] at HR
  have HV := hidK (readF_val t)
  unfold rdV at HR
  clear a1 b1 s1 ht
  cases hk : readF t.data.toList with
  | some k =>
    obtain ⟨kc, km⟩ := k
    rw [hk] at HR HV
    dsimp only at HR
    clear hk
    go_enter Tryz.func52, Tryz.ntmps52
    go_wp2_with fail
    refine HR.out.mono ?_
    rintro e Z ⟨rfl, hb⟩
    have HZ := hidK (bst HB.out hb)
    clear hb hW1 hQ c2
    go_wp2_with fail
    go_ret
    exact ⟨by rw [HV.out]; rfl, HZ.out.alloc HZ.out.size _⟩
  | none =>
    rw [hk] at HR HV
    dsimp only at HR
    clear hk
    go_enter Tryz.func52, Tryz.ntmps52
    go_wp2_with fail
    refine HR.out.mono ?_
    rintro e Z ⟨rfl, hb⟩
    have HZ := hidK (bst HB.out hb)
    clear hb hW1 hQ c2
    go_wp2_with fail
    go_ret
    exact ⟨by rw [HV.out]; rfl, HZ.out.alloc HZ.out.size _⟩
set_option maxHeartbeats 8000000 in
theorem rValue_txt (nm : ByteArray) (sc lo hi : Int) (ad : Option Addr) (m : Nat) (fs t : ByteArray) (w : World) :
    Calls Tryz.prog 52 #[.agg #[.string nm, .int .i64 sc, .int .u8 116, .int .i64 lo, .int .i64 hi, .slice ad m m, .string fs], .string t] w fun e w' => e = .returned (.bool (valB .txt t)) ∧ Below w.heap.size w w' := by
  obtain ⟨W1, hW1, a1, b1, s1⟩ := two_blk (w := w) #[.string nm, .int .i64 sc, .int .u8 116, .int .i64 lo, .int .i64 hi, .slice ad m m, .string fs] 56
  obtain ⟨Q, hQ⟩ : ∃ q, w.heap.size = q := ⟨_, rfl⟩
  rw [hQ] at a1
  have HB := hidK b1
  have c2 := cell_at a1 2
  clear a1 b1 s1
  obtain ⟨n, hn⟩ : ∃ n, t.size = n := ⟨_, rfl⟩
  by_cases q : n ≤ 1024
  · have HV : Hid (valB .txt t = true) := decide_eq_true (by rw [hn]; exact q)
    have i1 : (n : Int) ≤ 1024 := by omega
    go_enter Tryz.func52, Tryz.ntmps52
    go_wp2_with fail
    go_ret
    exact ⟨by rw [HV.out]; rfl, by first | exact HB.out | (rw [← hQ]; exact HB.out)⟩
  · have HV : Hid (valB .txt t = false) := decide_eq_false (by rw [hn]; exact q)
    have i1 : ¬ (n : Int) ≤ 1024 := by omega
    go_enter Tryz.func52, Tryz.ntmps52
    go_wp2_with fail
    go_ret
    exact ⟨by rw [HV.out]; rfl, by first | exact HB.out | (rw [← hQ]; exact HB.out)⟩
theorem any_drop {ws : List ByteArray} {k : Nat} (hk : k < ws.length) (t : ByteArray) : ((ws.drop k).any fun z => decide (z = t)) = (decide (ws[k] = t) || (ws.drop (k + 1)).any fun z => decide (z = t)) := by
  rw [List.drop_eq_getElem_cons hk]; rfl
set_option maxHeartbeats 8000000 in
theorem rValue_cho (nm : ByteArray) (sc lo hi : Int) (g : Nat) (ws : List ByteArray) (hlen : ws.length ≤ 100) (fs t : ByteArray) (w : World) (hw : w.heap[g]? = some (.cells (ws.map Value.string).toArray 9 (0, 0))) :
    Calls Tryz.prog 52 #[.agg #[.string nm, .int .i64 sc, .int .u8 99, .int .i64 lo, .int .i64 hi, .slice (some ⟨g, 0, none⟩) ws.length ws.length, .string fs], .string t] w fun e w' => e = .returned (.bool (valB (.cho ws) t)) ∧ Below w.heap.size w w' := by
  obtain ⟨N, hN⟩ : ∃ n, ws.length = n := ⟨_, rfl⟩
  have HN := hidK hN
  rw [hN] at hlen ⊢
  obtain ⟨W1, hW1, a1, b1, s1⟩ := two_blk (w := w) #[.string nm, .int .i64 sc, .int .u8 99, .int .i64 lo, .int .i64 hi, .slice (some ⟨g, 0, none⟩) N N, .string fs] 56
  obtain ⟨Q, hQ⟩ : ∃ q, w.heap.size = q := ⟨_, rfl⟩
  rw [hQ] at a1
  have HB := hidK b1
  have c2 := cell_at a1 2
  have c5 := cell_at a1 5
  have HWd : Hid (∀ k (hk : k < ws.length), W1.cell? ⟨g, 0 + k, none⟩ = some (.string ws[k])) := fun k hk => by
    rw [flat_words (kpO b1 hw) k hk]
    simp [hk]
  clear a1 b1 s1 hN hw
  go_enter Tryz.func52, Tryz.ntmps52
  go_wp2_with fail
  clear hW1 hQ
  go_loop [9] (fun iv => ∃ k : Nat, k ≤ N ∧ iv = .int .i64 k ∧ Hid (valB (.cho ws) t = (ws.drop k).any fun z => decide (z = t))) (fun iv => N - (intOf iv).toNat)
  case atStart => exact ⟨0, Nat.zero_le _, rfl, rfl⟩
  case round =>
    obtain ⟨k, hk, rfl, HD⟩ := hrel
    by_cases hlt : k < N
    · have i1 : (k : Int) < (N : Int) := by omega
      have hkl : k < ws.length := by rw [HN.out]; exact hlt
      have p0 := HWd.out k hkl
      have HS := hidK (any_drop hkl t)
      obtain ⟨x, hx⟩ : ∃ x, ws[k] = x := ⟨_, rfl⟩
      rw [hx] at p0 HS
      clear hx hkl
      rw [Nat.zero_add] at p0
      by_cases q : x = t
      · have e1 : (x.toList == t.toList) = true := by rw [str_eqO]; exact decide_eq_true q
        have HV : Hid (valB (.cho ws) t = true) := by show _ = _; rw [HD.out, HS.out, decide_eq_true q]; rfl
        clear q
        go_wp2_with fail
        go_ret
        exact ⟨by rw [HV.out]; rfl, by first | exact HB.out | (rw [← hQ]; exact HB.out)⟩
      · have e1 : (x.toList == t.toList) = false := by rw [str_eqO]; exact decide_eq_false q
        have HD2 : Hid (valB (.cho ws) t = (ws.drop (k + 1)).any fun z => decide (z = t)) := by show _ = _; rw [HD.out, HS.out, decide_eq_false q]; rfl
        clear q
        go_wp2_with fail
        go_round
        case rel => exact ⟨k + 1, by omega, by go_num, HD2⟩
        case measure => simp [intOf]; omega
    · have i1 : ¬ (k : Int) < (N : Int) := by omega
      have HV : Hid (valB (.cho ws) t = false) := by
        show _ = _
        rw [HD.out, List.drop_eq_nil_of_le (by rw [HN.out]; omega)]
        rfl
      go_wp2_with fail
      go_ret
      exact ⟨by rw [HV.out]; rfl, by first | exact HB.out | (rw [← hQ]; exact HB.out)⟩
/-- Value, of a row of the table. -/
theorem rValue_any {r : Orow} (hr : r ∈ rowsO) (ad : Option Addr) (m : Nat) (t : ByteArray) (ht : t.size ≤ 140737488355328) (w : World) (hw : WordsAt w r.kd ad m) :
    Calls Tryz.prog 52 #[rowA r ad m, .string t] w fun e w' => e = .returned (.bool (valB r.kd t)) ∧ Below w.heap.size w w' := by
  unfold rowA
  have hc := cho_short hr
  cases hk : r.kd with
  | num lo hi => exact rValue_num _ _ _ _ _ _ _ t ht w
  | txt => exact rValue_txt _ _ _ _ _ _ _ t w
  | key => exact rValue_key _ _ _ _ _ _ _ t ht w
  | flag => exact rValue_flag _ _ _ _ _ _ _ t w
  | cho ws =>
    obtain ⟨g, rfl, rfl, h3⟩ := hw ws hk
    exact rValue_cho _ _ _ _ g ws (hc ws hk) _ t w h3
end Go.Proofs.YtgdkpmfdpfjdjaaGreatDoor

namespace Go.Proofs.YtgdkpmfdpfjdjaaGreatDoor
open Go.RowKit Go.Maps
set_option linter.unusedVariables false
set_option maxRecDepth 100000

/-- What a call of the document's tells and leaves. -/
structure DocP (w : World) (R : List Ent × Int) (v' : Value) (e : Ending) (w' : World) : Prop where
  told : e = .returned (.tuple #[.agg #[v'], .int .i64 R.2])
  see : SeeE w' v' R.1
  below : Below w.heap.size w w'
theorem DocP.same {w w' : World} {v : Value} {L : List Ent} {c : Int} {e : Ending} (h : SeeE w v L) (he : e = .returned (.tuple #[.agg #[v], .int .i64 c])) (hb : Below w.heap.size w w') : DocP w (L, c) v e w' := ⟨he, h.below hb, hb⟩
theorem ret_docO {fn : Func} {p u : Tmp} (h : fn.results = #[.cell p 34, .tmp u]) {a : Act} {w : World} {R : Ending → World → Prop} {g : Nat} {v : Value}
    (hp : a.tmps.getD p undef = .pointer (some ⟨g, 0, none⟩)) (hg : w.heap[g]? = some (.cells #[v] 34 (0, 0))) (hdf : a.defers = []) (hR : R (.returned (.tuple #[.agg #[v], a.tmps.getD u undef])) w) : bodyPost Tryz.prog fn R .ret a w :=
  ret_cellO h hp hg Tryz.underlying34 rfl infoTabs hdf hR
theorem one_at {W : World} {g : Nat} {T : TypeId} {c0 : Value} (h : W.heap[g]? = some (.cells #[c0] T (0, 0))) (v0 : Value) : (W.setCell ⟨g, 0, none⟩ v0).heap[g]? = some (.cells #[v0] T (0, 0)) := put_at h 0 v0
/-- A list of one's own, behind a store into a struct of options. -/
theorem EntsAt.far {w : World} {B : Nat} {v : Value} {l : List Ent} (h : EntsAt w B v l) {q : Nat} {cs : Array Value} (hq : w.heap[q]? = some (.cells cs 34 (0, 0))) (u : Value) : EntsAt (w.setCell ⟨q, 0, none⟩ u) B v l := h.keep fun g hg => put_other rfl (fun e => by
  obtain ⟨_, cur, hk⟩ := h.blk hg
  rw [e, hq] at hk
  cases hk) _ _
theorem kb_txt {kd : Kd} : (kbOf kd == 116) = isTxt kd := by cases kd <;> rfl
theorem kb_flag {kd : Kd} : (kbOf kd == 102) = isFlag kd := by cases kd <;> rfl
set_option maxHeartbeats 8000000 in
theorem rNow_any {w : World} {v : Value} {L : List Ent} (hv : SeeE w v L) (hlen : L.length ≤ 1000000) (sc id : Int) (r : Orow) (ad : Option Addr) (m : Nat) :
    Calls Tryz.prog 55 #[.agg #[v], .int .i64 sc, .int .i64 id, rowA r ad m] w fun e w' => e = .returned (.string (nowF L sc id r)) ∧ Below w.heap.size w w' := by
  obtain ⟨ad2, cp, rfl⟩ := hv.shape'
  unfold rowA nowF
  obtain ⟨nm, hnm⟩ : ∃ x, r.name = x := ⟨_, rfl⟩
  obtain ⟨rs, hrs⟩ : ∃ x, r.scope = x := ⟨_, rfl⟩
  obtain ⟨kb, hkb⟩ : ∃ x, kbOf r.kd = x := ⟨_, rfl⟩
  obtain ⟨lo, hlo⟩ : ∃ x, loOf r.kd = x := ⟨_, rfl⟩
  obtain ⟨hi, hhi⟩ : ∃ x, hiOf r.kd = x := ⟨_, rfl⟩
  obtain ⟨fs, hfs⟩ : ∃ x, r.first = x := ⟨_, rfl⟩
  rw [hnm, hrs, hkb, hlo, hhi, hfs]
  obtain ⟨W1, hW1, a1, b1, s1⟩ := two_blk (w := w) #[.slice ad2 L.length cp] 34
  obtain ⟨W2, hW2, a2, b2, s2⟩ := two_blk (w := W1) #[.string nm, .int .i64 rs, .int .u8 kb, .int .i64 lo, .int .i64 hi, .slice ad m m, .string fs] 56
  obtain ⟨Q1, hQ1⟩ : ∃ q, w.heap.size = q := ⟨_, rfl⟩
  obtain ⟨Q2, hQ2⟩ : ∃ q, W1.heap.size = q := ⟨_, rfl⟩
  have HB : Hid (Below w.heap.size w W2) := bst b1 b2
  have HC := hidK (rAt_any (hv.below HB.out) hlen sc id nm)
  have HB' := hidK HB.out
  rw [hQ1] at a1
  rw [hQ2] at a2
  have HA2 := hidK a2
  have c0 := cell_at (kpO b2 a1) 0
  have x0 := cell_at a2 0
  obtain ⟨av, hav⟩ : ∃ x, atF L sc id nm = x := ⟨_, rfl⟩
  obtain ⟨N, hN⟩ : ∃ n, L.length = n := ⟨_, rfl⟩
  rw [hav, hN] at HC
  rw [hN] at hW1 c0
  rw [hav, hN]
  clear hnm hrs hkb hlo hhi hfs b1 b2 s1 s2 a1 a2 hv hlen hav hN
  go_enter Tryz.func55, Tryz.ntmps55
  go_wp2_with fail
  refine HC.out.mono ?_
  rintro e Y ⟨rfl, hb⟩
  have HY : Hid (Below w.heap.size w Y) := bst HB'.out hb
  have f0 : Y.cell? ⟨Q2, 6, none⟩ = some (.string fs) := cell_at (kpO hb HA2.out) 6
  have HQ := hidK hQ1
  clear hb hW1 hW2 hQ1 hQ2 c0 x0 HC HB HB'
  cases av with
  | some y =>
    go_wp2_with fail
    go_ret
    exact ⟨rfl, HY.out⟩
  | none =>
    go_wp2_with fail
    go_ret
    exact ⟨rfl, HY.out⟩
end Go.Proofs.YtgdkpmfdpfjdjaaGreatDoor

namespace Go.Proofs.YtgdkpmfdpfjdjaaGreatDoor
open Go.RowKit Go.Maps
set_option linter.unusedVariables false
set_option maxRecDepth 100000

set_option maxHeartbeats 16000000 in
theorem rSet_any {w : World} {v : Value} {L : List Ent} (hv : SeeE w v L) (hlen : L.length ≤ 1000000) (sc id : Int) (nm : ByteArray) (vl : ByteArray) (hvl : vl.size ≤ 140737488355328) :
    Calls Tryz.prog 27 #[.agg #[v], .int .i64 sc, .int .i64 id, .string nm, .string vl] w fun e w' => ∃ v', DocP w (setF L sc id nm vl) v' e w' := by
  obtain ⟨ad, cp, rfl⟩ := hv.shape'
  obtain ⟨N, hN⟩ : ∃ n, L.length = n := ⟨_, rfl⟩
  obtain ⟨W1, hW1, a1, b1, s1⟩ := two_blk (w := w) #[.slice ad N cp] 34
  obtain ⟨W2, hW2, a2, b2, s2⟩ := two_blk (w := W1) #[.slice none 0 0] 34
  obtain ⟨Q1, hQ1⟩ : ∃ q, w.heap.size = q := ⟨_, rfl⟩
  obtain ⟨Q2, hQ2⟩ : ∃ q, W1.heap.size = q := ⟨_, rfl⟩
  have HV := hidK hv
  rw [hN] at hv ⊢
  have HB : Hid (Below w.heap.size w W2) := bst b1 b2
  have HQ2 : Hid (w.heap.size ≤ Q2 ∧ Q2 < W2.heap.size) := by show _ ∧ _; omega
  have HQ12 : Hid (Q1 < Q2) := by show _ < _; omega
  rw [hQ1] at a1
  rw [hQ2] at a2
  have HA1 := hidK (kpO b2 a1)
  have HA2 := hidK a2
  have HP := hidK (rPlace_any sc id nm W2)
  have HN := hidK hN
  have HLen := hidK hlen
  clear a1 a2 b1 b2 s1 s2 hv hN hlen
  go_enter Tryz.func27, Tryz.ntmps27
  go_wp2_with fail
  clear hW1 hW2 hQ1 hQ2
  refine HP.out.mono ?_
  rintro e Y hp
  have HY : Hid (Below w.heap.size w Y) := bst HB.out hp.below
  have HYs : Hid (W2.heap.size ≤ Y.heap.size) := hp.below.size
  have hb1 := kpO hp.below HA1.out
  have hb2 := kpO hp.below HA2.out
  have ht := hp.told
  clear hp HP HB HA1 HA2
  rcases ht with ⟨r, ad2, m2, hr, hw, rfl⟩ | ⟨hr, rfl⟩
  · obtain ⟨pc, hpc⟩ : ∃ x, placeF sc id nm = x := ⟨_, rfl⟩
    rw [hpc]
    unfold rowA
    obtain ⟨nm', hnm⟩ : ∃ x, r.name = x := ⟨_, rfl⟩
    obtain ⟨rs, hrs⟩ : ∃ x, r.scope = x := ⟨_, rfl⟩
    obtain ⟨kb, hkb⟩ : ∃ x, kbOf r.kd = x := ⟨_, rfl⟩
    obtain ⟨lo, hlo⟩ : ∃ x, loOf r.kd = x := ⟨_, rfl⟩
    obtain ⟨hi, hhi⟩ : ∃ x, hiOf r.kd = x := ⟨_, rfl⟩
    obtain ⟨fs, hfs⟩ : ∃ x, r.first = x := ⟨_, rfl⟩
    have HRw : Hid (rowA r ad2 m2 = .agg #[.string nm', .int .i64 rs, .int .u8 kb, .int .i64 lo, .int .i64 hi, .slice ad2 m2 m2, .string fs]) := by show _ = _; unfold rowA; rw [hnm, hrs, hkb, hlo, hhi, hfs]
    have HKb := hidK hkb
    rw [hnm, hrs, hkb, hlo, hhi, hfs]
    obtain ⟨V, hV, av, bv, sv⟩ := two_blk (w := Y) #[.string nm', .int .i64 rs, .int .u8 kb, .int .i64 lo, .int .i64 hi, .slice ad2 m2 m2, .string fs] 56
    obtain ⟨q, hq0⟩ : ∃ q, Y.heap.size = q := ⟨_, rfl⟩
    rw [hq0] at av
    have HVb : Hid (Below w.heap.size w V) := bst HY.out bv
    have HAv := hidK av
    have HV1 := hidK (kpO bv hb1)
    have HV2 := hidK (kpO bv hb2)
    have HWd : Hid (WordsAt V r.kd ad2 m2) := hw.below bv
    have HVs : Hid (Q2 < V.heap.size) := by have h1 := HQ2.out.2; have h2 := HYs.out; have h3 := bv.size; show _ < _; omega
    have x0 := cell_at av 0
    have x1 := cell_at av 1
    have x2 := cell_at av 2
    have x3 := cell_at av 3
    have x4 := cell_at av 4
    have x5 := cell_at av 5
    have x6 := cell_at av 6
    have o0 := cell_at HV1.out 0
    have r0 := cell_at HV2.out 0
    have s0 := free_at HV2.out 0
    have HR := hidK hr
    have HPc := hidK hpc
    clear hpc hnm hrs hkb hlo hhi hfs av bv sv hb1 hb2 hw hr HY HYs
    by_cases hpc0 : pc = 0
    · subst hpc0
      have HSp := hidK (setF_ok HR.out HPc.out L vl)
      have HVa : Hid (∀ X, Below V.heap.size V X → Calls Tryz.prog 52 #[.agg #[.string nm', .int .i64 rs, .int .u8 kb, .int .i64 lo, .int .i64 hi, .slice ad2 m2 m2, .string fs], .string vl] X fun e w' => e = .returned (.bool (valB r.kd vl)) ∧ Below X.heap.size X w') := fun X hX => by
        have := rValue_any (rowO_mem HR.out).1 ad2 m2 vl hvl X (HWd.out.below hX)
        rw [HRw.out] at this
        exact this
      have HWo : Hid (∀ X, Below w.heap.size w X → Calls Tryz.prog 53 #[.agg #[.slice ad N cp], .int .i64 sc, .int .i64 id, .string nm] X fun e w' => ∃ v', e = .returned (.agg #[v']) ∧ EntsAt w' X.heap.size v' (L.filter (offB sc id nm)) ∧ Below X.heap.size X w') := fun X hX => by
        have := rWithout_any (HV.out.below hX) HLen.out sc id nm
        rw [HN.out] at this
        exact this
      have hkt := kb_txt (kd := r.kd)
      rw [HKb.out] at hkt
      obtain ⟨sz, hsz⟩ : ∃ n, vl.size = n := ⟨_, rfl⟩
      by_cases hlong : isTxt r.kd = true ∧ 1024 < sz
      · have HRes : Hid (setF L sc id nm vl = (L, 2)) := by
          show _ = _
          rw [HSp.out]
          have hc : checkF r.kd vl = 2 := by
            cases hk : r.kd with
            | txt => unfold checkF; rw [if_pos (by rw [hsz]; exact hlong.2)]
            | num lo hi => rw [hk] at hlong; cases hlong.1
            | key => rw [hk] at hlong; cases hlong.1
            | flag => rw [hk] at hlong; cases hlong.1
            | cho ws => rw [hk] at hlong; cases hlong.1
          unfold putF
          rw [hc, if_pos (by decide)]
        rw [hlong.1] at hkt
        have i1 : (1024 : Int) < (sz : Int) := by have := hlong.2; omega
        clear hlong
        go_wp2_with fail
        refine ret_docO rfl rfl (one_at HV2.out _) rfl ⟨.slice ad N cp, ?_⟩
        rw [HRes.out]
        exact DocP.same (HN.out ▸ HV.out) rfl (HVb.out.setCell HQ2.out.1 _)
      · obtain ⟨vb, hvb⟩ : ∃ b, valB r.kd vl = b := ⟨_, rfl⟩
        have HCk : Hid (checkF r.kd vl = if vb then 0 else 125) := by
          show _ = _
          cases ht : isTxt r.kd with
          | false => rw [checkF_val ht, hvb]
          | true =>
            have hs : ¬ 1024 < sz := fun q => hlong ⟨ht, q⟩
            cases hk : r.kd with
            | txt =>
              rw [hk] at hvb
              have : vb = true := by rw [← hvb]; exact decide_eq_true (by omega)
              rw [this]
              unfold checkF
              rw [if_neg (by omega)]
              rfl
            | num lo hi => rw [hk] at ht; cases ht
            | key => rw [hk] at ht; cases ht
            | flag => rw [hk] at ht; cases ht
            | cho ws => rw [hk] at ht; cases ht
        have hguard : (kb == 116) = false ∨ ((kb == 116) = true ∧ ¬ (1024 : Int) < (sz : Int)) := by
          rw [hkt]
          cases ht : isTxt r.kd with
          | false => exact .inl rfl
          | true => exact .inr ⟨rfl, fun q => hlong ⟨ht, by omega⟩⟩
        rw [hvb] at HVa
        clear hlong hkt hvb
        have HZx := hidK hsz
        rcases hguard with hg1 | ⟨hg1, i1⟩
        · go_wp2_with fail
          refine (HVa.out _ (Below.refl _ _)).mono ?_
          rintro e Z ⟨rfl, hbz⟩
          have HZb := hidK (bst HVb.out hbz)
          have HZ1 := hidK (kpO hbz HV1.out)
          have HZ2 := hidK (kpO hbz HV2.out)
          have HZs : Hid (Q2 < Z.heap.size) := Nat.lt_of_lt_of_le HVs.out hbz.size
          clear x0 x1 x2 x3 x4 x5 x6 o0 r0 s0 hbz
          have o0 := cell_at HZ1.out 0
          have r0 := cell_at HZ2.out 0
          have s0 := free_at HZ2.out 0
          cases vb with
          | false =>
            have HRes : Hid (setF L sc id nm vl = (L, 125)) := by show _ = _; rw [HSp.out]; unfold putF; rw [HCk.out]; rfl
            go_wp2_with fail
            refine ret_docO rfl rfl (one_at HZ2.out _) rfl ⟨.slice ad N cp, ?_⟩
            rw [HRes.out]
            exact DocP.same (HN.out ▸ HV.out) rfl (HZb.out.setCell HQ2.out.1 _)
          | true =>
            go_wp2_with fail
            refine (HWo.out _ HZb.out).mono ?_
            rintro e Y3 ⟨xv, rfl, hown, hb3⟩
            obtain ⟨xa, xc, rfl⟩ := hown.slice
            obtain ⟨xn, hxn⟩ : ∃ n, (L.filter (offB sc id nm)).length = n := ⟨_, rfl⟩
            rw [hxn] at hown ⊢
            obtain ⟨Z1, hZ1, az, bz, sz1⟩ := two_blk (w := Y3) #[.slice xa xn xc] 34
            obtain ⟨Q4, hQ4⟩ : ∃ Q, Y3.heap.size = Q := ⟨_, rfl⟩
            rw [hQ4] at az
            have hbb := bst hb3 bz
            have HBz := hidK (bst HZb.out hbb)
            have HA1z := hidK (kpO hbb HZ1.out)
            have HA2z := hidK (kpO hbb HZ2.out)
            have HA4z := hidK az
            have HOw := hidK (hown.below bz)
            have HXn := hidK hxn
            have HQ4 : Hid (Z.heap.size ≤ Q4 ∧ Q4 < Z1.heap.size) := ⟨by have := hb3.size; omega, lt_block az⟩
            have HSz : Hid (Z.heap.size ≤ Z1.heap.size) := hbb.size
            clear o0 r0 s0 hb3 bz sz1 hbb az hown hxn
            have o0 := cell_at HA1z.out 0
            have r0 := cell_at HA2z.out 0
            have s0 := free_at HA2z.out 0
            have c40 := cell_at HA4z.out 0
            have f40 := free_at HA4z.out 0
            by_cases hfull : 500 ≤ xn
            · have i2 : (500 : Int) ≤ (xn : Int) := by omega
              have HRes : Hid (setF L sc id nm vl = (L, 3)) := by show _ = _; rw [HSp.out]; unfold putF; rw [HCk.out, HXn.out]; simp [hfull]
              go_wp2_with fail
              refine ret_docO rfl rfl (one_at HA2z.out _) rfl ⟨.slice ad N cp, ?_⟩
              rw [HRes.out]
              exact DocP.same (HN.out ▸ HV.out) rfl (HBz.out.setCell HQ2.out.1 _)
            · have i2 : ¬ (500 : Int) ≤ (xn : Int) := by omega
              have HRes : Hid (setF L sc id nm vl = (L.filter (offB sc id nm) ++ [⟨sc, id, nm, vl⟩], 0)) := by show _ = _; rw [HSp.out]; unfold putF; rw [HCk.out, HXn.out]; simp [hfull]
              have n24 : ¬ Q2 = Q4 := by have h1 := HQ4.out; have h2 := HZs.out; omega
              have n42 : ¬ Q4 = Q2 := fun e => n24 e.symm
              have HLn : Hid ((L.filter (offB sc id nm)).length ≤ 1000) := by show _ ≤ _; rw [HXn.out]; omega
              go_wp2_with (at_builtin; refine wpList_append_ent _ rfl (.tmp 54) (.tmp 60) rfl Z.heap.size _ (L.filter (offB sc id nm)) (by first | rfl | (rw [HXn.out]; rfl)) (by first | exact (HOw.out.below ((Below.refl _ _).alloc (Nat.le_refl _) _)) | (rw [← HXn.out]; exact HOw.out.below ((Below.refl _ _).alloc (Nat.le_refl _) _))) Z1.heap.size ⟨sc, id, nm, vl⟩ rfl (heap_alloc_new Z1 _) ?x1 ?x2 ?_; (case x1 => have h1 := HLn.out; omega); (case x2 => have h1 := HSz.out; simp; omega); intro v6 w6 ho6 hg6; have HO6 := hidK ho6; have HX4 := hidK ((hg6.block Q4 (by have h := HQ4.out; simp; omega) (fun e => by obtain ⟨_, cur, hk⟩ := (HOw.out.below ((Below.refl _ _).alloc (Nat.le_refl _) (.cells (encE ⟨sc, id, nm, vl⟩).toArray 87))).blk e.symm; rw [alloc_at HA4z.out] at hk; cases hk)).trans (alloc_at HA4z.out _)); have HX2 := hidK ((hg6.block Q2 (by have h := HZs.out; have h2 := HSz.out; simp; omega) (fun e => by obtain ⟨_, cur, hk⟩ := (HOw.out.below ((Below.refl _ _).alloc (Nat.le_refl _) (.cells (encE ⟨sc, id, nm, vl⟩).toArray 87))).blk e.symm; rw [alloc_at HA2z.out] at hk; cases hk)).trans (alloc_at HA2z.out _)); have HX6 : Hid (Below w.heap.size w w6) := ((HBz.out.alloc HBz.out.size _).grown hg6 (by have h1 := HBz.out.size; simp; omega) (fun j hj => by have h := (HOw.out.blk hj).1; have h2 := HZb.out.size; omega)); clear hg6 ho6; obtain ⟨a6, c6, rfl⟩ := HO6.out.slice; have d40 := cell_at HX4.out 0; have g40 := free_at HX4.out 0; have d20 := cell_at HX2.out 0; have g20 := free_at HX2.out 0)
              refine ret_docO rfl rfl (one_at (put_other HX2.out n24 _ _) _) rfl ⟨.slice a6 ((L.filter (offB sc id nm)).length + 1) c6, ?_⟩
              rw [HRes.out]
              refine ⟨rfl, ?_, (HX6.out.setCell (by have h1 := HQ4.out.1; have h2 := HZb.out.size; show _ ≤ Q4; omega) _).setCell HQ2.out.1 _⟩
              have hx := ((HO6.out.far HX4.out (.slice a6 ((L.filter (offB sc id nm)).length + 1) c6)).far (put_other HX2.out n24 _ _) (.slice a6 ((L.filter (offB sc id nm)).length + 1) c6)).see
              rw [List.length_append] at hx
              exact hx
        · go_wp2_with fail
          refine (HVa.out _ (Below.refl _ _)).mono ?_
          rintro e Z ⟨rfl, hbz⟩
          have HZb := hidK (bst HVb.out hbz)
          have HZ1 := hidK (kpO hbz HV1.out)
          have HZ2 := hidK (kpO hbz HV2.out)
          have HZs : Hid (Q2 < Z.heap.size) := Nat.lt_of_lt_of_le HVs.out hbz.size
          clear x0 x1 x2 x3 x4 x5 x6 o0 r0 s0 hbz
          have o0 := cell_at HZ1.out 0
          have r0 := cell_at HZ2.out 0
          have s0 := free_at HZ2.out 0
          cases vb with
          | false =>
            have HRes : Hid (setF L sc id nm vl = (L, 125)) := by show _ = _; rw [HSp.out]; unfold putF; rw [HCk.out]; rfl
            go_wp2_with fail
            refine ret_docO rfl rfl (one_at HZ2.out _) rfl ⟨.slice ad N cp, ?_⟩
            rw [HRes.out]
            exact DocP.same (HN.out ▸ HV.out) rfl (HZb.out.setCell HQ2.out.1 _)
          | true =>
            go_wp2_with fail
            refine (HWo.out _ HZb.out).mono ?_
            rintro e Y3 ⟨xv, rfl, hown, hb3⟩
            obtain ⟨xa, xc, rfl⟩ := hown.slice
            obtain ⟨xn, hxn⟩ : ∃ n, (L.filter (offB sc id nm)).length = n := ⟨_, rfl⟩
            rw [hxn] at hown ⊢
            obtain ⟨Z1, hZ1, az, bz, sz1⟩ := two_blk (w := Y3) #[.slice xa xn xc] 34
            obtain ⟨Q4, hQ4⟩ : ∃ Q, Y3.heap.size = Q := ⟨_, rfl⟩
            rw [hQ4] at az
            have hbb := bst hb3 bz
            have HBz := hidK (bst HZb.out hbb)
            have HA1z := hidK (kpO hbb HZ1.out)
            have HA2z := hidK (kpO hbb HZ2.out)
            have HA4z := hidK az
            have HOw := hidK (hown.below bz)
            have HXn := hidK hxn
            have HQ4 : Hid (Z.heap.size ≤ Q4 ∧ Q4 < Z1.heap.size) := ⟨by have := hb3.size; omega, lt_block az⟩
            have HSz : Hid (Z.heap.size ≤ Z1.heap.size) := hbb.size
            clear o0 r0 s0 hb3 bz sz1 hbb az hown hxn
            have o0 := cell_at HA1z.out 0
            have r0 := cell_at HA2z.out 0
            have s0 := free_at HA2z.out 0
            have c40 := cell_at HA4z.out 0
            have f40 := free_at HA4z.out 0
            by_cases hfull : 500 ≤ xn
            · have i2 : (500 : Int) ≤ (xn : Int) := by omega
              have HRes : Hid (setF L sc id nm vl = (L, 3)) := by show _ = _; rw [HSp.out]; unfold putF; rw [HCk.out, HXn.out]; simp [hfull]
              go_wp2_with fail
              refine ret_docO rfl rfl (one_at HA2z.out _) rfl ⟨.slice ad N cp, ?_⟩
              rw [HRes.out]
              exact DocP.same (HN.out ▸ HV.out) rfl (HBz.out.setCell HQ2.out.1 _)
            · have i2 : ¬ (500 : Int) ≤ (xn : Int) := by omega
              have HRes : Hid (setF L sc id nm vl = (L.filter (offB sc id nm) ++ [⟨sc, id, nm, vl⟩], 0)) := by show _ = _; rw [HSp.out]; unfold putF; rw [HCk.out, HXn.out]; simp [hfull]
              have n24 : ¬ Q2 = Q4 := by have h1 := HQ4.out; have h2 := HZs.out; omega
              have n42 : ¬ Q4 = Q2 := fun e => n24 e.symm
              have HLn : Hid ((L.filter (offB sc id nm)).length ≤ 1000) := by show _ ≤ _; rw [HXn.out]; omega
              go_wp2_with (at_builtin; refine wpList_append_ent _ rfl (.tmp 54) (.tmp 60) rfl Z.heap.size _ (L.filter (offB sc id nm)) (by first | rfl | (rw [HXn.out]; rfl)) (by first | exact (HOw.out.below ((Below.refl _ _).alloc (Nat.le_refl _) _)) | (rw [← HXn.out]; exact HOw.out.below ((Below.refl _ _).alloc (Nat.le_refl _) _))) Z1.heap.size ⟨sc, id, nm, vl⟩ rfl (heap_alloc_new Z1 _) ?x1 ?x2 ?_; (case x1 => have h1 := HLn.out; omega); (case x2 => have h1 := HSz.out; simp; omega); intro v6 w6 ho6 hg6; have HO6 := hidK ho6; have HX4 := hidK ((hg6.block Q4 (by have h := HQ4.out; simp; omega) (fun e => by obtain ⟨_, cur, hk⟩ := (HOw.out.below ((Below.refl _ _).alloc (Nat.le_refl _) (.cells (encE ⟨sc, id, nm, vl⟩).toArray 87))).blk e.symm; rw [alloc_at HA4z.out] at hk; cases hk)).trans (alloc_at HA4z.out _)); have HX2 := hidK ((hg6.block Q2 (by have h := HZs.out; have h2 := HSz.out; simp; omega) (fun e => by obtain ⟨_, cur, hk⟩ := (HOw.out.below ((Below.refl _ _).alloc (Nat.le_refl _) (.cells (encE ⟨sc, id, nm, vl⟩).toArray 87))).blk e.symm; rw [alloc_at HA2z.out] at hk; cases hk)).trans (alloc_at HA2z.out _)); have HX6 : Hid (Below w.heap.size w w6) := ((HBz.out.alloc HBz.out.size _).grown hg6 (by have h1 := HBz.out.size; simp; omega) (fun j hj => by have h := (HOw.out.blk hj).1; have h2 := HZb.out.size; omega)); clear hg6 ho6; obtain ⟨a6, c6, rfl⟩ := HO6.out.slice; have d40 := cell_at HX4.out 0; have g40 := free_at HX4.out 0; have d20 := cell_at HX2.out 0; have g20 := free_at HX2.out 0)
              refine ret_docO rfl rfl (one_at (put_other HX2.out n24 _ _) _) rfl ⟨.slice a6 ((L.filter (offB sc id nm)).length + 1) c6, ?_⟩
              rw [HRes.out]
              refine ⟨rfl, ?_, (HX6.out.setCell (by have h1 := HQ4.out.1; have h2 := HZb.out.size; show _ ≤ Q4; omega) _).setCell HQ2.out.1 _⟩
              have hx := ((HO6.out.far HX4.out (.slice a6 ((L.filter (offB sc id nm)).length + 1) c6)).far (put_other HX2.out n24 _ _) (.slice a6 ((L.filter (offB sc id nm)).length + 1) c6)).see
              rw [List.length_append] at hx
              exact hx
    · have hpc1 : (pc == 0) = false := by simpa using hpc0
      have HRes := hidK (setF_no HPc.out hpc0 L vl)
      clear hpc0
      go_wp2_with fail
      refine ret_docO rfl rfl (one_at HV2.out _) rfl ⟨.slice ad N cp, ?_⟩
      rw [HRes.out]
      exact DocP.same (HN.out ▸ HV.out) rfl (HVb.out.setCell HQ2.out.1 _)
  · have HRes := hidK (setF_no (sc := sc) (id := id) (nm := nm) (c := 230) (by unfold placeF; rw [hr]) (by decide) L vl)
    obtain ⟨V, hV, av, bv, sv⟩ := two_blk (w := Y) #[.string ⟨#[]⟩, .int .i64 0, .int .u8 0, .int .i64 0, .int .i64 0, .slice none 0 0, .string ⟨#[]⟩] 56
    obtain ⟨q, hq0⟩ : ∃ q, Y.heap.size = q := ⟨_, rfl⟩
    rw [hq0] at av
    have HVb : Hid (Below w.heap.size w V) := bst HY.out bv
    have HV1 := hidK (kpO bv hb1)
    have HV2 := hidK (kpO bv hb2)
    have hne : ¬ Q2 = q := by have h1 := HQ2.out.2; have h2 := HYs.out; omega
    have HQge : Hid (w.heap.size ≤ q) := by have h1 := HY.out.size; show _ ≤ _; omega
    have hne2 : ¬ q = Q2 := fun e => hne e.symm
    have hn1 : ¬ Q1 = q := by have h1 := HQ2.out.2; have h2 := HYs.out; have h3 := HQ12.out; omega
    have hn12 : ¬ q = Q1 := fun e => hn1 e.symm
    have uz0 := free_at av 0
    have x0 := cell_at av 0
    have uz1 := free_at av 1
    have x1 := cell_at av 1
    have uz2 := free_at av 2
    have x2 := cell_at av 2
    have uz3 := free_at av 3
    have x3 := cell_at av 3
    have uz4 := free_at av 4
    have x4 := cell_at av 4
    have uz5 := free_at av 5
    have x5 := cell_at av 5
    have uz6 := free_at av 6
    have x6 := cell_at av 6
    have o0 := cell_at HV1.out 0
    have r0 := cell_at HV2.out 0
    have s0 := free_at HV2.out 0
    clear av bv sv hb1 hb2 hr HY HYs
    go_wp2_with fail
    refine ret_docO rfl rfl (one_at (seven_other HV2.out hne _ _ _ _ _ _ _) _) rfl ⟨.slice ad N cp, ?_⟩
    rw [HRes.out]
    exact DocP.same (HN.out ▸ HV.out) rfl ((seven_below HVb.out HQge.out _ _ _ _ _ _ _).setCell HQ2.out.1 _)
end Go.Proofs.YtgdkpmfdpfjdjaaGreatDoor

namespace Go.Proofs.YtgdkpmfdpfjdjaaGreatDoor
open Go.RowKit Go.Maps
set_option linter.unusedVariables false
set_option maxRecDepth 100000

/-- Entries that are seen, behind a store into a struct of one cell. -/
theorem SeeE.far {w : World} {v : Value} {l : List Ent} (h : SeeE w v l) {q : Nat} {v0 : Value} {T : TypeId} (hq : w.heap[q]? = some (.cells #[v0] T (0, 0))) (u : Value) : SeeE (w.setCell ⟨q, 0, none⟩ u) v l := by
  obtain ⟨a, c, rfl, hc⟩ := h
  refine ⟨a, c, rfl, fun hne => ?_⟩
  obtain ⟨g, o, rfl, hcell⟩ := hc hne
  refine ⟨g, o, rfl, fun j hj k x hx => ?_⟩
  have hg : q ≠ g := by
    rintro rfl
    have h1 := hcell j hj 1 _ rfl
    rw [cell_at hq] at h1
    simp at h1
  exact (World.cell?_setCell_far _ _ _ _ hg).trans (hcell j hj k x hx)
set_option maxHeartbeats 16000000 in
theorem rAdd_any {w : World} {v : Value} {L : List Ent} (hv : SeeE w v L) (hlen : L.length ≤ 1000000) (hG : Good L) (sc id : Int) (nm : ByteArray) (vl : ByteArray) (hvl : vl.size ≤ 140737488351232) :
    Calls Tryz.prog 29 #[.agg #[v], .int .i64 sc, .int .i64 id, .string nm, .string vl] w fun e w' => ∃ v', DocP w (addF L sc id nm vl) v' e w' := by
  obtain ⟨ad, cp, rfl⟩ := hv.shape'
  obtain ⟨N, hN⟩ : ∃ n, L.length = n := ⟨_, rfl⟩
  obtain ⟨W1, hW1, a1, b1, s1⟩ := two_blk (w := w) #[.slice ad N cp] 34
  obtain ⟨W2, hW2, a2, b2, s2⟩ := two_blk (w := W1) #[.slice none 0 0] 34
  obtain ⟨Q1, hQ1⟩ : ∃ q, w.heap.size = q := ⟨_, rfl⟩
  obtain ⟨Q2, hQ2⟩ : ∃ q, W1.heap.size = q := ⟨_, rfl⟩
  have HV := hidK hv
  rw [hN] at hv ⊢
  have HB : Hid (Below w.heap.size w W2) := bst b1 b2
  have HQ2 : Hid (w.heap.size ≤ Q2 ∧ Q2 < W2.heap.size) := by show _ ∧ _; omega
  have HQ12 : Hid (Q1 < Q2) := by show _ < _; omega
  rw [hQ1] at a1
  rw [hQ2] at a2
  have HA1 := hidK (kpO b2 a1)
  have HA2 := hidK a2
  have HP := hidK (rPlace_any sc id nm W2)
  have HN := hidK hN
  have HLen := hidK hlen
  clear a1 a2 b1 b2 s1 s2 hv hN hlen
  go_enter Tryz.func29, Tryz.ntmps29
  go_wp2_with fail
  clear hW1 hW2 hQ1 hQ2
  refine HP.out.mono ?_
  rintro e Y hp
  have HY : Hid (Below w.heap.size w Y) := bst HB.out hp.below
  have HYs : Hid (W2.heap.size ≤ Y.heap.size) := hp.below.size
  have hb1 := kpO hp.below HA1.out
  have hb2 := kpO hp.below HA2.out
  have ht := hp.told
  clear hp HP HB HA1 HA2
  rcases ht with ⟨r, ad2, m2, hr, hw, rfl⟩ | ⟨hr, rfl⟩
  · obtain ⟨pc, hpc⟩ : ∃ x, placeF sc id nm = x := ⟨_, rfl⟩
    rw [hpc]
    unfold rowA
    obtain ⟨nm', hnm⟩ : ∃ x, r.name = x := ⟨_, rfl⟩
    obtain ⟨rs, hrs⟩ : ∃ x, r.scope = x := ⟨_, rfl⟩
    obtain ⟨kb, hkb⟩ : ∃ x, kbOf r.kd = x := ⟨_, rfl⟩
    obtain ⟨lo, hlo⟩ : ∃ x, loOf r.kd = x := ⟨_, rfl⟩
    obtain ⟨hi, hhi⟩ : ∃ x, hiOf r.kd = x := ⟨_, rfl⟩
    obtain ⟨fs, hfs⟩ : ∃ x, r.first = x := ⟨_, rfl⟩
    have HRw : Hid (rowA r ad2 m2 = .agg #[.string nm', .int .i64 rs, .int .u8 kb, .int .i64 lo, .int .i64 hi, .slice ad2 m2 m2, .string fs]) := by show _ = _; unfold rowA; rw [hnm, hrs, hkb, hlo, hhi, hfs]
    have HKb := hidK hkb
    rw [hnm, hrs, hkb, hlo, hhi, hfs]
    obtain ⟨V, hV, av, bv, sv⟩ := two_blk (w := Y) #[.string nm', .int .i64 rs, .int .u8 kb, .int .i64 lo, .int .i64 hi, .slice ad2 m2 m2, .string fs] 56
    obtain ⟨q, hq0⟩ : ∃ q, Y.heap.size = q := ⟨_, rfl⟩
    rw [hq0] at av
    have HVb : Hid (Below w.heap.size w V) := bst HY.out bv
    have HAv := hidK av
    have HV1 := hidK (kpO bv hb1)
    have HV2 := hidK (kpO bv hb2)
    have HWd : Hid (WordsAt V r.kd ad2 m2) := hw.below bv
    have HQq : Hid (Q2 < q) := by have h1 := HQ2.out.2; have h2 := HYs.out; show _ < _; omega
    have HVs : Hid (Q2 < V.heap.size) := by have h1 := HQ2.out.2; have h2 := HYs.out; have h3 := bv.size; show _ < _; omega
    have x0 := cell_at av 0
    have x1 := cell_at av 1
    have x2 := cell_at av 2
    have x3 := cell_at av 3
    have x4 := cell_at av 4
    have x5 := cell_at av 5
    have x6 := cell_at av 6
    have o0 := cell_at HV1.out 0
    have r0 := cell_at HV2.out 0
    have s0 := free_at HV2.out 0
    have HR := hidK hr
    have HPc := hidK hpc
    clear hpc hnm hrs hkb hlo hhi hfs av bv sv hb1 hb2 hw hr HY HYs
    by_cases hpc0 : pc = 0
    · subst hpc0
      have hkt := kb_txt (kd := r.kd)
      rw [HKb.out] at hkt
      have HSp := hidK (addF_ok HR.out HPc.out L vl)
      have HTx := hidK hG
      cases ht : isTxt r.kd with
      | false =>
        rw [ht] at hkt
        have HRes : Hid (addF L sc id nm vl = (L, 125)) := by show _ = _; rw [HSp.out, ht]; rfl
        clear ht hG
        go_wp2_with fail
        refine ret_docO rfl rfl (one_at HV2.out _) rfl ⟨.slice ad N cp, ?_⟩
        rw [HRes.out]
        exact DocP.same (HN.out ▸ HV.out) rfl (HVb.out.setCell HQ2.out.1 _)
      | true =>
        rw [ht] at hkt
        have hsz : (nowF L sc id r).size ≤ 1024 := by
          have := now_short hG (sc := sc) (id := id) HR.out ht
          unfold nowF
          rw [(rowO_mem HR.out).2]
          exact this
        have HNo : Hid (∀ X, Below V.heap.size V X → Calls Tryz.prog 55 #[.agg #[.slice ad N cp], .int .i64 sc, .int .i64 id, .agg #[.string nm', .int .i64 rs, .int .u8 kb, .int .i64 lo, .int .i64 hi, .slice ad2 m2 m2, .string fs]] X fun e w' => e = .returned (.string (nowF L sc id r)) ∧ Below X.heap.size X w') := fun X hX => by
          have := rNow_any (HV.out.below (bst HVb.out hX)) HLen.out sc id r ad2 m2
          rw [HN.out, HRw.out] at this
          exact this
        have HRes : Hid (addF L sc id nm vl = setF L sc id nm (nowF L sc id r ++ vl)) := by
          show _ = _
          rw [setF_ok HR.out HPc.out]
          have h1 : addF L sc id nm vl = putF L sc id nm (nowF L sc id r ++ vl) r.kd := by unfold addF; rw [HR.out]; dsimp only; rw [if_neg (fun q => q HPc.out), if_pos ht]
          exact h1
        obtain ⟨nv, hnv⟩ : ∃ x, nowF L sc id r = x := ⟨_, rfl⟩
        rw [hnv] at HRes HNo hsz
        have hvs : (nv ++ vl).size ≤ 140737488355328 := by rw [ByteArray.size_append]; omega
        have HSet : Hid (∀ X, Below V.heap.size V X → Calls Tryz.prog 27 #[.agg #[.slice ad N cp], .int .i64 sc, .int .i64 id, .string nm, .string (nv ++ vl)] X fun e w' => ∃ v' L' c', setF L sc id nm (nv ++ vl) = (L', c') ∧ e = .returned (.tuple #[.agg #[v'], .int .i64 c']) ∧ SeeE w' v' L' ∧ Below X.heap.size X w') := fun X hX => by
          have := rSet_any (HV.out.below (bst HVb.out hX)) HLen.out sc id nm (nv ++ vl) hvs
          rw [HN.out] at this
          exact this.mono fun e w' ⟨v', h⟩ => ⟨v', _, _, rfl, h.told, h.see, h.below⟩
        have hcat : ¬ 9223372036854775807 < nv.size + vl.size := by omega
        have HSx : Hid (∀ X, Below V.heap.size V X → X.cell? ⟨Q1, 0, none⟩ = some (.slice ad N cp) ∧ X.cell? ⟨q, 0, none⟩ = some (.string nm') ∧ X.cell? ⟨q, 1, none⟩ = some (.int .i64 rs) ∧ X.cell? ⟨q, 2, none⟩ = some (.int .u8 kb) ∧ X.cell? ⟨q, 3, none⟩ = some (.int .i64 lo) ∧ X.cell? ⟨q, 4, none⟩ = some (.int .i64 hi) ∧ X.cell? ⟨q, 5, none⟩ = some (.slice ad2 m2 m2) ∧ X.cell? ⟨q, 6, none⟩ = some (.string fs)) := fun X hX => by
          have e1 := kpO hX HV1.out
          have e2 := kpO hX HAv.out
          exact ⟨cell_at e1 0, cell_at e2 0, cell_at e2 1, cell_at e2 2, cell_at e2 3, cell_at e2 4, cell_at e2 5, cell_at e2 6⟩
        have HBv := hidK (Below.refl V.heap.size V)
        clear hvs hsz hnv ht hG hvl
        go_upto_region 6 with fail
        clear x0 x1 x2 x3 x4 x5 x6 o0 r0 s0
        refine wp_region_held_drew (S := (fun X => X.cell? ⟨Q1, 0, none⟩ = some (.slice ad N cp) ∧ X.cell? ⟨q, 0, none⟩ = some (.string nm') ∧ X.cell? ⟨q, 1, none⟩ = some (.int .i64 rs) ∧ X.cell? ⟨q, 2, none⟩ = some (.int .u8 kb) ∧ X.cell? ⟨q, 3, none⟩ = some (.int .i64 lo) ∧ X.cell? ⟨q, 4, none⟩ = some (.int .i64 hi) ∧ X.cell? ⟨q, 5, none⟩ = some (.slice ad2 m2 m2) ∧ X.cell? ⟨q, 6, none⟩ = some (.string fs))) (by kernel_rfl) ?sD (fun hHeld => ?_)
        case sD => ((try dsimp only); first | exact HSx.out _ (by first | exact HBv.out | exact HBv.out.drew) | exact HSt.out)
        have HBn := hidK HBv.out.drew
        clear HBv
        have HBv := hidK HBn.out
        clear HBn
        refine wpAnyH_take (i := 0) (oi := { dst := some 29, op := Op.load 34 (Operand.tmp 5), type := 34, pos := "ref.go:176", after := #[], guard := none }) (v := ?vD0n1) rfl (by kernel_rfl) (by kernel_rfl) (by kernel_rfl) (fun _ _ _ h => h) (Or.inl ⟨by rfl, ?yD0n1⟩) (by assumption) ?rD0n1
        case yD0n1 => (intro w hSw; (try dsimp only at hSw); first | (go_simp; done) | (go_simp; with_reducible rfl))
        try simp only [Act.put, List.setIfInBounds_toArray, List.set_cons_zero, List.set_cons_succ]
        refine wpAnyH_take (i := 1) (oi := { dst := some 30, op := Op.move (Operand.tmp 1), type := 3, pos := "ref.go:176", after := #[], guard := none }) (v := ?vD1n2) rfl (by kernel_rfl) (by kernel_rfl) (by kernel_rfl) (fun _ _ _ h => h) (Or.inl ⟨by rfl, ?yD1n2⟩) (by assumption) ?rD1n2
        case yD1n2 => (intro w hSw; (try dsimp only at hSw); first | (go_simp; done) | (go_simp; with_reducible rfl))
        try simp only [Act.put, List.setIfInBounds_toArray, List.set_cons_zero, List.set_cons_succ]
        refine wpAnyH_take (i := 2) (oi := { dst := some 31, op := Op.move (Operand.tmp 2), type := 3, pos := "ref.go:176", after := #[], guard := none }) (v := ?vD2n3) rfl (by kernel_rfl) (by kernel_rfl) (by kernel_rfl) (fun _ _ _ h => h) (Or.inl ⟨by rfl, ?yD2n3⟩) (by assumption) ?rD2n3
        case yD2n3 => (intro w hSw; (try dsimp only at hSw); first | (go_simp; done) | (go_simp; with_reducible rfl))
        try simp only [Act.put, List.setIfInBounds_toArray, List.set_cons_zero, List.set_cons_succ]
        refine wpAnyH_take (i := 3) (oi := { dst := some 32, op := Op.move (Operand.tmp 3), type := 9, pos := "ref.go:176", after := #[], guard := none }) (v := ?vD3n4) rfl (by kernel_rfl) (by kernel_rfl) (by kernel_rfl) (fun _ _ _ h => h) (Or.inl ⟨by rfl, ?yD3n4⟩) (by assumption) ?rD3n4
        case yD3n4 => (intro w hSw; (try dsimp only at hSw); first | (go_simp; done) | (go_simp; with_reducible rfl))
        try simp only [Act.put, List.setIfInBounds_toArray, List.set_cons_zero, List.set_cons_succ]
        refine wpAnyH_take (i := 4) (oi := { dst := some 33, op := Op.load 34 (Operand.tmp 5), type := 34, pos := "ref.go:176", after := #[], guard := none }) (v := ?vD4n5) rfl (by kernel_rfl) (by kernel_rfl) (by kernel_rfl) (fun _ _ _ h => h) (Or.inl ⟨by rfl, ?yD4n5⟩) (by assumption) ?rD4n5
        case yD4n5 => (intro w hSw; (try dsimp only at hSw); first | (go_simp; done) | (go_simp; with_reducible rfl))
        try simp only [Act.put, List.setIfInBounds_toArray, List.set_cons_zero, List.set_cons_succ]
        refine wpAnyH_take (i := 5) (oi := { dst := some 34, op := Op.move (Operand.tmp 1), type := 3, pos := "ref.go:176", after := #[], guard := none }) (v := ?vD5n6) rfl (by kernel_rfl) (by kernel_rfl) (by kernel_rfl) (fun _ _ _ h => h) (Or.inl ⟨by rfl, ?yD5n6⟩) (by assumption) ?rD5n6
        case yD5n6 => (intro w hSw; (try dsimp only at hSw); first | (go_simp; done) | (go_simp; with_reducible rfl))
        try simp only [Act.put, List.setIfInBounds_toArray, List.set_cons_zero, List.set_cons_succ]
        refine wpAnyH_take (i := 6) (oi := { dst := some 35, op := Op.move (Operand.tmp 2), type := 3, pos := "ref.go:176", after := #[], guard := none }) (v := ?vD6n7) rfl (by kernel_rfl) (by kernel_rfl) (by kernel_rfl) (fun _ _ _ h => h) (Or.inl ⟨by rfl, ?yD6n7⟩) (by assumption) ?rD6n7
        case yD6n7 => (intro w hSw; (try dsimp only at hSw); first | (go_simp; done) | (go_simp; with_reducible rfl))
        try simp only [Act.put, List.setIfInBounds_toArray, List.set_cons_zero, List.set_cons_succ]
        refine wpAnyH_take (i := 7) (oi := { dst := some 36, op := Op.load 56 (Operand.tmp 12), type := 56, pos := "ref.go:176", after := #[], guard := none }) (v := ?vD7n8) rfl (by kernel_rfl) (by kernel_rfl) (by kernel_rfl) (fun _ _ _ h => h) (Or.inl ⟨by rfl, ?yD7n8⟩) (by assumption) ?rD7n8
        case yD7n8 => (intro w hSw; (try dsimp only at hSw); first | (go_simp; done) | (go_simp; with_reducible rfl))
        try simp only [Act.put, List.setIfInBounds_toArray, List.set_cons_zero, List.set_cons_succ]
        refine wpAnyH_take (i := 9) (oi := { dst := some 38, op := Op.move (Operand.tmp 4), type := 9, pos := "ref.go:176", after := #[], guard := none }) (v := ?vD9n9) rfl (by kernel_rfl) (by kernel_rfl) (by kernel_rfl) (fun _ _ _ h => h) (Or.inl ⟨by rfl, ?yD9n9⟩) (by assumption) ?rD9n9
        case yD9n9 => (intro w hSw; (try dsimp only at hSw); first | (go_simp; done) | (go_simp; with_reducible rfl))
        try simp only [Act.put, List.setIfInBounds_toArray, List.set_cons_zero, List.set_cons_succ]
        refine wpAnyH_ready (rs := [8]) (by kernel_rfl) (by simp) (AllReadyH.cons (o := { dst := some 37, op := Op.call { callee := Callee.value (Operand.func 55), args := #[Operand.tmp 33, Operand.tmp 34, Operand.tmp 35, Operand.tmp 36], argTypes := #[34, 3, 3, 56] }, type := 9, pos := "ref.go:176", after := #[{ on := 4, ground := Ground.data }, { on := 5, ground := Ground.data }, { on := 6, ground := Ground.data }, { on := 7, ground := Ground.data }], guard := none }) rfl (fun K hK => ?bDn10q0) AllReadyH.nil)
        go_simp
        go_wp2_with (refine (HNo.out _ HBv.out).mono ?_; rintro e Y2 ⟨rfl, hb⟩; have HBn := hidK (bst HBv.out hb); clear hb HBv; have HBv := hidK HBn.out; clear HBn)
        refine hK.out _ _ ?kDn10o8 (fun hHeld10 => ?_)
        case kDn10o8 => ((try dsimp only); first | exact HSx.out _ (by first | exact HBv.out | exact HBv.out.drew) | exact HSt.out)
        clear hK K
        try simp only [Act.put, List.setIfInBounds_toArray, List.set_cons_zero, List.set_cons_succ]
        refine wpAnyH_take (i := 10) (oi := { dst := some 39, op := Op.binOp BinOp.add 9 (Operand.tmp 37) (Operand.tmp 38) 9, type := 9, pos := "ref.go:176", after := #[{ on := 8, ground := Ground.data }, { on := 9, ground := Ground.data }], guard := none }) (v := ?vD10n11) rfl (by kernel_rfl) (by kernel_rfl) (by kernel_rfl) (fun _ _ _ h => h) (Or.inl ⟨by rfl, ?yD10n11⟩) (by assumption) ?rD10n11
        case yD10n11 => (intro w hSw; (try dsimp only at hSw); first | (go_simp; done) | (go_simp; with_reducible rfl))
        try simp only [Act.put, List.setIfInBounds_toArray, List.set_cons_zero, List.set_cons_succ]
        refine wpAnyH_ready (rs := [11]) (by kernel_rfl) (by simp) (AllReadyH.cons (o := { dst := some 40, op := Op.call { callee := Callee.value (Operand.func 27), args := #[Operand.tmp 29, Operand.tmp 30, Operand.tmp 31, Operand.tmp 32, Operand.tmp 39], argTypes := #[34, 3, 3, 9, 9] }, type := 79, pos := "ref.go:176", after := #[{ on := 0, ground := Ground.data }, { on := 1, ground := Ground.data }, { on := 2, ground := Ground.data }, { on := 3, ground := Ground.data }, { on := 10, ground := Ground.data }, { on := 8, ground := Ground.chain }], guard := none }) rfl (fun K hK => ?bDn12q0) AllReadyH.nil)
        go_simp
        go_wp2_with (refine (HSet.out _ HBv.out).mono ?_; rintro e Z2 ⟨v2, L', c', heq, rfl, hs, hz⟩; have HEq := hidK heq; have HBn := hidK (bst HBv.out hz); obtain ⟨a2, c2, rfl⟩ := hs.shape'; have HSee := hidK hs; clear hz heq hs HBv; have HBv := hidK HBn.out; clear HBn; have HZ2 := hidK (kpO HBv.out HV2.out); have r0 := cell_at HZ2.out 0; have s0 := free_at HZ2.out 0; have HSt : Hid ((Z2.setCell ⟨Q2, 0, none⟩ (.slice a2 L'.length c2)).cell? ⟨Q1, 0, none⟩ = some (.slice ad N cp) ∧ (Z2.setCell ⟨Q2, 0, none⟩ (.slice a2 L'.length c2)).cell? ⟨q, 0, none⟩ = some (.string nm') ∧ (Z2.setCell ⟨Q2, 0, none⟩ (.slice a2 L'.length c2)).cell? ⟨q, 1, none⟩ = some (.int .i64 rs) ∧ (Z2.setCell ⟨Q2, 0, none⟩ (.slice a2 L'.length c2)).cell? ⟨q, 2, none⟩ = some (.int .u8 kb) ∧ (Z2.setCell ⟨Q2, 0, none⟩ (.slice a2 L'.length c2)).cell? ⟨q, 3, none⟩ = some (.int .i64 lo) ∧ (Z2.setCell ⟨Q2, 0, none⟩ (.slice a2 L'.length c2)).cell? ⟨q, 4, none⟩ = some (.int .i64 hi) ∧ (Z2.setCell ⟨Q2, 0, none⟩ (.slice a2 L'.length c2)).cell? ⟨q, 5, none⟩ = some (.slice ad2 m2 m2) ∧ (Z2.setCell ⟨Q2, 0, none⟩ (.slice a2 L'.length c2)).cell? ⟨q, 6, none⟩ = some (.string fs)) := by have e1 := put_other (kpO HBv.out HV1.out) (c := Q2) (by have h := HQ12.out; omega) 0 (.slice a2 L'.length c2); have e2 := put_other (kpO HBv.out HAv.out) (c := Q2) (by have h := HQq.out; omega) 0 (.slice a2 L'.length c2); exact ⟨cell_at e1 0, cell_at e2 0, cell_at e2 1, cell_at e2 2, cell_at e2 3, cell_at e2 4, cell_at e2 5, cell_at e2 6⟩)
        refine hK.out _ _ ?kDn12o11 (fun hHeld12 => ?_)
        case kDn12o11 => ((try dsimp only); first | exact HSx.out _ (by first | exact HBv.out | exact HBv.out.drew) | exact HSt.out)
        clear hK K
        try simp only [Act.put, List.setIfInBounds_toArray, List.set_cons_zero, List.set_cons_succ]
        refine wpAnyH_take (i := 12) (oi := { dst := some 41, op := Op.extract (Operand.tmp 40) 0, type := 34, pos := "ref.go:176", after := #[{ on := 11, ground := Ground.data }], guard := none }) (v := ?vD12n13) rfl (by kernel_rfl) (by kernel_rfl) (by kernel_rfl) (fun _ _ _ h => h) (Or.inl ⟨by rfl, ?yD12n13⟩) (by assumption) ?rD12n13
        case yD12n13 => (intro w hSw; (try dsimp only at hSw); first | (go_simp; done) | (go_simp; with_reducible rfl))
        try simp only [Act.put, List.setIfInBounds_toArray, List.set_cons_zero, List.set_cons_succ]
        refine wpAnyH_take (i := 13) (oi := { dst := some 42, op := Op.extract (Operand.tmp 40) 1, type := 3, pos := "ref.go:176", after := #[{ on := 11, ground := Ground.data }], guard := none }) (v := ?vD13n14) rfl (by kernel_rfl) (by kernel_rfl) (by kernel_rfl) (fun _ _ _ h => h) (Or.inl ⟨by rfl, ?yD13n14⟩) (by assumption) ?rD13n14
        case yD13n14 => (intro w hSw; (try dsimp only at hSw); first | (go_simp; done) | (go_simp; with_reducible rfl))
        try simp only [Act.put, List.setIfInBounds_toArray, List.set_cons_zero, List.set_cons_succ]
        refine wpAnyH_ready (rs := [14]) (by kernel_rfl) (by simp) (AllReadyH.cons (o := { dst := none, op := Op.store 34 (Operand.tmp 10) (Operand.tmp 41), type := 0, pos := "ref.go:176", after := #[{ on := 12, ground := Ground.data }, { on := 11, ground := Ground.chain }, { on := 0, ground := Ground.phase }, { on := 1, ground := Ground.phase }, { on := 2, ground := Ground.phase }, { on := 3, ground := Ground.phase }, { on := 4, ground := Ground.phase }, { on := 5, ground := Ground.phase }, { on := 6, ground := Ground.phase }, { on := 7, ground := Ground.phase }, { on := 8, ground := Ground.phase }, { on := 9, ground := Ground.phase }, { on := 10, ground := Ground.phase }, { on := 11, ground := Ground.phase }, { on := 12, ground := Ground.phase }, { on := 13, ground := Ground.phase }], guard := none }) rfl (fun K hK => ?bDn15q0) AllReadyH.nil)
        go_simp
        refine hK.out _ _ ?kDn15o14 (fun hHeld15 => ?_)
        case kDn15o14 => ((try dsimp only); first | exact HSx.out _ (by first | exact HBv.out | exact HBv.out.drew) | exact HSt.out)
        clear hK K
        skip
        try simp only [Act.put, List.setIfInBounds_toArray, List.set_cons_zero, List.set_cons_succ]
        refine wpAnyH_take (i := 15) (oi := { dst := some 11, op := Op.assign (Operand.tmp 42), type := 3, pos := "ref.go:176", after := #[{ on := 13, ground := Ground.data }, { on := 14, ground := Ground.chain }, { on := 0, ground := Ground.phase }, { on := 1, ground := Ground.phase }, { on := 2, ground := Ground.phase }, { on := 3, ground := Ground.phase }, { on := 4, ground := Ground.phase }, { on := 5, ground := Ground.phase }, { on := 6, ground := Ground.phase }, { on := 7, ground := Ground.phase }, { on := 8, ground := Ground.phase }, { on := 9, ground := Ground.phase }, { on := 10, ground := Ground.phase }, { on := 11, ground := Ground.phase }, { on := 12, ground := Ground.phase }, { on := 13, ground := Ground.phase }, { on := 14, ground := Ground.phase }], guard := none }) (v := ?vD15n16) rfl (by kernel_rfl) (by kernel_rfl) (by kernel_rfl) (fun _ _ _ h => h) (Or.inl ⟨by rfl, ?yD15n16⟩) (by assumption) ?rD15n16
        case yD15n16 => (intro w hSw; (try dsimp only at hSw); first | (go_simp; done) | (go_simp; with_reducible rfl))
        try simp only [Act.put, List.setIfInBounds_toArray, List.set_cons_zero, List.set_cons_succ]
        refine wpAnyH_done (by kernel_rfl) ?_ _
        go_wp2_with fail
        have HBx := hidK (bst HVb.out HBv.out)
        refine ret_docO rfl rfl (one_at HZ2.out _) rfl ⟨.slice a2 L'.length c2, ?_⟩
        rw [HRes.out, HEq.out]
        exact ⟨rfl, HSee.out.far HZ2.out _, HBx.out.setCell HQ2.out.1 _⟩
    · have hpc1 : (pc == 0) = false := by simpa using hpc0
      have HRes := hidK (addF_no HPc.out hpc0 L vl)
      clear hpc0
      go_wp2_with fail
      refine ret_docO rfl rfl (one_at HV2.out _) rfl ⟨.slice ad N cp, ?_⟩
      rw [HRes.out]
      exact DocP.same (HN.out ▸ HV.out) rfl (HVb.out.setCell HQ2.out.1 _)
  · have HRes := hidK (addF_no (sc := sc) (id := id) (nm := nm) (c := 230) (by unfold placeF; rw [hr]) (by decide) L vl)
    obtain ⟨V, hV, av, bv, sv⟩ := two_blk (w := Y) #[.string ⟨#[]⟩, .int .i64 0, .int .u8 0, .int .i64 0, .int .i64 0, .slice none 0 0, .string ⟨#[]⟩] 56
    obtain ⟨q, hq0⟩ : ∃ q, Y.heap.size = q := ⟨_, rfl⟩
    rw [hq0] at av
    have HVb : Hid (Below w.heap.size w V) := bst HY.out bv
    have HV1 := hidK (kpO bv hb1)
    have HV2 := hidK (kpO bv hb2)
    have hne : ¬ Q2 = q := by have h1 := HQ2.out.2; have h2 := HYs.out; omega
    have HQge : Hid (w.heap.size ≤ q) := by have h1 := HY.out.size; show _ ≤ _; omega
    have hne2 : ¬ q = Q2 := fun e => hne e.symm
    have hn1 : ¬ Q1 = q := by have h1 := HQ2.out.2; have h2 := HYs.out; have h3 := HQ12.out; omega
    have hn12 : ¬ q = Q1 := fun e => hn1 e.symm
    have uz0 := free_at av 0
    have x0 := cell_at av 0
    have uz1 := free_at av 1
    have x1 := cell_at av 1
    have uz2 := free_at av 2
    have x2 := cell_at av 2
    have uz3 := free_at av 3
    have x3 := cell_at av 3
    have uz4 := free_at av 4
    have x4 := cell_at av 4
    have uz5 := free_at av 5
    have x5 := cell_at av 5
    have uz6 := free_at av 6
    have x6 := cell_at av 6
    have o0 := cell_at HV1.out 0
    have r0 := cell_at HV2.out 0
    have s0 := free_at HV2.out 0
    clear av bv sv hb1 hb2 hr HY HYs
    go_wp2_with fail
    refine ret_docO rfl rfl (one_at (seven_other HV2.out hne _ _ _ _ _ _ _) _) rfl ⟨.slice ad N cp, ?_⟩
    rw [HRes.out]
    exact DocP.same (HN.out ▸ HV.out) rfl ((seven_below HVb.out HQge.out _ _ _ _ _ _ _).setCell HQ2.out.1 _)
end Go.Proofs.YtgdkpmfdpfjdjaaGreatDoor

namespace Go.Proofs.YtgdkpmfdpfjdjaaGreatDoor
open Go.RowKit
set_option linter.unusedVariables false
set_option maxRecDepth 100000

/-- Not of this thing. -/
def offP (sc id : Int) (e : Ent) : Bool := !(decide (e.sc = sc) && decide (e.id = id))
theorem offP_no {sc id : Int} {e : Ent} : offP sc id e = false ↔ e.sc = sc ∧ e.id = id := by unfold offP; simp
theorem offP_iff {sc id : Int} {e : Ent} : offP sc id e = true ↔ ¬ (e.sc = sc ∧ e.id = id) := by
  rw [← offP_no]
  cases offP sc id e <;> simp
set_option maxHeartbeats 16000000 in
theorem rDrop_any {w : World} {v : Value} {L : List Ent} (hv : SeeE w v L) (hlen : L.length ≤ 1000000) (sc id : Int) :
    Calls Tryz.prog 38 #[.agg #[v], .int .i64 sc, .int .i64 id] w fun e w' => ∃ v', e = .returned (.agg #[v']) ∧ SeeE w' v' (dropF L sc id) ∧ Below w.heap.size w w' := by
  obtain ⟨ad, cp, rfl⟩ := hv.shape'
  obtain ⟨N, hN⟩ : ∃ N, L.length = N := ⟨_, rfl⟩
  rw [hN] at hv hlen ⊢
  obtain ⟨W1, hW1, a1, b1, s1⟩ := two_blk (w := w) #[.slice ad N cp] 34
  obtain ⟨Q1, hQ1⟩ : ∃ Q, w.heap.size = Q := ⟨_, rfl⟩
  rw [hQ1] at a1
  obtain ⟨W2, hW2, a2, b2, s2⟩ := two_blk (w := W1) #[.slice none 0 0] 34
  obtain ⟨Q2, hQ2⟩ : ∃ Q, W1.heap.size = Q := ⟨_, rfl⟩
  rw [hQ2] at a2
  have HB := hidK (bst b1 b2)
  have HA := hidK (kpO b2 a1)
  have HA2 := hidK a2
  have HQ2 : Hid (w.heap.size < W2.heap.size ∧ w.heap.size ≤ Q2 ∧ Q2 < W2.heap.size) := by show _ ∧ _; omega
  have HS := hidK (fun k (hk : k < L.length) => ((hv.below b1).below b2).cells hk)
  have HN := hidK hN
  have HV := hidK ((hv.below b1).below b2)
  clear hv hN a1 b1 s1 a2 b2 s2
  go_enter Tryz.func38, Tryz.ntmps38
  have z0 := cell_at HA.out 0
  have r0 := cell_at HA2.out 0
  have r1 := free_at HA2.out 0
  by_cases hid : id = 0
  · have HD : Hid (dropF L sc id = L) := if_pos hid
    have i0 : (id == 0) = true := by simpa using hid
    clear hid
    go_wp2_with fail
    refine ret_kind rfl rfl (put_at HA2.out 0 _) Tryz.underlying34 rfl infoTabs rfl ⟨.slice ad N cp, rfl, ?_, HB.out.setCell HQ2.out.2.1 _⟩
    rw [HD.out]
    exact HV.out.far HA2.out _
  have HD : Hid (dropF L sc id = L.filter (offP sc id)) := if_neg hid
  have i0 : (id == 0) = false := by simpa using hid
  clear hid
  go_wp2_with fail
  clear hW1 hQ1 hW2 hQ2 z0 r0 r1
  go_loopw [7, 8] (fun lv iv wr => ∃ k : Nat, k ≤ N ∧ iv = .int .i64 k ∧ Hid (Below W2.heap.size W2 wr) ∧ Hid (EntsAt wr W2.heap.size lv ((L.take k).filter (offP sc id)))) (fun _ iv _ => N - (intOf iv).toNat)
  case atStart => exact ⟨0, Nat.zero_le _, rfl, Below.refl _ _, EntsAt.nil _ _⟩
  case round =>
    obtain ⟨k, hk, rfl, HW, HO⟩ := hrel
    have c0 : wr.cell? ⟨Q1, 0, none⟩ = some (.slice ad N cp) := cell_at (kpO HW.out HA.out) 0
    by_cases hlt : k < N
    · have i1 : (k : Int) < (N : Int) := by omega
      have hkl : k < L.length := by rw [HN.out]; exact hlt
      obtain ⟨g, o, rfl, hc⟩ := HS.out k hkl
      obtain ⟨p0, p1, p2, p3⟩ := hc wr HW.out
      have HTk := hidK (List.take_succ_eq_append_getElem hkl)
      obtain ⟨⟨ec, ei, en, ev⟩, he⟩ : ∃ e, L[k] = e := ⟨_, rfl⟩
      rw [he] at p0 p1 p2 p3 HTk
      dsimp only at p0 p1 p2 p3
      clear he hc hkl
      go_upto_region 7 with fail
      obtain ⟨cnd, hcnd⟩ : ∃ c, offP sc id ⟨ec, ei, en, ev⟩ = c := ⟨_, rfl⟩
      have HC := hidK hcnd
      clear hcnd
      go_cut [36] (fun v X => v = .bool cnd ∧ wr = X)
      case first =>
        by_cases q1 : ec = sc
        · by_cases q2 : ei = id
          · have HC2 : Hid (false = cnd) := by
              show _ = _
              rw [← HC.out, offP_no.2 ⟨q1, q2⟩]
            subst q1
            subst q2
            go_wp2_with fail
            go_meet
            case rel => exact ⟨by rw [HC2.out], rfl⟩
          · have HC2 : Hid (true = cnd) := by
              show _ = _
              rw [← HC.out, offP_iff.2 (fun q => q2 q.2)]
            have q4 : (ei == id) = false := by simpa using q2
            subst q1
            go_wp2_with fail
            go_meet
            case rel => exact ⟨by rw [← HC2.out]; simp [bne, q4], rfl⟩
        · have HC2 : Hid (true = cnd) := by
            show _ = _
            rw [← HC.out, offP_iff.2 (fun q => q1 q.1)]
          have q4 : (ec == sc) = false := by simpa using q1
          go_wp2_with fail
          go_meet
          case rel => exact ⟨by rw [HC2.out], rfl⟩
      case rest =>
        obtain ⟨rfl, rfl⟩ := hcut
        have HOv := hidK HO.out
        have hlo : ((L.take k).filter (offP sc id)).length ≤ 1000000 := by
          have h1 := List.length_filter_le (offP sc id) (L.take k)
          have h2 := List.length_take_le k L
          omega
        cases cnd with
        | true =>
          have HF : Hid ((L.take (k + 1)).filter (offP sc id) = (L.take k).filter (offP sc id) ++ [⟨ec, ei, en, ev⟩]) := by
            show _ = _
            rw [HTk.out, List.filter_append, List.filter_cons_of_pos HC.out]; rfl
          go_wp2_with (at_builtin; refine wpList_append_ent _ rfl (.tmp 37) (.tmp 43) rfl W2.heap.size _ ((L.take k).filter (offP sc id)) rfl (HOv.out.below ((Below.refl _ _).alloc (Nat.le_refl _) _)) wr.heap.size ⟨ec, ei, en, ev⟩ rfl (heap_alloc_new wr _) ?x1 ?x2 ?_; (case x1 => omega); (case x2 => have h1 := HW.out.size; simp; omega); intro v6 w6 ho6 hg6; have HO6 := hidK ho6; have HG6 : Hid (Below W2.heap.size W2 w6) := (HW.out.alloc HW.out.size _).grown hg6 (by have h1 := HW.out.size; simp; omega) (fun j hj => (HOv.out.blk hj).1); clear ho6 hg6)
          go_roundw
          case rel => exact ⟨k + 1, by omega, by go_num, HG6.out, by rw [HF.out]; exact HO6.out⟩
          case measure => simp [intOf]; omega
        | false =>
          have HF : Hid ((L.take (k + 1)).filter (offP sc id) = (L.take k).filter (offP sc id)) := by
            show _ = _
            rw [HTk.out, List.filter_append, List.filter_cons_of_neg (by rw [HC.out]; decide)]; simp
          go_wp2_with fail
          go_roundw
          case rel => exact ⟨k + 1, by omega, by go_num, HW.out, by rw [HF.out]; exact HOv.out⟩
          case measure => simp [intOf]; omega
    · have i1 : ¬ (k : Int) < (N : Int) := by omega
      have HTa : Hid (L.take k = L) := List.take_of_length_le (by rw [HN.out]; omega)
      have d0 := cell_at (kpO HW.out HA2.out) 0
      have f0 := free_at (kpO HW.out HA2.out) 0
      obtain ⟨la, lc, rfl⟩ := HO.out.slice
      go_wp2_with fail
      refine ret_kind rfl rfl (put_at (kpO HW.out HA2.out) 0 _) Tryz.underlying34 rfl infoTabs rfl ⟨_, rfl, ?_, (bst HB.out HW.out).setCell HQ2.out.2.1 _⟩
      have h := HO.out
      rw [HTa.out] at h ⊢
      rw [HD.out]
      refine EntsAt.see (EntsAt.keep (EntsAt.base h (Nat.le_of_lt HQ2.out.1)) fun g hg => put_other rfl (fun e => ?_) _ _)
      have := (h.blk hg).1
      have h3 := HQ2.out.2.2
      omega
end Go.Proofs.YtgdkpmfdpfjdjaaGreatDoor

namespace Go.Proofs.YtgdkpmfdpfjdjaaGreatDoor
open Go.RowKit Go.Maps
set_option linter.unusedVariables false
set_option maxRecDepth 100000

set_option maxHeartbeats 16000000 in
theorem rTurn_any {w : World} {v : Value} {L : List Ent} (hv : SeeE w v L) (hlen : L.length ≤ 1000000) (sc id : Int) (nm : ByteArray) :
    Calls Tryz.prog 31 #[.agg #[v], .int .i64 sc, .int .i64 id, .string nm] w fun e w' => ∃ v', DocP w (turnF L sc id nm) v' e w' := by
  obtain ⟨ad, cp, rfl⟩ := hv.shape'
  obtain ⟨N, hN⟩ : ∃ n, L.length = n := ⟨_, rfl⟩
  obtain ⟨W1, hW1, a1, b1, s1⟩ := two_blk (w := w) #[.slice ad N cp] 34
  obtain ⟨W2, hW2, a2, b2, s2⟩ := two_blk (w := W1) #[.slice none 0 0] 34
  obtain ⟨Q1, hQ1⟩ : ∃ q, w.heap.size = q := ⟨_, rfl⟩
  obtain ⟨Q2, hQ2⟩ : ∃ q, W1.heap.size = q := ⟨_, rfl⟩
  have HV := hidK hv
  rw [hN] at hv ⊢
  have HB : Hid (Below w.heap.size w W2) := bst b1 b2
  have HQ2 : Hid (w.heap.size ≤ Q2 ∧ Q2 < W2.heap.size) := by show _ ∧ _; omega
  have HQ12 : Hid (Q1 < Q2) := by show _ < _; omega
  rw [hQ1] at a1
  rw [hQ2] at a2
  have HA1 := hidK (kpO b2 a1)
  have HA2 := hidK a2
  have HP := hidK (rPlace_any sc id nm W2)
  have HN := hidK hN
  have HLen := hidK hlen
  clear a1 a2 b1 b2 s1 s2 hv hN hlen
  go_enter Tryz.func31, Tryz.ntmps31
  go_wp2_with fail
  clear hW1 hW2 hQ1 hQ2
  refine HP.out.mono ?_
  rintro e Y hp
  have HY : Hid (Below w.heap.size w Y) := bst HB.out hp.below
  have HYs : Hid (W2.heap.size ≤ Y.heap.size) := hp.below.size
  have hb1 := kpO hp.below HA1.out
  have hb2 := kpO hp.below HA2.out
  have ht := hp.told
  clear hp HP HB HA1 HA2
  rcases ht with ⟨r, ad2, m2, hr, hw, rfl⟩ | ⟨hr, rfl⟩
  · obtain ⟨pc, hpc⟩ : ∃ x, placeF sc id nm = x := ⟨_, rfl⟩
    rw [hpc]
    unfold rowA
    obtain ⟨nm', hnm⟩ : ∃ x, r.name = x := ⟨_, rfl⟩
    obtain ⟨rs, hrs⟩ : ∃ x, r.scope = x := ⟨_, rfl⟩
    obtain ⟨kb, hkb⟩ : ∃ x, kbOf r.kd = x := ⟨_, rfl⟩
    obtain ⟨lo, hlo⟩ : ∃ x, loOf r.kd = x := ⟨_, rfl⟩
    obtain ⟨hi, hhi⟩ : ∃ x, hiOf r.kd = x := ⟨_, rfl⟩
    obtain ⟨fs, hfs⟩ : ∃ x, r.first = x := ⟨_, rfl⟩
    have HRw : Hid (rowA r ad2 m2 = .agg #[.string nm', .int .i64 rs, .int .u8 kb, .int .i64 lo, .int .i64 hi, .slice ad2 m2 m2, .string fs]) := by show _ = _; unfold rowA; rw [hnm, hrs, hkb, hlo, hhi, hfs]
    have HKb := hidK hkb
    rw [hnm, hrs, hkb, hlo, hhi, hfs]
    obtain ⟨V, hV, av, bv, sv⟩ := two_blk (w := Y) #[.string nm', .int .i64 rs, .int .u8 kb, .int .i64 lo, .int .i64 hi, .slice ad2 m2 m2, .string fs] 56
    obtain ⟨q, hq0⟩ : ∃ q, Y.heap.size = q := ⟨_, rfl⟩
    rw [hq0] at av
    have HVb : Hid (Below w.heap.size w V) := bst HY.out bv
    have HAv := hidK av
    have HV1 := hidK (kpO bv hb1)
    have HV2 := hidK (kpO bv hb2)
    have HWd : Hid (WordsAt V r.kd ad2 m2) := hw.below bv
    have HQq : Hid (Q2 < q) := by have h1 := HQ2.out.2; have h2 := HYs.out; show _ < _; omega
    have HVs : Hid (Q2 < V.heap.size) := by have h1 := HQ2.out.2; have h2 := HYs.out; have h3 := bv.size; show _ < _; omega
    have x0 := cell_at av 0
    have x1 := cell_at av 1
    have x2 := cell_at av 2
    have x3 := cell_at av 3
    have x4 := cell_at av 4
    have x5 := cell_at av 5
    have x6 := cell_at av 6
    have o0 := cell_at HV1.out 0
    have r0 := cell_at HV2.out 0
    have s0 := free_at HV2.out 0
    have HR := hidK hr
    have HPc := hidK hpc
    clear hpc hnm hrs hkb hlo hhi hfs av bv sv hb1 hb2 hw hr HY HYs
    by_cases hpc0 : pc = 0
    · subst hpc0
      have hkt := kb_flag (kd := r.kd)
      rw [HKb.out] at hkt
      have HSp := hidK (turnF_ok HR.out HPc.out L)
      cases ht : isFlag r.kd with
      | false =>
        rw [ht] at hkt
        have HRes : Hid (turnF L sc id nm = (L, 125)) := by show _ = _; rw [HSp.out, ht]; rfl
        clear ht
        go_wp2_with fail
        refine ret_docO rfl rfl (one_at HV2.out _) rfl ⟨.slice ad N cp, ?_⟩
        rw [HRes.out]
        exact DocP.same (HN.out ▸ HV.out) rfl (HVb.out.setCell HQ2.out.1 _)
      | true =>
        rw [ht] at hkt
        have HNo : Hid (∀ X, Below V.heap.size V X → Calls Tryz.prog 55 #[.agg #[.slice ad N cp], .int .i64 sc, .int .i64 id, .agg #[.string nm', .int .i64 rs, .int .u8 kb, .int .i64 lo, .int .i64 hi, .slice ad2 m2 m2, .string fs]] X fun e w' => e = .returned (.string (nowF L sc id r)) ∧ Below X.heap.size X w') := fun X hX => by
          have := rNow_any (HV.out.below (bst HVb.out hX)) HLen.out sc id r ad2 m2
          rw [HN.out, HRw.out] at this
          exact this
        have HRz : Hid (turnF L sc id nm = setF L sc id nm (if nowF L sc id r = onT then offT else onT)) := by
          show _ = _
          rw [setF_ok HR.out HPc.out]
          unfold turnF
          rw [HR.out]
          dsimp only
          rw [if_neg (fun q => q HPc.out), if_pos ht]
        obtain ⟨nv, hnv⟩ : ∃ x, nowF L sc id r = x := ⟨_, rfl⟩
        rw [hnv] at HRz HNo
        clear ht
        go_wp2_with fail
        refine (HNo.out _ (Below.refl _ _)).mono ?_
        rintro e Y2 ⟨rfl, hb⟩
        have HBv := hidK hb
        have HY1 := hidK (kpO hb HV1.out)
        have HY2 := hidK (kpO hb HV2.out)
        clear hb x0 x1 x2 x3 x4 x5 x6 o0 r0 s0
        have o0 := cell_at HY1.out 0
        have r0 := cell_at HY2.out 0
        have s0 := free_at HY2.out 0
        by_cases hon : nv = onT
        · have hb1 : (nv.toList == [111, 110]) = true := by rw [hon, Lib.toList_data]; rfl
          have HRes : Hid (turnF L sc id nm = setF L sc id nm offT) := by show _ = _; rw [HRz.out, if_pos hon]
          have HSet : Hid (∀ X, Below V.heap.size V X → Calls Tryz.prog 27 #[.agg #[.slice ad N cp], .int .i64 sc, .int .i64 id, .string nm, .string offT] X fun e w' => ∃ v' L' c', setF L sc id nm offT = (L', c') ∧ e = .returned (.tuple #[.agg #[v'], .int .i64 c']) ∧ SeeE w' v' L' ∧ Below X.heap.size X w') := fun X hX => by
            have := rSet_any (HV.out.below (bst HVb.out hX)) HLen.out sc id nm offT (by decide)
            rw [HN.out] at this
            exact this.mono fun e w' ⟨v', h⟩ => ⟨v', _, _, rfl, h.told, h.see, h.below⟩
          clear hnv hon
          unfold offT at HSet HRes
          go_wp2_with fail
          refine (HSet.out _ HBv.out).mono ?_
          rintro e Z2 ⟨v2, L', c', heq, rfl, hs, hz⟩
          have HEq := hidK heq
          have HBx := hidK (bst HVb.out (bst HBv.out hz))
          have HZ2 := hidK (kpO hz HY2.out)
          obtain ⟨a2, c2, rfl⟩ := hs.shape'
          have HSee := hidK hs
          clear hz heq hs r0 s0
          have r0 := cell_at HZ2.out 0
          have s0 := free_at HZ2.out 0
          go_wp2_with fail
          refine ret_docO rfl rfl (one_at HZ2.out _) rfl ⟨.slice a2 L'.length c2, ?_⟩
          rw [HRes.out, HEq.out]
          exact ⟨rfl, HSee.out.far HZ2.out _, HBx.out.setCell HQ2.out.1 _⟩
        · have hb1 : (nv.toList == [111, 110]) = false := by
            rw [beq_eq_false_iff_ne]
            intro q
            apply hon
            rw [Lib.toList_data] at q
            exact ByteArray.ext (Array.ext' q)
          have HRes : Hid (turnF L sc id nm = setF L sc id nm onT) := by show _ = _; rw [HRz.out, if_neg hon]
          have HSet : Hid (∀ X, Below V.heap.size V X → Calls Tryz.prog 27 #[.agg #[.slice ad N cp], .int .i64 sc, .int .i64 id, .string nm, .string onT] X fun e w' => ∃ v' L' c', setF L sc id nm onT = (L', c') ∧ e = .returned (.tuple #[.agg #[v'], .int .i64 c']) ∧ SeeE w' v' L' ∧ Below X.heap.size X w') := fun X hX => by
            have := rSet_any (HV.out.below (bst HVb.out hX)) HLen.out sc id nm onT (by decide)
            rw [HN.out] at this
            exact this.mono fun e w' ⟨v', h⟩ => ⟨v', _, _, rfl, h.told, h.see, h.below⟩
          clear hnv hon
          unfold onT at HSet HRes
          go_wp2_with fail
          refine (HSet.out _ HBv.out).mono ?_
          rintro e Z2 ⟨v2, L', c', heq, rfl, hs, hz⟩
          have HEq := hidK heq
          have HBx := hidK (bst HVb.out (bst HBv.out hz))
          have HZ2 := hidK (kpO hz HY2.out)
          obtain ⟨a2, c2, rfl⟩ := hs.shape'
          have HSee := hidK hs
          clear hz heq hs r0 s0
          have r0 := cell_at HZ2.out 0
          have s0 := free_at HZ2.out 0
          go_wp2_with fail
          refine ret_docO rfl rfl (one_at HZ2.out _) rfl ⟨.slice a2 L'.length c2, ?_⟩
          rw [HRes.out, HEq.out]
          exact ⟨rfl, HSee.out.far HZ2.out _, HBx.out.setCell HQ2.out.1 _⟩
    · have hpc1 : (pc == 0) = false := by simpa using hpc0
      have HRes := hidK (turnF_no HPc.out hpc0 L)
      clear hpc0
      go_wp2_with fail
      refine ret_docO rfl rfl (one_at HV2.out _) rfl ⟨.slice ad N cp, ?_⟩
      rw [HRes.out]
      exact DocP.same (HN.out ▸ HV.out) rfl (HVb.out.setCell HQ2.out.1 _)
  · have HRes := hidK (turnF_no (sc := sc) (id := id) (nm := nm) (c := 230) (by unfold placeF; rw [hr]) (by decide) L)
    obtain ⟨V, hV, av, bv, sv⟩ := two_blk (w := Y) #[.string ⟨#[]⟩, .int .i64 0, .int .u8 0, .int .i64 0, .int .i64 0, .slice none 0 0, .string ⟨#[]⟩] 56
    obtain ⟨q, hq0⟩ : ∃ q, Y.heap.size = q := ⟨_, rfl⟩
    rw [hq0] at av
    have HVb : Hid (Below w.heap.size w V) := bst HY.out bv
    have HV1 := hidK (kpO bv hb1)
    have HV2 := hidK (kpO bv hb2)
    have hne : ¬ Q2 = q := by have h1 := HQ2.out.2; have h2 := HYs.out; omega
    have HQge : Hid (w.heap.size ≤ q) := by have h1 := HY.out.size; show _ ≤ _; omega
    have hne2 : ¬ q = Q2 := fun e => hne e.symm
    have hn1 : ¬ Q1 = q := by have h1 := HQ2.out.2; have h2 := HYs.out; have h3 := HQ12.out; omega
    have hn12 : ¬ q = Q1 := fun e => hn1 e.symm
    have uz0 := free_at av 0
    have x0 := cell_at av 0
    have uz1 := free_at av 1
    have x1 := cell_at av 1
    have uz2 := free_at av 2
    have x2 := cell_at av 2
    have uz3 := free_at av 3
    have x3 := cell_at av 3
    have uz4 := free_at av 4
    have x4 := cell_at av 4
    have uz5 := free_at av 5
    have x5 := cell_at av 5
    have uz6 := free_at av 6
    have x6 := cell_at av 6
    have o0 := cell_at HV1.out 0
    have r0 := cell_at HV2.out 0
    have s0 := free_at HV2.out 0
    clear av bv sv hb1 hb2 hr HY HYs
    go_wp2_with fail
    refine ret_docO rfl rfl (one_at (seven_other HV2.out hne _ _ _ _ _ _ _) _) rfl ⟨.slice ad N cp, ?_⟩
    rw [HRes.out]
    exact DocP.same (HN.out ▸ HV.out) rfl ((seven_below HVb.out HQge.out _ _ _ _ _ _ _).setCell HQ2.out.1 _)
end Go.Proofs.YtgdkpmfdpfjdjaaGreatDoor

namespace Go.Proofs.YtgdkpmfdpfjdjaaGreatDoor
open Go.RowKit
set_option linter.unusedVariables false
set_option maxRecDepth 100000

/-- What one row has for a thing. -/
def locE (L : List Ent) (sc id : Int) (r : Orow) : Option Ent := (atF L sc id r.name).map fun v => ⟨sc, id, r.name, v⟩
theorem localF_is (L : List Ent) (sc id : Int) : localF L sc id = rowsO.filterMap (locE L sc id) := rfl
theorem loc_step {L : List Ent} {sc id : Int} {n : Nat} {r : Orow} (h : rowsO.take (n + 1) = rowsO.take n ++ [r]) : (rowsO.take (n + 1)).filterMap (locE L sc id) = (rowsO.take n).filterMap (locE L sc id) ++ (locE L sc id r).toList := by
  rw [h, List.filterMap_append]
  cases q : locE L sc id r <;> simp [q]
set_option maxHeartbeats 16000000 in
theorem rLocal_any {w : World} {v : Value} {L : List Ent} (hv : SeeE w v L) (hlen : L.length ≤ 1000000) (sc id : Int) :
    Calls Tryz.prog 36 #[.agg #[v], .int .i64 sc, .int .i64 id] w fun e w' => ∃ v', e = .returned v' ∧ SeeE w' v' (localF L sc id) ∧ Below w.heap.size w w' := by
  obtain ⟨ad, cp, rfl⟩ := hv.shape'
  obtain ⟨N, hN⟩ : ∃ N, L.length = N := ⟨_, rfl⟩
  rw [hN] at hv hlen ⊢
  obtain ⟨W1, hW1, a1, b1, s1⟩ := two_blk (w := w) #[.slice ad N cp] 34
  obtain ⟨Q1, hQ1⟩ : ∃ Q, w.heap.size = Q := ⟨_, rfl⟩
  rw [hQ1] at a1
  have HB := hidK b1
  have HA := hidK a1
  have HR := hidK (rows_any W1)
  have HAt : Hid (∀ X nm, Below W1.heap.size W1 X → Calls Tryz.prog 25 #[.agg #[.slice ad N cp], .int .i64 sc, .int .i64 id, .string nm] X fun e w' => e = .returned (.tuple #[.string ((atF L sc id nm).getD ⟨#[]⟩), .bool (atF L sc id nm).isSome]) ∧ Below X.heap.size X w') := fun X nm hX => by
    have := rAt_any ((hN ▸ hv.below b1).below hX) (by omega) sc id nm
    rw [hN] at this
    exact this
  have h1s : Hid (w.heap.size ≤ W1.heap.size) := by show _ ≤ _; omega
  clear hv a1 b1 s1 hlen hN
  go_enter Tryz.func36, Tryz.ntmps36
  go_wp2_with fail
  refine HR.out.mono ?_
  rintro e w1 ⟨rfl, hd, hb⟩
  obtain ⟨b, hbe⟩ : ∃ b, W1.heap.size = b := ⟨_, rfl⟩
  rw [hbe] at hd ⊢
  have HD := hidK hd
  have HBw : Hid (Below W1.heap.size W1 w1) := hb
  have HA1 := hidK (kpO hb HA.out)
  clear hd hb hW1 hQ1 HR hbe
  go_wp2_with fail
  go_loopw [7, 9] (fun lv iv wr => ∃ k : Nat, k ≤ 22 ∧ iv = .int .i64 k ∧ Hid (Below w1.heap.size w1 wr) ∧ Hid (EntsAt wr w1.heap.size lv ((rowsO.take k).filterMap (locE L sc id)))) (fun _ iv _ => 22 - (intOf iv).toNat)
  case atStart => exact ⟨0, Nat.zero_le _, rfl, Below.refl _ _, EntsAt.nil _ _⟩
  case round =>
    obtain ⟨k, hk, rfl, HW, HO⟩ := hrel
    by_cases hlt : k < 22
    · have hi : k < rowsO.length := by rw [rows_22]; exact hlt
      have i1 : (k : Int) < 22 := by omega
      obtain ⟨r, hr⟩ : ∃ r, rowsO[k]'hi = r := ⟨_, rfl⟩
      have HTk := hidK (List.take_succ_eq_append_getElem hi)
      rw [hr] at HTk
      have HC0 : Hid (∀ X, Below w1.heap.size w1 X → X.cell? ⟨b + 1 + 1 + 1, k * 7, none⟩ = some (.string r.name)) := fun X hX => by
        obtain ⟨kb, lo, hi', ad, m, hu⟩ := docV_is (wpO b k) r
        have h0 : w1.cell? ⟨b + 1 + 1 + 1, k * 7 + 0, none⟩ = (docV (wpO b k) r)[0]? := by rw [← hr]; exact HD.out.cell hi (by decide)
        rw [hu] at h0
        exact (hX.cell (World.block_lt_of_cell? w1 _ h0)).trans h0
      obtain ⟨nm, hnm⟩ : ∃ x, r.name = x := ⟨_, rfl⟩
      rw [hnm] at HC0
      have HNm := hidK hnm
      obtain ⟨av, hav⟩ : ∃ x, atF L sc id nm = x := ⟨_, rfl⟩
      have HAv := hidK hav
      have HC : Hid (∀ X, Below w1.heap.size w1 X → Calls Tryz.prog 25 #[.agg #[.slice ad N cp], .int .i64 sc, .int .i64 id, .string nm] X fun e w' => e = .returned (.tuple #[.string (av.getD ⟨#[]⟩), .bool av.isSome]) ∧ Below X.heap.size X w') := fun X hX => by
        have := HAt.out X nm (bst HBw.out hX)
        rw [hav] at this
        exact this
      have HS : Hid (∀ X, Below w1.heap.size w1 X → X.cell? ⟨Q1, 0, none⟩ = some (.slice ad N cp) ∧ X.cell? ⟨b + 1 + 1 + 1, k * 7, none⟩ = some (.string nm)) := fun X hX => ⟨cell_at (kpO hX HA1.out) 0, HC0.out X hX⟩
      have HBx := hidK HW.out
      clear hr hnm hav HC0 hi
      go_upto_region 6 with fail
      go_cut [10, 11] (fun xv bv X => xv = .string (av.getD ⟨#[]⟩) ∧ bv = .bool av.isSome ∧ Hid (Below w1.heap.size w1 X) ∧ Hid (Below wr.heap.size wr X))
      case first =>
        have HBr := hidK (Below.refl wr.heap.size wr)
        refine wp_region_held_drew (S := (fun X => X.cell? ⟨Q1, 0, none⟩ = some (.slice ad N cp) ∧ X.cell? ⟨b + 1 + 1 + 1, k * 7, none⟩ = some (.string nm))) (by kernel_rfl) ?sA (fun hHeld => ?_)
        case sA => ((try dsimp only); exact HS.out _ (by first | exact HBx.out | exact HBx.out.drew))
        have HBn := hidK HBx.out.drew
        clear HBx
        have HBx := hidK HBn.out
        clear HBn
        have HBm := hidK HBr.out.drew
        clear HBr
        have HBr := hidK HBm.out
        clear HBm
        refine wpAnyH_take (i := 0) (oi := { dst := some 20, op := Op.load 34 (Operand.tmp 3), type := 34, pos := "ref.go:236", after := #[], guard := none }) (v := ?vA0n1) rfl (by kernel_rfl) (by kernel_rfl) (by kernel_rfl) (fun _ _ _ h => h) (Or.inl ⟨by rfl, ?yA0n1⟩) (by assumption) ?rA0n1
        case yA0n1 => (intro w hSw; (try dsimp only at hSw); first | (go_simp; done) | (go_simp; with_reducible rfl))
        try simp only [Act.put, List.setIfInBounds_toArray, List.set_cons_zero, List.set_cons_succ]
        refine wpAnyH_take (i := 1) (oi := { dst := some 21, op := Op.move (Operand.tmp 1), type := 3, pos := "ref.go:236", after := #[], guard := none }) (v := ?vA1n2) rfl (by kernel_rfl) (by kernel_rfl) (by kernel_rfl) (fun _ _ _ h => h) (Or.inl ⟨by rfl, ?yA1n2⟩) (by assumption) ?rA1n2
        case yA1n2 => (intro w hSw; (try dsimp only at hSw); first | (go_simp; done) | (go_simp; with_reducible rfl))
        try simp only [Act.put, List.setIfInBounds_toArray, List.set_cons_zero, List.set_cons_succ]
        refine wpAnyH_take (i := 2) (oi := { dst := some 22, op := Op.move (Operand.tmp 2), type := 3, pos := "ref.go:236", after := #[], guard := none }) (v := ?vA2n3) rfl (by kernel_rfl) (by kernel_rfl) (by kernel_rfl) (fun _ _ _ h => h) (Or.inl ⟨by rfl, ?yA2n3⟩) (by assumption) ?rA2n3
        case yA2n3 => (intro w hSw; (try dsimp only at hSw); first | (go_simp; done) | (go_simp; with_reducible rfl))
        try simp only [Act.put, List.setIfInBounds_toArray, List.set_cons_zero, List.set_cons_succ]
        refine wpAnyH_take (i := 3) (oi := { dst := some 23, op := Op.move (Operand.tmp 8), type := 53, pos := "ref.go:236", after := #[], guard := none }) (v := ?vA3n4) rfl (by kernel_rfl) (by kernel_rfl) (by kernel_rfl) (fun _ _ _ h => h) (Or.inl ⟨by rfl, ?yA3n4⟩) (by assumption) ?rA3n4
        case yA3n4 => (intro w hSw; (try dsimp only at hSw); first | (go_simp; done) | (go_simp; with_reducible rfl))
        try simp only [Act.put, List.setIfInBounds_toArray, List.set_cons_zero, List.set_cons_succ]
        refine wpAnyH_take (i := 4) (oi := { dst := some 24, op := Op.move (Operand.tmp 9), type := 3, pos := "ref.go:236", after := #[], guard := none }) (v := ?vA4n5) rfl (by kernel_rfl) (by kernel_rfl) (by kernel_rfl) (fun _ _ _ h => h) (Or.inl ⟨by rfl, ?yA4n5⟩) (by assumption) ?rA4n5
        case yA4n5 => (intro w hSw; (try dsimp only at hSw); first | (go_simp; done) | (go_simp; with_reducible rfl))
        try simp only [Act.put, List.setIfInBounds_toArray, List.set_cons_zero, List.set_cons_succ]
        refine wpAnyH_take (i := 5) (oi := { dst := some 25, op := Op.indexAddr 53 (Operand.tmp 23) (Operand.tmp 24), type := 0, pos := "ref.go:236", after := #[{ on := 3, ground := Ground.data }, { on := 4, ground := Ground.data }], guard := none }) (v := ?vA5n6) rfl (by kernel_rfl) (by kernel_rfl) (by kernel_rfl) (fun _ _ _ h => h) (Or.inl ⟨by rfl, ?yA5n6⟩) (by assumption) ?rA5n6
        case yA5n6 => (intro w hSw; (try dsimp only at hSw); first | (go_simp; done) | (go_simp; with_reducible rfl))
        try simp only [Act.put, List.setIfInBounds_toArray, List.set_cons_zero, List.set_cons_succ]
        refine wpAnyH_take (i := 6) (oi := { dst := some 26, op := Op.fieldAddr 56 (Operand.tmp 25) 0, type := 0, pos := "ref.go:236", after := #[{ on := 5, ground := Ground.data }], guard := none }) (v := ?vA6n7) rfl (by kernel_rfl) (by kernel_rfl) (by kernel_rfl) (fun _ _ _ h => h) (Or.inl ⟨by rfl, ?yA6n7⟩) (by assumption) ?rA6n7
        case yA6n7 => (intro w hSw; (try dsimp only at hSw); first | (go_simp; done) | (go_simp; with_reducible rfl))
        try simp only [Act.put, List.setIfInBounds_toArray, List.set_cons_zero, List.set_cons_succ]
        refine wpAnyH_take (i := 7) (oi := { dst := some 27, op := Op.load 9 (Operand.tmp 26), type := 9, pos := "ref.go:236", after := #[{ on := 6, ground := Ground.data }], guard := none }) (v := ?vA7n8) rfl (by kernel_rfl) (by kernel_rfl) (by kernel_rfl) (fun _ _ _ h => h) (Or.inl ⟨by rfl, ?yA7n8⟩) (by assumption) ?rA7n8
        case yA7n8 => (intro w hSw; (try dsimp only at hSw); first | (go_simp; done) | (go_simp; with_reducible rfl))
        try simp only [Act.put, List.setIfInBounds_toArray, List.set_cons_zero, List.set_cons_succ]
        refine wpAnyH_ready (rs := [8]) (by kernel_rfl) (by simp) (AllReadyH.cons (o := { dst := some 28, op := Op.call { callee := Callee.value (Operand.func 25), args := #[Operand.tmp 20, Operand.tmp 21, Operand.tmp 22, Operand.tmp 27], argTypes := #[34, 3, 3, 9] }, type := 74, pos := "ref.go:236", after := #[{ on := 0, ground := Ground.data }, { on := 1, ground := Ground.data }, { on := 2, ground := Ground.data }, { on := 7, ground := Ground.data }], guard := none }) rfl (fun K hK => ?bAn9q0) AllReadyH.nil)
        go_simp
        go_wp2_with (refine (HC.out _ HBx.out).mono ?_; rintro e Z ⟨rfl, hb⟩; have HBn := hidK (bst HBx.out hb); have HBm := hidK (bst HBr.out hb); clear hb HBx HBr; have HBx := hidK HBn.out; have HBr := hidK HBm.out; clear HBn HBm)
        refine hK.out _ _ ?kAn9o8 (fun hHeld9 => ?_)
        case kAn9o8 => ((try dsimp only); exact HS.out _ (by first | exact HBx.out | exact HBx.out.drew))
        clear hK K
        try simp only [Act.put, List.setIfInBounds_toArray, List.set_cons_zero, List.set_cons_succ]
        refine wpAnyH_take (i := 9) (oi := { dst := some 19, op := Op.move (Operand.tmp 28), type := 74, pos := "ref.go:236", after := #[{ on := 8, ground := Ground.data }], guard := none }) (v := ?vA9n10) rfl (by kernel_rfl) (by kernel_rfl) (by kernel_rfl) (fun _ _ _ h => h) (Or.inl ⟨by rfl, ?yA9n10⟩) (by assumption) ?rA9n10
        case yA9n10 => (intro w hSw; (try dsimp only at hSw); first | (go_simp; done) | (go_simp; with_reducible rfl))
        try simp only [Act.put, List.setIfInBounds_toArray, List.set_cons_zero, List.set_cons_succ]
        refine wpAnyH_take (i := 10) (oi := { dst := some 29, op := Op.extract (Operand.tmp 19) 0, type := 9, pos := "ref.go:236", after := #[{ on := 9, ground := Ground.data }], guard := none }) (v := ?vA10n11) rfl (by kernel_rfl) (by kernel_rfl) (by kernel_rfl) (fun _ _ _ h => h) (Or.inl ⟨by rfl, ?yA10n11⟩) (by assumption) ?rA10n11
        case yA10n11 => (intro w hSw; (try dsimp only at hSw); first | (go_simp; done) | (go_simp; with_reducible rfl))
        try simp only [Act.put, List.setIfInBounds_toArray, List.set_cons_zero, List.set_cons_succ]
        refine wpAnyH_take (i := 11) (oi := { dst := some 30, op := Op.extract (Operand.tmp 19) 1, type := 4, pos := "ref.go:236", after := #[{ on := 9, ground := Ground.data }, { on := 12, ground := Ground.gcOnly Departure.lateStores }], guard := none }) (v := ?vA11n12) rfl (by kernel_rfl) (by kernel_rfl) (by kernel_rfl) (fun _ _ _ h => h) (Or.inl ⟨by rfl, ?yA11n12⟩) (by assumption) ?rA11n12
        case yA11n12 => (intro w hSw; (try dsimp only at hSw); first | (go_simp; done) | (go_simp; with_reducible rfl))
        try simp only [Act.put, List.setIfInBounds_toArray, List.set_cons_zero, List.set_cons_succ]
        refine wpAnyH_take (i := 12) (oi := { dst := some 10, op := Op.assign (Operand.tmp 29), type := 9, pos := "ref.go:236", after := #[{ on := 10, ground := Ground.data }, { on := 8, ground := Ground.chain }, { on := 0, ground := Ground.phase }, { on := 1, ground := Ground.phase }, { on := 2, ground := Ground.phase }, { on := 3, ground := Ground.phase }, { on := 4, ground := Ground.phase }, { on := 5, ground := Ground.phase }, { on := 6, ground := Ground.phase }, { on := 7, ground := Ground.phase }, { on := 8, ground := Ground.phase }, { on := 9, ground := Ground.phase }, { on := 10, ground := Ground.phase }, { on := 11, ground := Ground.textOnly Departure.lateStores }], guard := none }) (v := ?vA12n13) rfl (by kernel_rfl) (by kernel_rfl) (by kernel_rfl) (fun _ _ _ h => h) (Or.inl ⟨by rfl, ?yA12n13⟩) (by assumption) ?rA12n13
        case yA12n13 => (intro w hSw; (try dsimp only at hSw); first | (go_simp; done) | (go_simp; with_reducible rfl))
        try simp only [Act.put, List.setIfInBounds_toArray, List.set_cons_zero, List.set_cons_succ]
        refine wpAnyH_take (i := 13) (oi := { dst := some 11, op := Op.assign (Operand.tmp 30), type := 4, pos := "ref.go:236", after := #[{ on := 11, ground := Ground.data }, { on := 12, ground := Ground.chain }, { on := 0, ground := Ground.phase }, { on := 1, ground := Ground.phase }, { on := 2, ground := Ground.phase }, { on := 3, ground := Ground.phase }, { on := 4, ground := Ground.phase }, { on := 5, ground := Ground.phase }, { on := 6, ground := Ground.phase }, { on := 7, ground := Ground.phase }, { on := 8, ground := Ground.phase }, { on := 9, ground := Ground.phase }, { on := 10, ground := Ground.phase }, { on := 11, ground := Ground.phase }, { on := 12, ground := Ground.phase }], guard := none }) (v := ?vA13n14) rfl (by kernel_rfl) (by kernel_rfl) (by kernel_rfl) (fun _ _ _ h => h) (Or.inl ⟨by rfl, ?yA13n14⟩) (by assumption) ?rA13n14
        case yA13n14 => (intro w hSw; (try dsimp only at hSw); first | (go_simp; done) | (go_simp; with_reducible rfl))
        try simp only [Act.put, List.setIfInBounds_toArray, List.set_cons_zero, List.set_cons_succ]
        refine wpAnyH_done (by kernel_rfl) ?_ _
        go_wp2_with fail
        go_meet
        case rel => exact ⟨rfl, rfl, HBx.out, HBr.out⟩
      case rest =>
        obtain ⟨rfl, rfl, HX, HXr⟩ := hcut
        have HOx := hidK (HO.out.below HXr.out)
        have hlo : ((rowsO.take k).filterMap (locE L sc id)).length ≤ 1000000 := by
          have h1 := List.length_filterMap_le (locE L sc id) (rowsO.take k)
          have h2 := List.length_take_le k rowsO
          omega
        have p0 := (HS.out _ HX.out).2
        cases av with
        | some y =>
          have HF : Hid ((rowsO.take (k + 1)).filterMap (locE L sc id) = (rowsO.take k).filterMap (locE L sc id) ++ [⟨sc, id, nm, y⟩]) := by
            show _ = _
            rw [loc_step HTk.out]
            unfold locE
            rw [HNm.out, HAv.out]
            rfl
          go_wp2_with (at_builtin; refine wpList_append_ent _ rfl (.tmp 32) (.tmp 42) rfl w1.heap.size _ ((rowsO.take k).filterMap (locE L sc id)) rfl (HOx.out.below ((Below.refl _ _).alloc (Nat.le_refl _) _)) wc.heap.size ⟨sc, id, nm, y⟩ rfl (heap_alloc_new wc _) ?x1 ?x2 ?_; (case x1 => omega); (case x2 => have h1 := HX.out.size; simp; omega); intro v6 w6 ho6 hg6; have HO6 := hidK ho6; have HG6 : Hid (Below w1.heap.size w1 w6) := (HX.out.alloc HX.out.size _).grown hg6 (by have h1 := HX.out.size; simp; omega) (fun j hj => (HOx.out.blk hj).1); clear ho6 hg6)
          go_roundw
          case rel => exact ⟨k + 1, by omega, by go_num, HG6.out, by rw [HF.out]; exact HO6.out⟩
          case measure => simp [intOf]; omega
        | none =>
          have HF : Hid ((rowsO.take (k + 1)).filterMap (locE L sc id) = (rowsO.take k).filterMap (locE L sc id)) := by
            show _ = _
            rw [loc_step HTk.out]
            unfold locE
            rw [HNm.out, HAv.out]
            simp
          go_wp2_with fail
          go_roundw
          case rel => exact ⟨k + 1, by omega, by go_num, HX.out, by rw [HF.out]; exact HOx.out⟩
          case measure => simp [intOf]; omega
    · have i1 : ¬ (k : Int) < 22 := by omega
      have HTa : Hid (rowsO.take k = rowsO) := List.take_of_length_le (by rw [rows_22]; omega)
      go_wp2_with fail
      go_ret
      refine ⟨_, rfl, ?_, bst HB.out (bst HBw.out HW.out)⟩
      have h := HO.out.see
      rw [HTa.out] at h
      exact h
end Go.Proofs.YtgdkpmfdpfjdjaaGreatDoor

namespace Go.Proofs.YtgdkpmfdpfjdjaaGreatDoor
open Go.RowKit Go.Maps
set_option linter.unusedVariables false
set_option maxRecDepth 100000

theorem unsetF_no {sc id : Int} {nm : ByteArray} {c : Int} (hp : placeF sc id nm = c) (hc : c ≠ 0) (L : List Ent) : unsetF L sc id nm = (L, c) := by
  unfold unsetF
  rw [hp, if_pos hc]
set_option maxHeartbeats 16000000 in
theorem rUnset_any {w : World} {v : Value} {L : List Ent} (hv : SeeE w v L) (hlen : L.length ≤ 1000000) (sc id : Int) (nm : ByteArray) :
    Calls Tryz.prog 33 #[.agg #[v], .int .i64 sc, .int .i64 id, .string nm] w fun e w' => ∃ v', DocP w (unsetF L sc id nm) v' e w' := by
  obtain ⟨ad, cp, rfl⟩ := hv.shape'
  obtain ⟨N, hN⟩ : ∃ n, L.length = n := ⟨_, rfl⟩
  obtain ⟨W1, hW1, a1, b1, s1⟩ := two_blk (w := w) #[.slice ad N cp] 34
  obtain ⟨W2, hW2, a2, b2, s2⟩ := two_blk (w := W1) #[.slice none 0 0] 34
  obtain ⟨Q1, hQ1⟩ : ∃ q, w.heap.size = q := ⟨_, rfl⟩
  obtain ⟨Q2, hQ2⟩ : ∃ q, W1.heap.size = q := ⟨_, rfl⟩
  have HV := hidK hv
  rw [hN] at hv ⊢
  have HB : Hid (Below w.heap.size w W2) := bst b1 b2
  have HQ2 : Hid (w.heap.size ≤ Q2 ∧ Q2 < W2.heap.size) := by show _ ∧ _; omega
  have HQ12 : Hid (Q1 < Q2) := by show _ < _; omega
  rw [hQ1] at a1
  rw [hQ2] at a2
  have HA1 := hidK (kpO b2 a1)
  have HA2 := hidK a2
  have HP := hidK (rPlace_any sc id nm W2)
  have HN := hidK hN
  have HLen := hidK hlen
  clear a1 a2 b1 b2 s1 s2 hv hN hlen
  go_enter Tryz.func33, Tryz.ntmps33
  go_wp2_with fail
  clear hW1 hW2 hQ1 hQ2
  refine HP.out.mono ?_
  rintro e Y hp
  have HY : Hid (Below w.heap.size w Y) := bst HB.out hp.below
  have HYs : Hid (W2.heap.size ≤ Y.heap.size) := hp.below.size
  have hb1 := kpO hp.below HA1.out
  have hb2 := kpO hp.below HA2.out
  have ht := hp.told
  clear hp HP HB HA1 HA2
  rcases ht with ⟨r, ad2, m2, hr, hw, rfl⟩ | ⟨hr, rfl⟩
  · obtain ⟨pc, hpc⟩ : ∃ x, placeF sc id nm = x := ⟨_, rfl⟩
    rw [hpc]
    unfold rowA
    obtain ⟨nm', hnm⟩ : ∃ x, r.name = x := ⟨_, rfl⟩
    obtain ⟨rs, hrs⟩ : ∃ x, r.scope = x := ⟨_, rfl⟩
    obtain ⟨kb, hkb⟩ : ∃ x, kbOf r.kd = x := ⟨_, rfl⟩
    obtain ⟨lo, hlo⟩ : ∃ x, loOf r.kd = x := ⟨_, rfl⟩
    obtain ⟨hi, hhi⟩ : ∃ x, hiOf r.kd = x := ⟨_, rfl⟩
    obtain ⟨fs, hfs⟩ : ∃ x, r.first = x := ⟨_, rfl⟩
    have HRw : Hid (rowA r ad2 m2 = .agg #[.string nm', .int .i64 rs, .int .u8 kb, .int .i64 lo, .int .i64 hi, .slice ad2 m2 m2, .string fs]) := by show _ = _; unfold rowA; rw [hnm, hrs, hkb, hlo, hhi, hfs]
    have HKb := hidK hkb
    rw [hnm, hrs, hkb, hlo, hhi, hfs]
    obtain ⟨V, hV, av, bv, sv⟩ := two_blk (w := Y) #[.string nm', .int .i64 rs, .int .u8 kb, .int .i64 lo, .int .i64 hi, .slice ad2 m2 m2, .string fs] 56
    obtain ⟨q, hq0⟩ : ∃ q, Y.heap.size = q := ⟨_, rfl⟩
    rw [hq0] at av
    have HVb : Hid (Below w.heap.size w V) := bst HY.out bv
    have HAv := hidK av
    have HV1 := hidK (kpO bv hb1)
    have HV2 := hidK (kpO bv hb2)
    have HWd : Hid (WordsAt V r.kd ad2 m2) := hw.below bv
    have HVs : Hid (Q2 < V.heap.size) := by have h1 := HQ2.out.2; have h2 := HYs.out; have h3 := bv.size; show _ < _; omega
    have x0 := cell_at av 0
    have x1 := cell_at av 1
    have x2 := cell_at av 2
    have x3 := cell_at av 3
    have x4 := cell_at av 4
    have x5 := cell_at av 5
    have x6 := cell_at av 6
    have o0 := cell_at HV1.out 0
    have r0 := cell_at HV2.out 0
    have s0 := free_at HV2.out 0
    have HR := hidK hr
    have HPc := hidK hpc
    clear hpc hnm hrs hkb hlo hhi hfs av bv sv hb1 hb2 hw hr HY HYs
    by_cases hpc0 : pc = 0
    · subst hpc0
      have HRes : Hid (unsetF L sc id nm = (L.filter (offB sc id nm), 0)) := by show unsetF _ _ _ _ = _; unfold unsetF; rw [if_neg (fun q => q HPc.out)]
      have HWo : Hid (Calls Tryz.prog 53 #[.agg #[.slice ad N cp], .int .i64 sc, .int .i64 id, .string nm] V fun e w' => ∃ v', e = .returned (.agg #[v']) ∧ EntsAt w' V.heap.size v' (L.filter (offB sc id nm)) ∧ Below V.heap.size V w') := by
        have := rWithout_any (HV.out.below HVb.out) HLen.out sc id nm
        rw [HN.out] at this
        exact this
      go_wp2_with fail
      refine HWo.out.mono ?_
      rintro e Z ⟨xv, rfl, hown, hbz⟩
      obtain ⟨xa, xc, rfl⟩ := hown.slice
      obtain ⟨xn, hxn⟩ : ∃ n, (L.filter (offB sc id nm)).length = n := ⟨_, rfl⟩
      have HOw := hidK hown
      rw [hxn] at HOw ⊢
      have HZ2 := hidK (kpO hbz HV2.out)
      have HZb := hidK (bst HVb.out hbz)
      clear o0 r0 s0 hbz hown hxn x0 x1 x2 x3 x4 x5 x6
      have r0 := cell_at HZ2.out 0
      have s0 := free_at HZ2.out 0
      go_wp2_with fail
      refine ret_docO rfl rfl (one_at HZ2.out _) rfl ⟨.slice xa xn xc, ?_⟩
      rw [HRes.out]
      exact ⟨rfl, (HOw.out.far HZ2.out _).see, HZb.out.setCell HQ2.out.1 _⟩
    · have hpc1 : (pc == 0) = false := by simpa using hpc0
      have HRes := hidK (unsetF_no HPc.out hpc0 L)
      clear hpc0
      go_wp2_with fail
      refine ret_docO rfl rfl (one_at HV2.out _) rfl ⟨.slice ad N cp, ?_⟩
      rw [HRes.out]
      exact DocP.same (HN.out ▸ HV.out) rfl (HVb.out.setCell HQ2.out.1 _)
  · have HRes := hidK (unsetF_no (sc := sc) (id := id) (nm := nm) (c := 230) (by unfold placeF; rw [hr]) (by decide) L)
    obtain ⟨V, hV, av, bv, sv⟩ := two_blk (w := Y) #[.string ⟨#[]⟩, .int .i64 0, .int .u8 0, .int .i64 0, .int .i64 0, .slice none 0 0, .string ⟨#[]⟩] 56
    obtain ⟨q, hq0⟩ : ∃ q, Y.heap.size = q := ⟨_, rfl⟩
    rw [hq0] at av
    have HVb : Hid (Below w.heap.size w V) := bst HY.out bv
    have HV1 := hidK (kpO bv hb1)
    have HV2 := hidK (kpO bv hb2)
    have hne : ¬ Q2 = q := by have h1 := HQ2.out.2; have h2 := HYs.out; omega
    have HQge : Hid (w.heap.size ≤ q) := by have h1 := HY.out.size; show _ ≤ _; omega
    have hne2 : ¬ q = Q2 := fun e => hne e.symm
    have hn1 : ¬ Q1 = q := by have h1 := HQ2.out.2; have h2 := HYs.out; have h3 := HQ12.out; omega
    have hn12 : ¬ q = Q1 := fun e => hn1 e.symm
    have uz0 := free_at av 0
    have x0 := cell_at av 0
    have uz1 := free_at av 1
    have x1 := cell_at av 1
    have uz2 := free_at av 2
    have x2 := cell_at av 2
    have uz3 := free_at av 3
    have x3 := cell_at av 3
    have uz4 := free_at av 4
    have x4 := cell_at av 4
    have uz5 := free_at av 5
    have x5 := cell_at av 5
    have uz6 := free_at av 6
    have x6 := cell_at av 6
    have o0 := cell_at HV1.out 0
    have r0 := cell_at HV2.out 0
    have s0 := free_at HV2.out 0
    clear av bv sv hb1 hb2 hr HY HYs
    go_wp2_with fail
    refine ret_docO rfl rfl (one_at (seven_other HV2.out hne _ _ _ _ _ _ _) _) rfl ⟨.slice ad N cp, ?_⟩
    rw [HRes.out]
    exact DocP.same (HN.out ▸ HV.out) rfl ((seven_below HVb.out HQge.out _ _ _ _ _ _ _).setCell HQ2.out.1 _)
end Go.Proofs.YtgdkpmfdpfjdjaaGreatDoor
