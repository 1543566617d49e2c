/-
  Binds, the document's Names: the least that is above the last one, again and again (pure).
  Binds, the document's Names.
-/
import Derived.Test.YtbonnjilbocldaaGreatDoorIA
import Derived.Test.YtbonnjilbocldaaGreatDoorIB
import Derived.Test.YtbonnjilbocldaaGreatDoorHJ
import Derived.Deep.DeepCutAuto
import Derived.Sort.Walk0
import Derived.Laws.Cover1
namespace Go.Proofs.YtbonnjilbocldaaGreatDoor
open Go.RowKit Go.Maps
set_option linter.unusedVariables false
set_option maxRecDepth 100000

theorem nameLt_total {a b : ByteArray} (h : ¬ nameLt a b) (k : ¬ nameLt b a) : a = b :=
  ByteArray.ext (Array.ext' (List.le_antisymm (List.not_lt.1 k) (List.not_lt.1 h)))
theorem word_some {t : ByteArray} (h : wordB t = true) : t ≠ ⟨#[]⟩ := fun e => by
  subst e
  have : wordB ⟨#[]⟩ = false := by kernel_rfl
  rw [this] at h
  cases h
theorem empty_lt {t : ByteArray} (h : t ≠ ⟨#[]⟩) : nameLt ⟨#[]⟩ t := by
  unfold nameLt
  cases q : t.data.toList
  · exact absurd (ByteArray.ext (Array.ext' q)) h
  · exact List.nil_lt_cons _ _
/-- The least of the first i that is above the last one. -/
structure Mnr (L : List Ent) (last next : ByteArray) (i : Nat) : Prop where
  no : next = ⟨#[]⟩ → ∀ x ∈ L.take i, ¬ nameLt last x.t
  yes : next ≠ ⟨#[]⟩ → nameLt last next ∧ (∃ x ∈ L.take i, x.t = next) ∧ ∀ x ∈ L.take i, nameLt last x.t → ¬ nameLt x.t next
theorem Mnr.start (L : List Ent) (last : ByteArray) : Mnr L last ⟨#[]⟩ 0 := ⟨fun _ x hx => by simp at hx, fun h => absurd rfl h⟩
theorem take_mem {L : List Ent} {i : Nat} (hi : i < L.length) {x : Ent} : x ∈ L.take (i + 1) ↔ x ∈ L.take i ∨ x = L[i] := by
  rw [List.take_succ_eq_append_getElem hi, List.mem_append, List.mem_singleton]
theorem Mnr.get {L : List Ent} {last next : ByteArray} {i : Nat} (h : Mnr L last next i) (hi : i < L.length) (hx : L[i].t ≠ ⟨#[]⟩) (h1 : nameLt last L[i].t) (h2 : next = ⟨#[]⟩ ∨ nameLt L[i].t next) : Mnr L last L[i].t (i + 1) := by
  refine ⟨fun e => absurd e hx, fun _ => ⟨h1, ⟨L[i], (take_mem hi).2 (.inr rfl), rfl⟩, fun x hxm hl => ?_⟩⟩
  rcases (take_mem hi).1 hxm with q | q
  · by_cases e : next = ⟨#[]⟩
    · exact absurd hl (h.no e x q)
    · rcases h2 with h2 | h2
      · exact absurd h2 e
      · exact fun z => (h.yes e).2.2 x q hl (nameLt_trans _ _ _ z h2)
  · subst q
    exact nameLt_irrefl _
theorem Mnr.keep {L : List Ent} {last next : ByteArray} {i : Nat} (h : Mnr L last next i) (hi : i < L.length) (hn : ¬ (nameLt last L[i].t ∧ (next = ⟨#[]⟩ ∨ nameLt L[i].t next))) : Mnr L last next (i + 1) := by
  refine ⟨fun e x hxm => ?_, fun e => ⟨(h.yes e).1, ?_, fun x hxm hl => ?_⟩⟩
  · rcases (take_mem hi).1 hxm with q | q
    · exact h.no e x q
    · subst q
      exact fun z => hn ⟨z, .inl e⟩
  · obtain ⟨x, hx, q⟩ := (h.yes e).2.1
    exact ⟨x, (take_mem hi).2 (.inl hx), q⟩
  · rcases (take_mem hi).1 hxm with q | q
    · exact (h.yes e).2.2 x q hl
    · subst q
      exact fun z => hn ⟨hl, .inr z⟩
/-- The names up to the last one. -/
structure Nmr (L : List Ent) (l : List ByteArray) (last : ByteArray) : Prop where
  up : l.Pairwise nameLt
  mem : ∀ t, t ∈ l ↔ (∃ e ∈ L, e.t = t) ∧ ¬ nameLt last t
theorem Nmr.start {L : List Ent} (h : ∀ e ∈ L, e.t ≠ ⟨#[]⟩) : Nmr L [] ⟨#[]⟩ := ⟨List.Pairwise.nil, fun t => by
  simp only [List.not_mem_nil, false_iff, not_and, Classical.not_not]
  rintro ⟨e, he, rfl⟩
  exact empty_lt (h e he)⟩
theorem Nmr.len {L : List Ent} {l : List ByteArray} {last : ByteArray} (h : Nmr L l last) : l.length ≤ L.length := by
  have := nodup_len (l := l) (es := L.map Ent.t) (h.up.imp fun {a b} q e => by subst e; exact nameLt_irrefl _ q) fun x hx => by
    obtain ⟨⟨e, he, q⟩, _⟩ := (h.mem x).1 hx
    exact List.mem_map.2 ⟨e, he, q⟩
  simpa using this
theorem Nmr.next {L : List Ent} {l : List ByteArray} {last next : ByteArray} {i : Nat} (h : Nmr L l last) (hm : Mnr L last next i) (hi : L.length ≤ i) (hn : next ≠ ⟨#[]⟩) : Nmr L (l ++ [next]) next := by
  obtain ⟨m1, ⟨x, hx, m2⟩, m3⟩ := hm.yes hn
  rw [List.take_of_length_le hi] at hx m3
  refine ⟨?_, fun t => ?_⟩
  · rw [List.pairwise_append]
    refine ⟨h.up, by simp, fun a ha b hb => ?_⟩
    rw [List.mem_singleton] at hb
    subst hb
    have h2 := ((h.mem a).1 ha).2
    by_cases q : nameLt a last
    · exact nameLt_trans _ _ _ q m1
    · rw [nameLt_total q h2]
      exact m1
  · rw [List.mem_append, List.mem_singleton, h.mem]
    constructor
    · rintro (⟨q1, q2⟩ | rfl)
      · refine ⟨q1, fun z => q2 (nameLt_trans _ _ _ m1 z)⟩
      · exact ⟨⟨x, hx, m2⟩, nameLt_irrefl _⟩
    · rintro ⟨⟨e, he, rfl⟩, q⟩
      by_cases z : nameLt last e.t
      · exact .inr (nameLt_total (m3 e he z) q)
      · exact .inl ⟨⟨e, he, rfl⟩, z⟩
theorem Nmr.done {D : DataW Unit} {L : List Ent} (hD : Dc D L) {l : List ByteArray} {last next : ByteArray} {i : Nat} (h : Nmr L l last) (hm : Mnr L last next i) (hi : L.length ≤ i) (hn : next = ⟨#[]⟩) : Nms D l := by
  have m := hm.no hn
  rw [List.take_of_length_le hi] at m
  refine ⟨h.up, fun t => (h.mem t).trans ⟨?_, ?_⟩⟩
  · rintro ⟨⟨e, he, q⟩, _⟩
    exact ⟨e, q, (hD.is.mem e).1 he⟩
  · rintro ⟨e, q, he⟩
    have := (hD.is.mem e).2 he
    exact ⟨⟨e, this, q⟩, by rw [← q]; exact m e this⟩
theorem Dc.names {D : DataW Unit} {L : List Ent} (hD : Dc D L) : ∀ e ∈ L, e.t ≠ ⟨#[]⟩ := fun e he => by
  obtain ⟨x, hx, hin, h1, _⟩ := hD.is.ok.keys e.k ((hD.is.mem e).1 he).has
  have := (Ent.k_inj hin.wf (hD.wf he) hx).1
  rw [← this]
  exact word_some h1
end Go.Proofs.YtbonnjilbocldaaGreatDoor

namespace Go.Proofs.YtbonnjilbocldaaGreatDoor
open Go.RowKit
set_option linter.unusedVariables false
set_option maxRecDepth 100000

theorem less_yes {a b : ByteArray} (h : nameLt a b) : Op.bytesLess a.toList b.toList = true := by
  rw [bytesLess_eq, Lib.toList_data, Lib.toList_data]
  exact decide_eq_true h
theorem less_no {a b : ByteArray} (h : ¬ nameLt a b) : Op.bytesLess a.toList b.toList = false := by
  rw [bytesLess_eq, Lib.toList_data, Lib.toList_data]
  exact decide_eq_false h
theorem gtr_yes {a b : ByteArray} (h : nameLt a b) : Op.bytesLess b.toList a.toList = false ∧ (b.toList == a.toList) = false := by
  refine ⟨less_no fun q => nameLt_irrefl _ (nameLt_trans _ _ _ h q), bytes_ne fun q => ?_⟩
  subst q
  exact nameLt_irrefl _ h
theorem gtr_is {a b : ByteArray} (h : nameLt a b) : (!(Op.bytesLess b.toList a.toList || b.toList == a.toList)) = true := by rw [(gtr_yes h).1, (gtr_yes h).2]; rfl
theorem gtr_no {a b : ByteArray} (h : ¬ nameLt a b) (hne : ¬ b = a) : Op.bytesLess b.toList a.toList = true := by
  refine less_yes ?_
  by_cases q : nameLt b a
  · exact q
  · exact absurd (nameLt_total q h) hne
instance decName (a b : ByteArray) : Decidable (nameLt a b) := inferInstanceAs (Decidable (a.data.toList < b.data.toList))
def lenV : Value → Nat
  | .slice _ n _ => n
  | _ => 0
/-- The names told so far, in memory. -/
structure Nr (W1 wr : World) (L : List Ent) (v : Value) (l : List ByteArray) (last : ByteArray) : Prop where
  own : NamsAt wr W1.heap.size v l
  nm : Nmr L l last
  below : Below W1.heap.size W1 wr
theorem NamsAt.slice {w : World} {B : Nat} {v : Value} {l : List ByteArray} (h : NamsAt w B v l) : ∃ a c, v = .slice a l.length c := by
  rcases h.2 with ⟨e, h0⟩ | ⟨g', cap, cur, e, hb, hk, _⟩
  · exact ⟨_, _, by rw [e, h0]⟩
  · exact ⟨_, _, e⟩
theorem NamsAt.lenOf {w : World} {B : Nat} {v : Value} {l : List ByteArray} (h : NamsAt w B v l) : lenV v = l.length := by
  obtain ⟨a, c, rfl⟩ := h.slice
  rfl
theorem NamsAt.lenOf1 {w : World} {B : Nat} {v : Value} {l : List ByteArray} {x : ByteArray} (h : NamsAt w B v (l ++ [x])) : lenV v = l.length + 1 := by
  rw [h.lenOf, List.length_append, List.length_singleton]
set_option maxHeartbeats 16000000 in
theorem rnames_any {w : World} {v : Value} {L : List Ent} {D : DataW Unit} (hv : SeeE w v L) (hD : Dc D L) :
    Calls Tryz.prog 21 #[.agg #[v]] w fun e w' => ∃ v l, e = .returned v ∧ Nms D l ∧ SeeN w' v l ∧ Below w.heap.size w w' := by
  obtain ⟨ad, cp, rfl⟩ := hv.shape'
  obtain ⟨N, hN⟩ : ∃ N, L.length = N := ⟨_, rfl⟩
  rw [hN] at hv ⊢
  obtain ⟨W1, hW1⟩ : ∃ W, w.alloc (.cells #[.slice ad N cp] 33) = W := ⟨_, rfl⟩
  obtain ⟨Q1, hQ1⟩ : ∃ Q, w.heap.size = Q := ⟨_, rfl⟩
  have b1 : Below w.heap.size w W1 := by rw [← hW1]; exact (Below.refl _ _).alloc (Nat.le_refl _) _
  have a1 : W1.heap[Q1]? = some (.cells #[.slice ad N cp] 33 (0, 0)) := by rw [← hW1, ← hQ1]; exact heap_alloc_new w _
  have A1 := hidK a1
  have HB := hidK b1
  have HS := hidK (And.intro (hv.below b1) hN)
  have HLe : Hid (L.length ≤ 200) := hD.few
  have HD := hidK hD
  have HNe := hidK hD.names
  clear b1 a1 hv hN hD
  go_enter Tryz.func21, Tryz.ntmps21
  go_wp2_with fail
  clear hW1 hQ1
  go_loopw [3, 4] (fun lv tv wr => ∃ (l : List ByteArray) (last : ByteArray), tv = .string last ∧ Hid (Nr W1 wr L lv l last)) (fun lv _ _ => 201 - lenV lv)
  case atStart => exact ⟨[], _, rfl, hidK ⟨NamsAt.nil _ _, Nmr.start HNe.out, Below.refl _ _⟩⟩
  case round =>
    obtain ⟨l, last, rfl, HR⟩ := hrel
    have t0 : wr.cell? ⟨Q1, 0, none⟩ = some (.slice ad N cp) := cell_at (kp HR.out.below A1.out) 0
    go_wp2_with fail
    go_loopw [5, 6] (fun nv iv X => ∃ (next : ByteArray) (i : Nat), i ≤ N ∧ iv = .int .i64 i ∧ nv = .string next ∧ Hid (Mnr L last next i) ∧ wr = X) (fun _ iv _ => N - (intOf iv).toNat)
    case atStart => exact ⟨_, 0, Nat.zero_le _, rfl, rfl, Mnr.start _ _, rfl⟩
    case round =>
      rename_i X0
      obtain ⟨next, i, hi, rfl, rfl, HM, rfl⟩ := hrel
      by_cases hin : i < N
      · have i1 : (i : Int) < (N : Int) := by omega
        have i2 : (i : Int) < 200 := by have h1 := HLe.out; have h2 := HS.out.2; omega
        have hka : i < L.length := by rw [HS.out.2]; exact hin
        obtain ⟨g, o, rfl, hc⟩ := HS.out.1.cells (fun e => by rw [e] at hka; simp at hka)
        have hcs := hc i hka
        obtain ⟨⟨et, ec, em, er, el⟩, hst⟩ : ∃ q, L[i] = q := ⟨_, rfl⟩
        rw [hst] at hcs
        have e0 : wr.cell? ⟨g, o + i * 5, none⟩ = some (.string et) := (HR.out.below.cell (World.block_lt_of_cell? _ _ (hcs 0 _ rfl))).trans (hcs 0 _ rfl)
        have hne : L[i].t ≠ ⟨#[]⟩ := HNe.out _ (List.getElem_mem hka)
        obtain ⟨cmp, hcmp⟩ : ∃ c, decide (nameLt last et ∧ (next = ⟨#[]⟩ ∨ nameLt et next)) = c := ⟨_, rfl⟩
        have HCm := hidK hcmp
        have HX : Hid (∃ h : i < L.length, L[i].t = et ∧ L[i].t ≠ ⟨#[]⟩) := ⟨hka, by rw [hst], hne⟩
        clear hcmp hst hka hc hcs hne
        go_upto_region 8 with fail
        go_cut [32, 7] (fun v u X => v = .bool cmp ∧ u = .string et ∧ wr = X)
        case first =>
          by_cases z1 : nameLt last et
          · have y1 := gtr_is z1
            obtain ⟨y4, y5⟩ := gtr_yes z1
            by_cases z2 : next = ⟨#[]⟩
            · subst z2
              go_wp2_with fail
              go_meet
              case rel => exact ⟨by rw [← HCm.out]; simp [z1], rfl, rfl⟩
            · have n0 := nil_no z2
              have n01 := n0.1
              have n02 := n0.2.1
              have n03 := n0.2.2
              by_cases z3 : nameLt et next
              · have y3 := less_yes z3
                clear n0
                go_wp2_with fail
                go_meet
                case rel => exact ⟨by rw [← HCm.out]; simp [z1, z3], rfl, rfl⟩
              · have y3 := less_no z3
                clear n0
                go_wp2_with fail
                go_meet
                case rel => exact ⟨by rw [← HCm.out]; simp [z2, z3], rfl, rfl⟩
          · by_cases z2 : et = last
            · subst z2
              go_wp2_with fail
              go_meet
              case rel => exact ⟨by rw [← HCm.out]; simp [z1], rfl, rfl⟩
            · have y1 := gtr_no z1 z2
              go_wp2_with fail
              go_meet
              case rel => exact ⟨by rw [← HCm.out]; simp [z1], rfl, rfl⟩
        case rest =>
          obtain ⟨rfl, rfl, rfl⟩ := hcut
          clear e0
          cases cmp with
          | true =>
            have HM2 : Hid (Mnr L last et (i + 1)) := by
              obtain ⟨h1, h2, h3⟩ := HX.out
              have h4 := HCm.out
              simp only [decide_eq_true_eq] at h4
              rw [← h2] at h4 ⊢
              exact HM.out.get h1 h3 h4.1 h4.2
            go_wp2_with fail
            go_roundw
            case rel => exact ⟨et, i + 1, by omega, by first | rfl | go_num, rfl, HM2, by first | rfl | trivial⟩
            case measure => simp [intOf]; omega
          | false =>
            have HM2 : Hid (Mnr L last next (i + 1)) := by
              obtain ⟨h1, h2, h3⟩ := HX.out
              have h4 := HCm.out
              simp only [decide_eq_false_iff_not] at h4
              rw [← h2] at h4
              exact HM.out.keep h1 h4
            go_wp2_with fail
            go_roundw
            case rel => exact ⟨next, i + 1, by omega, by first | rfl | go_num, rfl, HM2, by first | rfl | trivial⟩
            case measure => simp [intOf]; omega
      · obtain rfl : i = N := by omega
        by_cases z : next = ⟨#[]⟩
        · have HFin : Hid (Nms D l) := HR.out.nm.done HD.out HM.out (by rw [HS.out.2]; exact Nat.le_refl _) z
          subst z
          go_wp2_with fail
          go_ret
          exact ⟨_, l, rfl, HFin.out, HR.out.own.see, below_step HB.out HR.out.below⟩
        · have HNx := hidK (HR.out.nm.next HM.out (by rw [HS.out.2]; exact Nat.le_refl _) z)
          have n0 := nil_no z
          have n01 := n0.1
          have n02 := n0.2.1
          have n03 := n0.2.2
          have HLl : Hid (l.length + 1 ≤ 200) := by
            have h1 := HNx.out.len
            have h2 := HLe.out
            rw [List.length_append, List.length_singleton] at h1
            show _ ≤ _
            omega
          have HSz : Hid (W1.heap.size ≤ wr.heap.size) := HR.out.below.size
          have HLv := hidK HR.out.own.lenOf
          clear n0 z
          go_wp2_with (at_builtin; refine wpList_append_nam _ rfl (.tmp 37) (.tmp 39) rfl W1.heap.size _ l rfl (HR.out.own.below ((Below.refl _ _).alloc (Nat.le_refl _) _)) wr.heap.size next rfl (heap_alloc_new wr _) ?x1 ?x2 ?_; (case x1 => have := HLl.out; omega); (case x2 => have h1 := HSz.out; simp; omega); intro v6 w6 ho6 hg6; have HR6 : Hid (Nr W1 w6 L v6 (l ++ [next]) next) := ⟨ho6, HNx.out, ((HR.out.below.alloc HSz.out _).grown hg6 (by have h1 := HSz.out; simp; omega) (fun j hj => (HR.out.own.blk hj).1))⟩; have HLw := hidK ho6.lenOf1; clear ho6 hg6)
          go_roundw
          case rel => exact ⟨_, _, rfl, HR6⟩
          case measure => have h1 := HLv.out; have h2 := HLw.out; have h3 := HLl.out; omega
end Go.Proofs.YtbonnjilbocldaaGreatDoor
