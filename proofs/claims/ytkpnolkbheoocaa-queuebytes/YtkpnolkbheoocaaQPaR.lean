/-
  The document's queue: Panes.
-/
import Derived.Test.YtkpnolkbheoocaaQPan
import Derived.Test.YtkpnolkbheoocaaQRefD
import Derived.WalkKit
namespace Go.Proofs.Ytkpnolkbheoocaa
open Go.RowKit
set_option linter.unusedVariables false
set_option maxRecDepth 100000

def bestF (last : Int) (l : List Int) : Int := l.foldl (fun b p => if p > last ∧ (b = 0 ∨ p < b) then p else b) 0
theorem best_snoc (last : Int) (l : List Int) (p : Int) : bestF last (l ++ [p]) = if p > last ∧ (bestF last l = 0 ∨ p < bestF last l) then p else bestF last l := by unfold bestF; rw [List.foldl_append]; rfl
theorem best_ok (last : Int) (h0 : 0 ≤ last) (l : List Int) : (bestF last l = 0 ∧ ∀ p ∈ l, ¬ p > last) ∨ (bestF last l > last ∧ bestF last l ∈ l ∧ ∀ p ∈ l, p > last → bestF last l ≤ p) := by
  have key : ∀ k, k ≤ l.length → (bestF last (l.take k) = 0 ∧ ∀ p ∈ l.take k, ¬ p > last) ∨ (bestF last (l.take k) > last ∧ bestF last (l.take k) ∈ l.take k ∧ ∀ p ∈ l.take k, p > last → bestF last (l.take k) ≤ p) := by
    intro k
    induction k with
    | zero => intro _; exact .inl ⟨rfl, fun p hp => by simp at hp⟩
    | succ k ih =>
      intro hk
      obtain ⟨p, hp⟩ : ∃ p, l[k]? = some p := ⟨_, List.getElem?_eq_getElem (by omega)⟩
      have ht : l.take (k + 1) = l.take k ++ [p] := by rw [List.take_add_one, hp]; rfl
      rw [ht, best_snoc]
      rcases ih (by omega) with ⟨h1, h2⟩ | ⟨h1, h2, h3⟩
      · by_cases hc : p > last
        · rw [if_pos ⟨hc, .inl h1⟩]
          refine .inr ⟨hc, by simp, fun x hx hxl => ?_⟩
          rcases List.mem_append.1 hx with hx | hx
          · exact absurd hxl (h2 x hx)
          · rw [List.mem_singleton.1 hx]; exact Int.le_refl _
        · rw [if_neg (fun h => hc h.1)]
          refine .inl ⟨h1, fun x hx => ?_⟩
          rcases List.mem_append.1 hx with hx | hx
          · exact h2 x hx
          · rw [List.mem_singleton.1 hx]; exact hc
      · by_cases hc : p > last ∧ (bestF last (l.take k) = 0 ∨ p < bestF last (l.take k))
        · rw [if_pos hc]
          refine .inr ⟨hc.1, by simp, fun x hx hxl => ?_⟩
          rcases List.mem_append.1 hx with hx | hx
          · have := h3 x hx hxl
            rcases hc.2 with e | e <;> omega
          · rw [List.mem_singleton.1 hx]; exact Int.le_refl _
        · rw [if_neg hc]
          refine .inr ⟨h1, List.mem_append_left _ h2, fun x hx hxl => ?_⟩
          rcases List.mem_append.1 hx with hx | hx
          · exact h3 x hx hxl
          · rw [List.mem_singleton.1 hx] at hxl ⊢
            by_cases e : p < bestF last (l.take k)
            · exact absurd ⟨hxl, .inr e⟩ hc
            · omega
  have h := key l.length (Nat.le_refl _)
  rwa [List.take_length] at h
def panesI (l : List Item) : List Int := l.map fun i => i.o.1
/-- How many are left above. -/
def aboveN (l : List Int) (last : Int) : Nat := (l.filter fun p => decide (last < p)).length
theorem above_less {l : List Int} {last b : Int} (hb : b ∈ l) (h : last < b) : aboveN l b < aboveN l last := by
  unfold aboveN
  induction l with
  | nil => cases hb
  | cons x l ih =>
    have mono : ∀ l : List Int, (l.filter fun p => decide (b < p)).length ≤ (l.filter fun p => decide (last < p)).length := by
      intro l
      induction l with
      | nil => exact Nat.le_refl _
      | cons y l ih2 =>
        rw [List.filter_cons, List.filter_cons]
        by_cases h1 : b < y
        · have h2 : last < y := by omega
          simp [h1, h2]
          exact ih2
        · by_cases h2 : last < y
          · simp [h1, h2]
            omega
          · simp [h1, h2]
            exact ih2
    rw [List.filter_cons, List.filter_cons]
    rcases List.mem_cons.1 hb with rfl | hb
    · have h1 : ¬ b < b := by omega
      simp [h1, h]
      have := mono l
      omega
    · have := ih hb
      by_cases h1 : b < x
      · have h2 : last < x := by omega
        simp [h1, h2]
        exact this
      · by_cases h2 : last < x
        · simp [h1, h2]
          omega
        · simp [h1, h2]
          exact this
/-- What the outer loop carries. -/
structure Upto (l : List Int) (zs : List Int) (last : Int) : Prop where
  low : 0 ≤ last
  rise : Rising zs
  mem : ∀ x, x ∈ zs ↔ x ∈ l ∧ 0 < x ∧ x ≤ last
theorem Upto.next {l zs : List Int} {last b : Int} (h : Upto l zs last) (hb : b ∈ l) (h1 : b > last) (h2 : ∀ p ∈ l, p > last → b ≤ p) : Upto l (zs ++ [b]) b := by
  have h0 := h.low
  refine ⟨by omega, ?_, fun x => ?_⟩
  · unfold Rising
    rw [List.pairwise_append]
    refine ⟨h.rise, by simp, fun x hx y hy => ?_⟩
    rw [List.mem_singleton.1 hy]
    have := (h.mem x).1 hx
    omega
  · rw [List.mem_append, h.mem, List.mem_singleton]
    constructor
    · rintro (⟨k1, k2, k3⟩ | rfl)
      · exact ⟨k1, k2, by omega⟩
      · exact ⟨hb, by omega, Int.le_refl _⟩
    · rintro ⟨k1, k2, k3⟩
      by_cases e : x ≤ last
      · exact .inl ⟨k1, k2, e⟩
      · have := h2 x k1 (by omega)
        exact .inr (by omega)

set_option maxHeartbeats 4000000 in
theorem refPanes_any {w : World} {vi : Value} {its : List Item} {q : Qs} (h : RIn w vi its q) (hq : q.Ok) :
    Calls Try.prog 14 #[refV q vi] w fun e w' => ∃ v, e = .returned v ∧ Told w w' q.os v := by
  obtain ⟨ad, n, cap, rfl, hn, hc⟩ := h.shape
  have hlen := h.few hq
  have HN : Hid (its.length = n) := hn
  have HMem : Hid (∀ x, x ∈ panesI its ∧ 0 < x ↔ waits q.os x) := fun x => by
    unfold panesI waits
    rw [List.mem_map, ← h.os]
    constructor
    · rintro ⟨⟨i, hi, rfl⟩, hx⟩
      exact ⟨hx, i.o, (spread_mem h.pos _).2 ⟨i, hi, rfl⟩, rfl⟩
    · rintro ⟨hx, o, ho, rfl⟩
      obtain ⟨i, hi, rfl⟩ := (spread_mem h.pos _).1 ho
      exact ⟨⟨i, hi, rfl⟩, hx⟩
  have HOw : Hid (∀ p ∈ its, OwnOk p.o) := fun p hp => hq.own _ (by rw [← h.os]; exact (spread_mem h.pos _).2 ⟨p, hp, rfl⟩)
  obtain ⟨l0, hl0⟩ : ∃ l0, q.lim = l0 := ⟨_, rfl⟩
  obtain ⟨W0, hW0⟩ : ∃ W0, w.alloc (.cells #[.int .i64 (l0 : Int), .slice ad n cap, .bool q.cl] 26) = W0 := ⟨_, rfl⟩
  obtain ⟨N0, hN0⟩ : ∃ N0, w.heap.size = N0 := ⟨_, rfl⟩
  have HW0 : Hid (w.alloc (.cells #[.int .i64 (l0 : Int), .slice ad n cap, .bool q.cl] 26) = W0) := hW0
  have HN0 : Hid (w.heap.size = N0) := hN0
  have hb0 : Below w.heap.size w W0 := by rw [← hW0]; exact (Below.refl _ _).alloc (Nat.le_refl _) _
  have hpar : W0.heap[N0]? = some (.cells #[.int .i64 (l0 : Int), .slice ad n cap, .bool q.cl] 26 (0, 0)) := by rw [← hW0, ← hN0]; exact heap_alloc_new w _
  have hN1 : N0 < W0.heap.size := lt_of_block hpar
  have HFi : Hid (∀ W, Below W0.heap.size W0 W → Below w.heap.size w W) := fun W hW => hb0.trans (hW.mono (by omega))
  have HSz : Hid (w.heap.size ≤ W0.heap.size) := hb0.size
  have HC : Hid (∀ W, Below W0.heap.size W0 W → W.cell? ⟨N0, 1, none⟩ = some (.slice ad n cap) ∧ ∀ (i : Nat) (p : Item), its[i]? = some p → ∃ g o, ad = some ⟨g, o, none⟩ ∧ W.cell? ⟨g, o + i * 3 + 1, none⟩ = some (.int .i64 p.o.1)) := fun W hW => by
    have h2 := (hW.block N0 hN1).trans hpar
    refine ⟨cell_atT h2 1, fun i p hp => ?_⟩
    obtain ⟨g, o, e, _, k1, _⟩ := hc W (HFi.out W hW) i p hp
    exact ⟨g, o, e, k1⟩
  rw [hn] at hlen
  unfold refV
  rw [hl0]
  have HOs : Hid (q.os = q.os) := (rfl : q.os = q.os)
  clear h hc hn hpar hW0 hN0 hl0 hb0
  go_enter Try.func14, Try.ntmps14
  go_wp2_with fail
  rw [HW0.out, HN0.out]
  go_loopw [3, 4] (fun s3 s4 wr => ∃ (zs : List Int) (last : Int), s4 = .int .i64 last ∧ last ≤ 4611686018427387904 ∧ Hid (Upto (panesI its) zs last) ∧ Hid (zs.length + aboveN (panesI its) last ≤ n) ∧ Hid (Mine W0 wr 3 1 s3 zs.length (zs.map (Value.int .i64)))) (fun _ v _ => aboveN (panesI its) (intOf v))
  case atStart =>
    refine ⟨[], 0, rfl, by decide, ⟨by decide, List.Pairwise.nil, fun x => ⟨fun hx => by simp at hx, fun hx => by omega⟩⟩, ?_, Mine.nil (Below.refl _ _)⟩
    show _ ≤ _
    have := List.length_filter_le (fun p => decide ((0 : Int) < p)) (panesI its)
    unfold aboveN
    have h9 : (panesI its).length = n := by unfold panesI; rw [List.length_map, HN.out]
    simp only [List.length_nil]
    omega
  case round =>
    obtain ⟨zs, last, rfl, hlast, HU, HCn, HM⟩ := hrel
    obtain ⟨si, hsi⟩ : ∃ si, u3 = si := ⟨_, rfl⟩
    rw [hsi] at HM ⊢
    clear hsi
    go_wp2_with fail
    obtain ⟨wo, hwo⟩ : ∃ wo, wr = wo := ⟨_, rfl⟩
    rw [hwo] at HM ⊢
    clear hwo
    have hlast0 := HU.out.low
    go_loopw [5, 6] (fun s5 s6 wx => ∃ i : Nat, i ≤ n ∧ s6 = .int .i64 i ∧ s5 = .int .i64 (bestF last ((panesI its).take i)) ∧ wo = wx) (fun _ v _ => n - (intOf v).toNat)
    case atStart => exact ⟨0, Nat.zero_le _, rfl, rfl, rfl⟩
    case round =>
      obtain ⟨i, hi, rfl, rfl, rfl⟩ := hrel
      obtain ⟨p1, hcell⟩ := HC.out wo HM.out.below
      by_cases hlt : i < n
      · obtain ⟨p, hp⟩ : ∃ p, its[i]? = some p := ⟨_, List.getElem?_eq_getElem (by rw [HN.out]; exact hlt)⟩
        obtain ⟨g, o, rfl, q1⟩ := hcell i p hp
        have HT : Hid (bestF last ((panesI its).take (i + 1)) = if p.o.1 > last ∧ (bestF last ((panesI its).take i) = 0 ∨ p.o.1 < bestF last ((panesI its).take i)) then p.o.1 else bestF last ((panesI its).take i)) := by
          show _ = _
          rw [List.take_add_one, show (panesI its)[i]? = some p.o.1 by unfold panesI; rw [List.getElem?_map, hp]; rfl]
          exact best_snoc _ _ _
        obtain ⟨x, hx⟩ : ∃ x, p.o.1 = x := ⟨_, rfl⟩
        obtain ⟨B, hB⟩ : ∃ B, bestF last ((panesI its).take i) = B := ⟨_, rfl⟩
        rw [hx] at q1 HT
        rw [hB] at HT ⊢
        clear hp hx hB hcell
        by_cases c1 : x > last
        · by_cases c2 : B = 0
          · subst c2
            rw [if_pos ⟨c1, .inl rfl⟩] at HT
            go_wp2_with fail
            go_roundw
            case rel => exact ⟨i + 1, by omega, by go_num, by rw [HT.out], by first | rfl | trivial⟩
            case measure => simp [intOf]; omega
          · by_cases c3 : x < B
            · rw [if_pos ⟨c1, .inr c3⟩] at HT
              go_wp2_with fail
              go_roundw
              case rel => exact ⟨i + 1, by omega, by go_num, by rw [HT.out], by first | rfl | trivial⟩
              case measure => simp [intOf]; omega
            · rw [if_neg (by omega)] at HT
              go_wp2_with fail
              go_roundw
              case rel => exact ⟨i + 1, by omega, by go_num, by rw [HT.out], by first | rfl | trivial⟩
              case measure => simp [intOf]; omega
        · rw [if_neg (by omega)] at HT
          go_wp2_with fail
          go_roundw
          case rel => exact ⟨i + 1, by omega, by go_num, by rw [HT.out], by first | rfl | trivial⟩
          case measure => simp [intOf]; omega
      · obtain rfl : i = n := by omega
        have htk : (panesI its).take i = panesI its := List.take_of_length_le (by unfold panesI; rw [List.length_map, HN.out]; omega)
        rw [htk]
        have hbest := best_ok last hlast0 (panesI its)
        obtain ⟨B, hB⟩ : ∃ B, bestF last (panesI its) = B := ⟨_, rfl⟩
        rw [hB] at hbest ⊢
        clear hB htk hcell
        rcases hbest with ⟨rfl, hno⟩ | ⟨b1, b2, b3⟩
        · have HF : Hid (Told w wo q.os si) := by
            have hwb := HFi.out wo HM.out.below
            refine ⟨zs, HM.out.row, HU.out.rise, fun x => ?_, hwb, fun g hg => Nat.le_trans HSz.out (HM.out.young g hg), ?_⟩
            · rw [HU.out.mem, ← HMem.out]
              constructor
              · rintro ⟨k1, k2, _⟩
                exact ⟨k1, k2⟩
              · rintro ⟨k1, k2⟩
                exact ⟨k1, k2, by have := hno x k1; omega⟩
            · have := HCn.out
              omega
          go_wp2_with fail
          all_goals go_ret
          all_goals exact ⟨si, rfl, HF.out⟩
        · have hB0 : ¬ B = 0 := by omega
          have hBx : B ≤ 4611686018427387904 := by
            obtain ⟨it, hit, rfl⟩ := List.mem_map.1 b2
            exact (HOw.out it hit).p1
          have HU2 : Hid (Upto (panesI its) (zs ++ [B]) B) := HU.out.next b2 b1 b3
          have HLe : Hid (aboveN (panesI its) B < aboveN (panesI its) last) := above_less b2 b1
          have hzl : zs.length ≤ 1000000 := by have := HCn.out; omega
          clear b1 b2 b3 HU
          go_wp2_with (refine wpList_append_row _ rfl _ _ 41 41 rfl underInts infoIntQ rfl (v := si) (by simp [Act.eval]) (u := .slice (some ⟨wo.heap.size, 0, none⟩) 1 1) (by simp [Act.eval]) (HM.out.row.below ((Below.refl _ _).alloc (Nat.le_refl _) _)) (Src.block underInts _ _ [.int .i64 B] _ 1 (heap_alloc_new wo _) rfl rfl) ?y1 ?y2 ?y3)
          case y1 => omega
          case y2 => unfold maxLen; omega
          case y3 =>
            intro v2 w2 hr2 hg2
            have HM2 : Hid (Mine W0 w2 3 1 v2 (zs ++ [B]).length ((zs ++ [B]).map (Value.int .i64))) := (HM.out.grown ((Below.refl _ _).alloc (Nat.le_refl _) _) hr2.out hg2.out).cast (by simp) (by simp)
            clear hr2 hg2 HM
            go_wp2
            go_roundw
            case rel => exact ⟨zs ++ [B], B, rfl, hBx, HU2, (by have h1 := HCn.out; have h2 := HLe.out; show _ ≤ _; rw [List.length_append, List.length_singleton]; omega), HM2⟩
            case measure => exact HLe.out

end Go.Proofs.Ytkpnolkbheoocaa
