/-
  Plans: the document's small readers.
  Plans: the document's parts of a cell.
-/
import Derived.Test.YtglncninkocgaabGreatDoorEC
import Derived.Test.YtglncninkocgaabGreatDoorDE
import Derived.Test.YtglncninkocgaabGreatDoorDL
import Derived.BigQuiet
namespace Go.Proofs.YtglncninkocgaabGreatDoor
open Go.RowKit
set_option linter.unusedVariables false
set_option maxRecDepth 20000

set_option maxHeartbeats 4000000 in
theorem refNum_any (s0 : List UInt8) (w : World) (hl : s0.length ≤ 1000000) : Calls Tryz.prog 30 #[.string (str s0)] w fun e w' => (∃ k : Int, e = .returned (.tuple #[.int .i64 k, .string (str (s0.dropWhile digB)), .bool (numF s0).isSome]) ∧ ∀ p, numF s0 = some p → p = (k, s0.dropWhile digB)) ∧ Below w.heap.size w w' := by
  obtain ⟨s, hs⟩ : ∃ s, str s0 = s := ⟨_, rfl⟩
  obtain ⟨D, hD⟩ : ∃ D, (s0.takeWhile digB).length = D := ⟨_, rfl⟩
  obtain ⟨L, hL⟩ : ∃ L, s.size = L := ⟨_, rfl⟩
  have hLl : s0.length = L := by rw [← hL, ← hs]; rfl
  have hDL : D ≤ L := by rw [← hD, ← hLl]; exact (List.takeWhile_sublist _).length_le
  have hLb : L ≤ 1000000 := by omega
  have esplit : s0 = s0.takeWhile digB ++ s0.dropWhile digB := (List.takeWhile_append_dropWhile).symm
  have HG : Hid (∀ (k : Nat) (h : k < s.size), k < D → ∃ c, s[k] = c ∧ digB c = true) := fun k h hk => by
    obtain ⟨c, h1, h2⟩ := take_dig s0 k (by omega)
    subst hs
    exact ⟨c, str_get _ k c h1 h, h2⟩
  have HG2 : Hid (∀ (h : D < s.size), ∃ c, s[D] = c ∧ digB c = false) := fun h => by
    obtain ⟨c, hc⟩ : ∃ c, s0[D]? = some c := ⟨_, List.getElem?_eq_getElem (by omega)⟩
    subst hs
    exact ⟨c, str_get _ D c hc h, take_stop s0 c (by rw [hD]; exact hc)⟩
  have HE0 : Hid (s.extract 0 D = str (s0.takeWhile digB)) := by
    show _ = _
    subst hs
    rw [str_take, ← hD]
    congr 1
    conv => lhs; rw [esplit]
    rw [List.take_append_of_le_length (by rw [← esplit]; exact Nat.le_refl _), ← esplit, List.take_length]
  have HE1 : Hid (s.extract D L = str (s0.dropWhile digB)) := by
    show _ = _
    subst hs
    rw [← hLl, str_drop]
    congr 1
    conv => lhs; rw [esplit]
    rw [← hD, List.drop_left]
  obtain ⟨bb, hbb⟩ : ∃ b, (numF s0).isSome = b := ⟨_, rfl⟩
  have HNum : Hid (∀ X, Calls Tryz.prog 44 #[.string (str (s0.takeWhile digB))] X fun e w' => (∃ k : Int, e = .returned (.tuple #[.int .i64 k, .bool bb]) ∧ Hid (∀ p, numF s0 = some p → p = (k, s0.dropWhile digB))) ∧ Below X.heap.size X w') := fun X => by
    refine (refNumber_any (str (s0.takeWhile digB)) X (by rw [str_size, hD]; omega)).mono ?_
    rw [str_data]
    rintro e w' ⟨⟨k, rfl, h1⟩ | ⟨rfl, h1⟩, hb⟩
    · have e1 : numF s0 = some (k, s0.dropWhile digB) := by
        unfold numF
        rw [numV_some.2 h1]
        rfl
      rw [← hbb, e1]
      exact ⟨⟨k, rfl, fun p hp => (Option.some.inj hp).symm⟩, hb⟩
    · have e1 : numF s0 = none := by
        unfold numF
        rw [numV_none.2 h1]
        rfl
      rw [← hbb, e1]
      exact ⟨⟨0, rfl, fun p hp => by cases hp⟩, hb⟩
  obtain ⟨R, hR⟩ : ∃ R, str (s0.dropWhile digB) = R := ⟨_, rfl⟩
  rw [hR] at HE1
  rw [hs, hbb, hR]
  clear hs hD hl hLl esplit hbb hR
  go_enter Tryz.func30, Tryz.ntmps30
  go_wp2_with fail
  go_loopw [5] (fun v wr => ∃ k : Nat, k ≤ D ∧ v = .int .i64 k ∧ w = wr) (fun v _ => D - (intOf v).toNat)
  case atStart => exact ⟨0, Nat.zero_le _, rfl, rfl⟩
  case round =>
    obtain ⟨k, hk, rfl, rfl⟩ := hrel
    by_cases hlt : k < D
    · obtain ⟨c, hx, hdg⟩ := HG.out k (by omega) hlt
      have hz : (k : Int) < (L : Int) := by omega
      have h1 : (48 : Int) ≤ (c.toNat : Int) ∧ (c.toNat : Int) ≤ 57 := by unfold digB at hdg; simp at hdg; omega
      obtain ⟨h1, h2⟩ := h1
      clear hdg
      go_wp2
      first
        | exact ⟨⟨k + 1, by omega, rfl, trivial⟩, by simp [intOf]; omega⟩
        | (go_roundw
           case rel => exact ⟨k + 1, by omega, by first | rfl | go_num, rfl⟩
           case measure => simp [intOf]; omega)
    · have hkD : k = D := by omega
      subst hkD
      have hz2 : (k : Int) ≤ (L : Int) := by omega
      by_cases hM0 : k = L
      · have hz : ¬ (k : Int) < (L : Int) := by omega
        clear hM0
        go_wp2_with (go_at_call 44; rw [HE0.out]; refine (HNum.out _).mono ?_; rintro e w1 ⟨⟨kk, rfl, hp⟩, hb1⟩; have HB1 := hidden hb1; clear hb1)
        go_quiet (fail)
        go_wp2
        exact bodyPost_ret (v := .tuple #[.int .i64 kk, .string R, .bool bb]) (by simp [results, Tryz.results30, go_sem, HE1.out]) rfl ⟨⟨kk, rfl, hp.out⟩, below_drewN HB1.out _⟩
      · obtain ⟨c, hx, hdg⟩ := HG2.out (by omega)
        have hz : (k : Int) < (L : Int) := by omega
        by_cases h1 : (48 : Int) ≤ (c.toNat : Int)
        · have h2 : ¬ (c.toNat : Int) ≤ 57 := by unfold digB at hdg; simp at hdg; omega
          clear hdg
          go_wp2_with (go_at_call 44; rw [HE0.out]; refine (HNum.out _).mono ?_; rintro e w1 ⟨⟨kk, rfl, hp⟩, hb1⟩; have HB1 := hidden hb1; clear hb1)
          go_quiet (fail)
          go_wp2
          exact bodyPost_ret (v := .tuple #[.int .i64 kk, .string R, .bool bb]) (by simp [results, Tryz.results30, go_sem, HE1.out]) rfl ⟨⟨kk, rfl, hp.out⟩, below_drewN HB1.out _⟩
        · clear hdg
          go_wp2_with (go_at_call 44; rw [HE0.out]; refine (HNum.out _).mono ?_; rintro e w1 ⟨⟨kk, rfl, hp⟩, hb1⟩; have HB1 := hidden hb1; clear hb1)
          go_quiet (fail)
          go_wp2
          exact bodyPost_ret (v := .tuple #[.int .i64 kk, .string R, .bool bb]) (by simp [results, Tryz.results30, go_sem, HE1.out]) rfl ⟨⟨kk, rfl, hp.out⟩, below_drewN HB1.out _⟩

theorem after_no (s : ByteArray) (c : UInt8) (w : World) : Calls Tryz.prog 31 #[.string s, .int .u8 c.toNat, .bool false] w fun e w' => e = .returned (.tuple #[.string ⟨#[]⟩, .bool false]) ∧ w = w' := by
  go_enter Tryz.func31, Tryz.ntmps31
  go_wp2
  all_goals go_ret2
  all_goals exact ⟨rfl, rfl⟩
theorem after_yes (s0 : List UInt8) (c : UInt8) (w : World) (hl : s0.length ≤ 1000000) : Calls Tryz.prog 31 #[.string (str s0), .int .u8 c.toNat, .bool true] w fun e w' => e = .returned (.tuple #[.string (str ((expF c s0).getD [])), .bool (expF c s0).isSome]) ∧ w = w' := by
  cases s0 with
  | nil =>
    show Calls _ _ #[.string ⟨#[]⟩, _, _] w fun e w' => e = .returned (.tuple #[.string ⟨#[]⟩, .bool false]) ∧ w = w'
    go_enter Tryz.func31, Tryz.ntmps31
    go_wp2
    all_goals go_ret2
    all_goals exact ⟨rfl, rfl⟩
  | cons b r =>
    obtain ⟨s, hs⟩ : ∃ s, str (b :: r) = s := ⟨_, rfl⟩
    have hsz : s.size = r.length + 1 := by rw [← hs]; rfl
    have hg : ∀ h : 0 < s.size, s[0] = b := fun h => by subst hs; exact str_get _ 0 b rfl h
    have HE : Hid (s.extract 1 (r.length + 1) = str r) := by subst hs; exact str_drop (b :: r) 1
    obtain ⟨n1, n2⟩ := toList_ne0 (s := s) (by omega)
    have hx := hg (by omega)
    have hrl : r.length ≤ 1000000 := by simp at hl; omega
    by_cases hb : b = c
    · subst hb
      rw [show expF b (b :: r) = some r from if_pos rfl, hs]
      have hbb : ((b.toNat : Int) != (b.toNat : Int)) = false := by simp
      clear hs hg
      go_enter Tryz.func31, Tryz.ntmps31
      go_wp2
      all_goals go_ret2
      all_goals exact ⟨by simp [HE.out], rfl⟩
    · rw [show expF c (b :: r) = none from if_neg hb, hs]
      have hne : ((b.toNat : Int) != (c.toNat : Int)) = true := by
        simp only [bne_iff_ne, ne_eq, Int.ofNat_inj]
        exact fun h => hb (UInt8.toNat_inj.1 h)
      have hne2 : ¬ (b.toNat : Int) = (c.toNat : Int) := by simpa using hne
      show Calls _ _ _ w fun e w' => e = .returned (.tuple #[.string ⟨#[]⟩, .bool false]) ∧ w = w'
      clear hs hg hb
      go_enter Tryz.func31, Tryz.ntmps31
      go_wp2
      all_goals go_ret2
      all_goals exact ⟨rfl, rfl⟩
end Go.Proofs.YtglncninkocgaabGreatDoor

namespace Go.Proofs.YtglncninkocgaabGreatDoor
open Go.RowKit
set_option linter.unusedVariables false
set_option maxRecDepth 20000

/-- A cell that is being made, in the call's first block. -/
structure CB (w W : World) (vals : Array Value) : Prop where
  c : W.heap[w.heap.size]? = some (.cells vals 36 (0, 0))
  b : Below w.heap.size w W
theorem CB.first (w : World) (vals : Array Value) : CB w (w.alloc (.cells vals 36)) vals := ⟨(MapKept.heap_alloc w _).1, (Below.refl _ _).alloc (Nat.le_refl _) _⟩
theorem CB.below {w W W' : World} {vals : Array Value} (h : CB w W vals) (hb : Below W.heap.size W W') : CB w W' vals := ⟨(hb.block _ (lt_of_someN h.c)).trans h.c, below_step h.b hb⟩
theorem CB.set {w W : World} {vals vals' : Array Value} (h : CB w W vals) (o : Nat) (v : Value) (hv : vals.setIfInBounds o v = vals') : CB w (W.setCell ⟨w.heap.size, o, none⟩ v) vals' := by
  have hlt := lt_of_someN h.c
  have h' : W.heap[w.heap.size] = .cells vals 36 (0, 0) := by have := h.c; simpa [Array.getElem?_eq_getElem hlt] using this
  refine ⟨?_, Below.setCell h.b (Nat.le_refl _) _⟩
  show (W.heap.modify w.heap.size _)[w.heap.size]? = _
  rw [Array.getElem?_eq_getElem (by simpa using hlt), Array.getElem_modify_self, h', ← hv]
  rfl
theorem CB.cell {w W : World} {vals : Array Value} (h : CB w W vals) (o : Nat) : W.cell? ⟨w.heap.size, o, none⟩ = vals[o]? ∧ W.frozen? ⟨w.heap.size, o, none⟩ = false := ⟨cell_atN h.c o, by have h1 := h.c; simp [World.frozen?, h1]⟩

/-- What the document's cell and parts answer. -/
def CelPost (w : World) (d : Int) : Option (Tree × List UInt8) → Ending → World → Prop
  | none, e, w' => (∃ sl x, e = .returned (.tuple #[sl, .string x, .bool false])) ∧ Below w.heap.size w w'
  | some p, e, w' => (∃ a n c, e = .returned (.tuple #[.slice a n c, .string (str p.2), .bool true]) ∧ CeOwns w' w.heap.size (.slice a n c) (p.1.tell d)) ∧ Below w.heap.size w w'
def ParPost (w : World) (c0 : CellV) : Option (List Tree × List UInt8) → Ending → World → Prop
  | none, e, w' => (∃ sl x, e = .returned (.tuple #[sl, .string x, .bool false])) ∧ Below w.heap.size w w'
  | some p, e, w' => (∃ a n c, e = .returned (.tuple #[.slice a n c, .string (str p.2), .bool true]) ∧ CeOwns w' w.heap.size (.slice a n c) (c0 :: tellAll p.1 (c0.depth + 1))) ∧ Below w.heap.size w w'
def CelG (n : Nat) : Prop := ∀ (s : List UInt8) (d : Int) (w : World), 2 * s.length + 1 ≤ n → 0 ≤ d → 8 * d + s.length ≤ 2048 → Calls Tryz.prog 17 #[.string (str s), .int .i64 d] w (CelPost w d (cellF n s))
def ParG (n : Nat) : Prop := ∀ (sh B : UInt8) (s : List UInt8) (c0 : CellV) (w : World), (sh = 125 ∨ sh = 93) → 2 * s.length + 2 ≤ n → 0 ≤ c0.depth → 8 * (c0.depth + 1) + s.length ≤ 2048 → Calls Tryz.prog 32 #[.agg c0.vals, .string (str (B :: s)), .int .u8 sh.toNat] w (ParPost w c0 (partsF n sh s))

theorem wrapR {x : Int} (h : -9223372036854775808 ≤ x ∧ x ≤ 9223372036854775807) : IntKind.i64.wrap x = x := by
  rw [IntKind.wrap_i64]
  omega
theorem ce_lower {w : World} {B B' : Nat} {v : Value} {l : List CellV} (h : CeOwns w B v l) (hB : B' ≤ B) : CeOwns w B' v l := ⟨h.1, h.2.imp id fun ⟨g, cap, cur, a1, a2, a3⟩ => ⟨g, cap, cur, a1, by omega, a3⟩⟩
theorem CB.grown {w W W' : World} {vals : Array Value} {v : Value} {l : List CellV} (h : CB w W vals) (ho : CeOwns W (w.heap.size + 1) v l) (hg : W.grownBy W' v.ownBlock) : CB w W' vals := by
  have hlt := lt_of_someN h.c
  refine ⟨?_, h.b.grown hg h.b.size (fun k hk => by have := (World.ownsRow.lt ho k hk).1; omega)⟩
  have hne : v.ownBlock ≠ some w.heap.size := fun e => by have := (World.ownsRow.lt ho _ e).1; omega
  exact (hg.block _ hlt (fun e => hne e.symm)).trans h.c
theorem tell_snoc (ts : List Tree) (t : Tree) (d : Int) : tellAll (ts ++ [t]) d = tellAll ts d ++ t.tell d := by
  induction ts with
  | nil => show t.tell d ++ [] = _; rw [List.append_nil]; rfl
  | cons u us ih =>
    show u.tell d ++ tellAll (us ++ [t]) d = (u.tell d ++ tellAll us d) ++ t.tell d
    rw [ih, List.append_assoc]
theorem sizes_snoc (ts : List Tree) (t : Tree) : sizes (ts ++ [t]) = sizes ts + t.size := by
  induction ts with
  | nil => show t.size + 0 = 0 + t.size; omega
  | cons u us ih => show u.size + sizes (us ++ [t]) = u.size + sizes us + t.size; rw [ih]; omega

set_option maxHeartbeats 4000000 in
theorem par_any (N : Nat) (hc : ∀ k, k < N → CelG k) : ParG N := by
  intro sh B s c0 w hsh hf hd0 hd1
  obtain ⟨RR, hRR⟩ : ∃ R, partsF N sh s = R := ⟨_, rfl⟩
  have HC : Hid (∀ k, k < N → CelG k) := hc
  have HF := hidden hf
  have HR := hidden hRR
  rw [hRR]
  obtain ⟨Wa, hWa⟩ : ∃ W, w.alloc (.cells c0.vals 36) = W := ⟨_, rfl⟩
  obtain ⟨W0, hW0⟩ : ∃ W, Wa.alloc (.cells c0.vals 36) = W := ⟨_, rfl⟩
  have hWs : Wa.heap.size = w.heap.size + 1 := by rw [← hWa]; simp
  have HCB0 : Hid (CB w W0 c0.vals) := by rw [← hW0, ← hWa]; exact (CB.first w c0.vals).below ((Below.refl _ _).alloc (Nat.le_refl _) _)
  have HO0 : Hid (CeOwns W0 (w.heap.size + 1) (.slice (some ⟨Wa.heap.size, 0, none⟩) 1 1) [c0]) := by
    rw [← hW0]
    exact ⟨rfl, .inr ⟨Wa.heap.size, 1, c0.vals, rfl, by omega, (MapKept.heap_alloc Wa _).1, Nat.le_refl _, by decide, rfl, by simp [ceCells, CellV.vals]⟩⟩
  rw [hWs] at HO0
  have hb0 := blk_new w c0
  rw [hWa] at hb0
  obtain ⟨x0, x1, x2, x3, x4, x5, x6, _⟩ := blk_cells hb0
  obtain ⟨dd, hdd⟩ : ∃ d, c0.depth = d := ⟨_, rfl⟩
  have HDD := hidden hdd
  have HCD : Hid (∀ X, CB w X c0.vals → X.cell? ⟨w.heap.size, 0, none⟩ = some (.int .i64 dd)) := fun X hX => by rw [(hX.cell 0).1, ← hdd]; rfl
  have hL0 : s.length ≤ 2048 := by omega
  have HL0 : Hid (sizes [] + s.length ≤ 2048) := by show 0 + s.length ≤ 2048; omega
  have hdb : dd ≤ 256 := by omega
  unfold CellV.vals at hW0 hWa ⊢
  rw [hdd] at hW0 hWa hd0 hd1 x0 ⊢
  clear hc hRR hf hsh hdd hb0 hL0
  go_enter Tryz.func32, Tryz.ntmps32
  go_wp2_with fail
  go_loopg [1, 9] s.length (fun gg s1 s9 wr => ∃ (B' : UInt8) (r : List UInt8) (ts1 : List Tree) (k : Nat) (a : Option Addr) (n c : Nat), gg = r.length ∧ s1 = .string (str (B' :: r)) ∧ s9 = .slice a n c ∧ Hid (CB w wr c0.vals) ∧ Hid (CeOwns wr (w.heap.size + 1) (.slice a n c) (c0 :: tellAll ts1 (dd + 1))) ∧ Hid ((partsF k sh r).map (fun p => (ts1 ++ p.1, p.2)) = RR) ∧ Hid (2 * r.length + 2 ≤ k) ∧ Hid (k ≤ N) ∧ Hid (sizes ts1 + r.length ≤ 2048) ∧ Hid (8 * (dd + 1) + r.length ≤ 2048))
  case atStart => exact ⟨B, s, [], N, _, _, _, rfl, rfl, rfl, HCB0, HO0, by show _ = _; rw [HR.out]; cases RR <;> rfl, HF, Nat.le_refl _, HL0, hd1⟩
  case round =>
    obtain ⟨B', r, ts1, k, a, n, c, rfl, rfl, rfl, R1, R2, R3, R4, R5, R6, R7⟩ := hrel
    clear HCB0 HO0 HF HR HL0 hW0 hWa hWs x0 x1 x2 x3 x4 x5 x6 hd1
    have h4 := R4.out
    have h5 := R5.out
    have h7 := R7.out
    have hrl : r.length ≤ 2048 := by omega
    obtain ⟨j, rfl⟩ : ∃ j, k = j + 1 := ⟨k - 1, by omega⟩
    obtain ⟨S, hS⟩ : ∃ S, str (B' :: r) = S := ⟨_, rfl⟩
    rw [hS]
    obtain ⟨L, hLr⟩ : ∃ L, r.length = L := ⟨_, rfl⟩
    have hSz : S.size = L + 1 := by rw [← hS, ← hLr]; rfl
    have HE : Hid (S.extract 1 (L + 1) = str r) := by rw [← hS, ← hLr]; exact str_drop (B' :: r) 1
    have hLb : L ≤ 2048 := by omega
    have q0 := HCD.out wr R1.out
    have hq1 : wr.drew.cell? ⟨w.heap.size, 0, none⟩ = some (.int .i64 dd) := q0
    have HCel := hidden (fun X => HC.out j (by omega) r (dd + 1) X (by omega) (by omega) (by omega))
    have h3 := R3.out
    rw [show partsF (j + 1) sh r = match cellF j r with | none => none | some (_, []) => none | some (t, c :: r') => if c = sh then some ([t], r') else if c = 44 then (partsF j sh r').map fun p => (t :: p.1, p.2) else none from rfl] at h3
    have hH1 : (1 : Int) ≤ (L : Int) + 1 := by omega
    have hwr : IntKind.i64.wrap (dd + 1) = dd + 1 := wrapR (by omega)
    cases hq : cellF j r with
    | none =>
      rw [hq] at h3 HCel
      simp only [Option.map_none] at h3
      subst h3
      have HCx : Hid (∀ X, Calls Tryz.prog 17 #[.string (str r), .int .i64 (dd + 1)] X fun e w' => (∃ sl x, e = .returned (.tuple #[sl, .string x, .bool false])) ∧ Below X.heap.size X w') := fun X => HCel.out X
      have HB1 := hidden R1.out.b
      clear HCel R1 R2 R3 R4 R5 R6 R7 h4 h5 h7 hq HC HCD hS hLr
      go_wp2_with fail
      go_region_with (go_at_call 17; rw [HE.out]; refine (HCx.out _).mono ?_; rintro e w2 ⟨⟨sl, x, rfl⟩, hb2⟩; have HB2 := hidden (below_step (by first | exact HB1.out | exact HB1.out.drew : Below w.heap.size w _) hb2); clear hb2)
      all_goals (
        go_wp2
        exact bodyPost_ret (results_tmp3 rfl _ _ _) rfl ⟨⟨_, _, rfl⟩, by first | exact HB2.out | exact HB2.out.drew⟩)
    | some p =>
      obtain ⟨t, u⟩ := p
      rw [hq] at h3 HCel
      obtain ⟨e1, htn, hul⟩ := cellF_some j r t u hq
      have ht9 := text_nine t htn
      have hlen := congrArg List.length e1
      rw [List.length_append] at hlen
      have h6 := R6.out
      have HCx : Hid (∀ X, Calls Tryz.prog 17 #[.string (str r), .int .i64 (dd + 1)] X fun e w' => ∃ a n c, e = .returned (.tuple #[.slice a n c, .string (str u), .bool true]) ∧ CeOwns w' X.heap.size (.slice a n c) (t.tell (dd + 1)) ∧ (Value.slice a n c = .slice none 0 0 ∨ ∃ a' n' c', Value.slice a n c = .slice (some a') n' c') ∧ Below X.heap.size X w') := fun X => by
        refine (HCel.out X).mono ?_
        rintro e w' ⟨⟨a, n, c, rfl, ho⟩, hb⟩
        refine ⟨a, n, c, rfl, ho, ?_, hb⟩
        rcases ho.2 with ⟨e, _⟩ | ⟨g, cap, cur, e, _⟩
        · exact .inl e
        · exact .inr ⟨_, _, _, e⟩
      have HLen : Hid (((c0 :: tellAll ts1 (dd + 1)).length + (t.tell (dd + 1)).length) * 56 ≤ 140737488351232) := by
        show _ ≤ _
        rw [List.length_cons, tellAll_length, t.tell_length]
        omega
      cases u with
      | nil =>
        simp only [Option.map_none] at h3
        subst h3
        have HB1 := hidden R1.out.b
        clear HCel R1 R2 R3 R4 R5 R6 R7 h4 h5 h7 hq HC HCD hS hLr e1 htn hul ht9 hlen h6 HLen
        have HCy : Hid (∀ X, Calls Tryz.prog 17 #[.string (str r), .int .i64 (dd + 1)] X fun e w' => ∃ a n c, e = .returned (.tuple #[.slice a n c, .string ⟨#[]⟩, .bool true]) ∧ Below X.heap.size X w') := fun X => by
          refine (HCx.out X).mono ?_
          rintro e w' ⟨a, n, c, rfl, _, _, hb⟩
          exact ⟨a, n, c, rfl, hb⟩
        go_wp2_with fail
        go_region_with (go_at_call 17; rw [HE.out]; refine (HCy.out _).mono ?_; rintro e w2 ⟨a2, n2, c2, rfl, hb2⟩; have HB2 := hidden (below_step (by first | exact HB1.out | exact HB1.out.drew : Below w.heap.size w _) hb2); clear hb2)
        all_goals (
          go_wp2
          exact bodyPost_ret (results_tmp3 rfl _ _ _) rfl ⟨⟨_, _, rfl⟩, by first | exact HB2.out | exact HB2.out.drew⟩)
      | cons c2 r2 =>
        simp only [] at h3
        simp only [List.length_cons] at hlen hul
        obtain ⟨U, hU⟩ : ∃ U, str (c2 :: r2) = U := ⟨_, rfl⟩
        have hUz : U.size = r2.length + 1 := by rw [← hU]; rfl
        have hUg : ∀ h : 0 < U.size, U[0] = c2 := fun h => by subst hU; exact str_get _ 0 c2 rfl h
        have hU0 := hUg (by omega)
        have HUE : Hid (U.extract 1 (r2.length + 1) = str r2) := by rw [← hU]; exact str_drop (c2 :: r2) 1
        obtain ⟨n1, n2⟩ := toList_ne0 (s := U) (by omega)
        have hr2 : r2.length ≤ 2048 := by omega
        rw [hU] at HCx
        have HCB := hidden R1.out
        have HO := hidden R2.out
        have HNew : Hid ((c0 :: tellAll ts1 (dd + 1)) ++ t.tell (dd + 1) = c0 :: tellAll (ts1 ++ [t]) (dd + 1)) := by show _ = _; rw [tell_snoc]; rfl
        have HDr : Hid (CB w wr.drew c0.vals ∧ CeOwns wr.drew (w.heap.size + 1) (.slice a n c) (c0 :: tellAll ts1 (dd + 1))) := ⟨R1.out.below (Below.refl _ _).drew, R2.out.below (Below.refl _ _).drew⟩
        have HU := hidden hU
        have HUl : Hid (sizes (ts1 ++ [t]) + r2.length ≤ 2048) := by show _ ≤ _; rw [sizes_snoc]; omega
        have HUd : Hid (8 * (dd + 1) + r2.length ≤ 2048) := by show _ ≤ _; omega
        have HUf : Hid (2 * r2.length + 2 ≤ j) := by show _ ≤ _; omega
        have HUn : Hid (j ≤ N) := by show _ ≤ _; omega
        have hms : r2.length < L := by omega
        have HLr := hidden hLr
        have HM := hidden h3
        clear HCel R1 R2 R3 R4 R5 R6 R7 h4 h5 h7 hq HC HCD hS hLr e1 htn hul ht9 hlen h6 hU hUg h3
        go_wp2_with fail
        go_region_with (go_at_call 17; rw [HE.out]; refine (HCx.out _).mono ?_; rintro e w2 ⟨a2, n2', c2', rfl, ho2, hz2, hb2⟩; have HZ2 := hidden hz2; have HO2 := hidden ho2; have HCB2 := hidden (HDr.out.1.below hb2); have HP2 := hidden (HDr.out.2.below hb2); have HS2 : Hid (w.heap.size + 1 ≤ w2.heap.size) := hidden (by have h1 := lt_of_someN HDr.out.1.c; have h2 := hb2.size; omega); clear hb2 ho2 hz2)
        all_goals (
          by_cases hcs : c2 = sh
          · subst hcs
            have hm := HM.out
            rw [if_pos rfl] at hm
            simp only [Option.map_some] at hm
            subst hm
            go_wp2_with (at_builtin; refine wpList_append_cells _ rfl _ _ rfl (w.heap.size + 1) (.slice a n c) (c0 :: tellAll ts1 (dd + 1)) ?y1 HP2.out HS2.out (.slice a2 n2' c2') (t.tell (dd + 1)) ?y2 HO2.out.cellsIn HZ2.out HLen.out ?_; (case y1 => simp [Act.eval]); (case y2 => simp [Act.eval]); intro v' w' k2 k3; obtain ⟨sa2, sn2, sc2, rfl⟩ := ce_slice k2; have HCB3 := hidden (HCB2.out.grown HP2.out k3); rw [HNew.out] at k2; have HO3 := hidden k2; clear k2 k3)
            go_quiet (fail)
            go_wp2
            refine bodyPost_ret (results_tmp3 rfl _ _ _) rfl ⟨⟨sa2, sn2, sc2, ?_, ?_⟩, below_drewN HCB3.out.b _⟩
            · first | (rw [← HUE.out]; done) | (rw [← HUE.out]; rfl) | simp [HUE.out]
            · rw [HDD.out]
              exact ce_lower (HO3.out.below (below_drewN (Below.refl _ _) _)) (by omega)
          · have hm := HM.out
            rw [if_neg hcs] at hm
            have hcn : ¬ (c2.toNat : Int) = (sh.toNat : Int) := fun e => hcs (UInt8.toNat_inj.1 (by omega))
            by_cases h44 : c2 = 44
            · subst h44
              rw [if_pos rfl] at hm
              have hb44 : ((44 : UInt8).toNat : Int) = 44 := rfl
              have HM2 : Hid ((partsF j sh r2).map (fun p => ((ts1 ++ [t]) ++ p.1, p.2)) = RR) := by
                show _ = _
                rw [← hm]
                cases partsF j sh r2 with
                | none => rfl
                | some p => simp
              clear hm hcs
              go_wp2_with (at_builtin; refine wpList_append_cells _ rfl _ _ rfl (w.heap.size + 1) (.slice a n c) (c0 :: tellAll ts1 (dd + 1)) ?y1 HP2.out HS2.out (.slice a2 n2' c2') (t.tell (dd + 1)) ?y2 HO2.out.cellsIn HZ2.out HLen.out ?_; (case y1 => simp [Act.eval]); (case y2 => simp [Act.eval]); intro v' w' k2 k3; obtain ⟨sa2, sn2, sc2, rfl⟩ := ce_slice k2; have HCB3 := hidden (HCB2.out.grown HP2.out k3); rw [HNew.out] at k2; have HO3 := hidden k2; clear k2 k3)
              go_roundg r2.length
              case measure => rw [HLr.out]; exact hms
              case rel => exact ⟨44, r2, ts1 ++ [t], j, sa2, sn2, sc2, rfl, by rw [HU.out], rfl, HCB3, HO3, HM2, HUf, HUn, HUl, HUd⟩
            · rw [if_neg h44] at hm
              simp only [Option.map_none] at hm
              subst hm
              have hn44 : ¬ (c2.toNat : Int) = 44 := fun e => h44 (UInt8.toNat_inj.1 (by simpa using (by omega : c2.toNat = 44)))
              have hb44 : ((c2.toNat : Int) != 44) = true := by simpa using hn44
              clear hcs h44
              go_wp2_with (at_builtin; refine wpList_append_cells _ rfl _ _ rfl (w.heap.size + 1) (.slice a n c) (c0 :: tellAll ts1 (dd + 1)) ?y1 HP2.out HS2.out (.slice a2 n2' c2') (t.tell (dd + 1)) ?y2 HO2.out.cellsIn HZ2.out HLen.out ?_; (case y1 => simp [Act.eval]); (case y2 => simp [Act.eval]); intro v' w' k2 k3; obtain ⟨sa2, sn2, sc2, rfl⟩ := ce_slice k2; have HCB3 := hidden (HCB2.out.grown HP2.out k3); rw [HNew.out] at k2; have HO3 := hidden k2; clear k2 k3)
              exact bodyPost_ret (results_tmp3 rfl _ _ _) rfl ⟨⟨_, _, rfl⟩, HCB3.out.b⟩)
end Go.Proofs.YtglncninkocgaabGreatDoor
