/-
  Layouts: the tree that a list lays down, read.
  Layouts, by plain functions: the document's tree of a list beside the program's.
-/
import Derived.Test.YtglncninkocgaabGreatDoorCI
import Derived.Test.YtglncninkocgaabGreatDoorCA
import Derived.Test.YtglncninkocgaabGreatDoorCC
import Derived.Test.YtglncninkocgaabGreatDoorCE
namespace Go.Proofs.YtglncninkocgaabGreatDoor
open Go.RowKit
set_option linter.unusedVariables false
set_option maxRecDepth 100000

/-- The tree of a list; none, if it is no layout. -/
def readF (l : List CellV) : Option Tree :=
  if 63 < l.length then none else
  match takeF l 0 with
  | none => none
  | some (t, _) => if t.sound = true ∧ (t.moved 0 0).tell 0 = l ∧ fewB (idsOf l) = true then some (t.moved 0 0) else none

def ReadGood (l : List CellV) (w : World) (e : Ending) (w' : World) : Prop :=
  (readF l = none ∧ e = .returned nilPart ∧ Below w.heap.size w w') ∨
  (∃ t T g fp, readF l = some t ∧ e = .returned (.iface T (.pointer (some ⟨g, 0, none⟩))) ∧ t.At w' 0 (.iface T (.pointer (some ⟨g, 0, none⟩))) fp ∧ fp.Nodup ∧ (∀ q ∈ fp, w.heap.size ≤ q) ∧ Below w.heap.size w w')

theorem readF_long {l : List CellV} (h : 63 < l.length) : readF l = none := by unfold readF; rw [if_pos h]
theorem readF_none {l : List CellV} (h : takeF l 0 = none) : readF l = none := by
  unfold readF
  split
  · rfl
  · rw [h]
theorem readF_some {l : List CellV} {t : Tree} {r : List CellV} (h0 : ¬ 63 < l.length) (h : takeF l 0 = some (t, r)) : readF l = if t.sound = true ∧ (t.moved 0 0).tell 0 = l ∧ fewB (idsOf l) = true then some (t.moved 0 0) else none := by
  unfold readF
  rw [if_neg h0, h]

theorem read_long (v : Value) (l : List CellV) (w : World) (h : CellsIn w v l) (hl : 63 < l.length) : Calls Tryz.prog 37 #[v] w (ReadGood l w) := by
  obtain ⟨ad, cap, rfl⟩ := h.length
  have HF : Hid (ReadGood l w (.returned nilPart) w) := .inl ⟨readF_long hl, rfl, Below.refl _ _⟩
  obtain ⟨n, hn⟩ : ∃ n, l.length = n := ⟨_, rfl⟩
  rw [hn] at hl ⊢
  have hi : (63 : Int) < n := by omega
  clear hn h hl
  go_enter Tryz.func37, Tryz.ntmps37
  go_wp2
  go_ret
  exact HF.out

theorem few_any (u : Value) (zs : List Int) (w0 w : World) (B : Nat) (h : IOwns w B u zs) (hw : Below B w0 w) (hn : zs.length ≤ 1000000) : Calls Tryz.prog 53 #[u] w fun e w' => e = .returned (.bool (fewB zs)) ∧ Below B w0 w' := by
  rcases h.2 with ⟨rfl, h0⟩ | ⟨g, cap, cur, rfl, hb, r⟩
  · have : zs = [] := List.length_eq_zero_iff.1 h0
    subst this
    exact (few_none none 0 w).mono fun e w' h => ⟨h.1, h.2 ▸ hw⟩
  · exact few_some g cap zs.length zs B w0 w h rfl hw hn

/-- What the tree does, one call behind the other. -/
structure Behind (l : List CellV) (v : Value) (t : Tree) (T : TypeId) (g : Nat) (fp : List Nat) (w w1 : World) (Fs : FuncId) : Prop where
  mS : ∀ W, (method 290 T (.pointer (some ⟨g, 0, none⟩)) "mullion/layout.sound").run Tryz.prog W = .ok (Fs, .pointer (some ⟨g, 0, none⟩)) W
  fS : ∀ a W, (callFunc Fs #[a]).run Tryz.prog W = .ok (.enter Fs #[a]) W
  cS : Calls Tryz.prog Fs #[.pointer (some ⟨g, 0, none⟩)] w1 fun e w2 => e = .returned (.bool t.sound) ∧ Below w1.heap.size w1 w2
  cL : ∀ w2, Below w1.heap.size w1 w2 → t.sound = true → Calls Tryz.prog 52 #[.iface T (.pointer (some ⟨g, 0, none⟩))] w2 fun e w3 => ∃ u, e = .returned u ∧ Below w.heap.size w w3 ∧
    Calls Tryz.prog 51 #[u, v] w3 fun e w4 => e = .returned (.bool (decide ((t.moved 0 0).tell 0 = l))) ∧ Below w.heap.size w w4 ∧
    Calls Tryz.prog 38 #[v] w4 fun e w5 => ∃ z, e = .returned z ∧ Below w.heap.size w w5 ∧
    Calls Tryz.prog 53 #[z] w5 fun e w6 => e = .returned (.bool (fewB (idsOf l))) ∧ Below w.heap.size w w6 ∧ (t.moved 0 0).At w6 0 (.iface T (.pointer (some ⟨g, 0, none⟩))) fp

theorem behind (l : List CellV) (v : Value) (t : Tree) (T : TypeId) (g : Nat) (fp : List Nat) (w w1 : World) (hv : CellsIn w v l) (hl : ¬ 63 < l.length) (r : List CellV) (hF : takeF l 0 = some (t, r)) (hAt : t.At w1 0 (.iface T (.pointer (some ⟨g, 0, none⟩))) fp) (hnd : fp.Nodup) (hge : ∀ q ∈ fp, w.heap.size ≤ q) (hb : Below w.heap.size w w1) : ∃ Fs, Behind l v t T g fp w w1 Fs := by
  obtain ⟨hfi, hsz⟩ := (takes_fine l.length l 0 (Nat.le_refl _) (by omega)).1 t r hF
  obtain ⟨T', gi, Fs, Fa, hp⟩ := hAt.partS hfi
  have e := hp.val
  cases e
  refine ⟨Fs, hp.mS, hp.fS, hp.cS w1 (Below.refl _ _), fun w2 h2 hs => ?_⟩
  have hAt2 := hAt.below h2
  refine (lay_any t 0 _ fp w2 hAt2 hnd hs hfi (by omega)).mono ?_
  rintro e w3 ⟨u, rfl, hu, hAt3, hbut⟩
  have hb2 : Below w.heap.size w w2 := below_step hb h2
  have hb3 : Below w.heap.size w w3 := ⟨hbut.os.trans hb2.os, hbut.tape.trans hb2.tape, hbut.output.trans hb2.output, Nat.le_trans hb2.size hbut.size, fun q hq => (hbut.block q (by have := hb2.size; omega) (fun e => by have := hge q e; omega)).trans (hb2.block q hq)⟩
  refine ⟨u, rfl, hb3, ?_⟩
  refine (equal_any u v _ l w3 hu.cellsIn (hv.below hb3) (by rw [Tree.tell_length, Tree.size_moved]; omega)).mono ?_
  rintro e w4 ⟨rfl, h4⟩
  have hb4 := below_step hb3 h4
  refine ⟨rfl, hb4, ?_⟩
  refine (paneIds_any v l w4 (hv.below hb4) (by omega)).mono ?_
  rintro e w5 ⟨z, rfl, hz, h5⟩
  refine ⟨z, rfl, below_step hb4 h5, ?_⟩
  refine (few_any z _ w4 w5 w4.heap.size hz h5 (by have := idsOf_length l; omega)).mono ?_
  rintro e w6 ⟨rfl, h6⟩
  exact ⟨rfl, below_step hb4 h6, (hAt3.below h4).below h6⟩

set_option maxHeartbeats 1000000 in
theorem read_short (v : Value) (l : List CellV) (w : World) (h : CellsIn w v l) (hl : ¬ 63 < l.length) : Calls Tryz.prog 37 #[v] w (ReadGood l w) := by
  have HT : Hid (Calls Tryz.prog 50 #[v, .int .i64 0] w (TakeGood w l v 0 w)) := take_any l.length l v 0 w w (Nat.le_refl _) (by omega) (Below.refl _ _) h
  have HV : Hid (CellsIn w v l) := h
  have HL : Hid (¬ 63 < l.length) := hl
  obtain ⟨ad, cap, hvv⟩ := h.length
  obtain ⟨n, hn⟩ : ∃ n, l.length = n := ⟨_, rfl⟩
  rw [hn] at hvv
  have hi : ¬ ((63 : Int) < n) := by omega
  subst hvv
  clear hn h hl
  go_enter Tryz.func37, Tryz.ntmps37
  go_wp2_with fail
  refine HT.out.mono ?_
  rintro e w1 (⟨hF, rfl, hb⟩ | ⟨t, r, T, g, fp, v', hF, rfl, hAt, hnd, hge, hc, hb⟩)
  · have HG : Hid (ReadGood l w (.returned nilPart) w1) := .inl ⟨readF_none hF, rfl, hb⟩
    clear hF hb
    unfold nilPart at HG ⊢
    go_wp2
    go_ret
    exact HG.out
  · have HRF : Hid (readF l = _) := readF_some HL.out hF
    obtain ⟨Fs, HBe⟩ := behind l _ t T g fp w w1 HV.out HL.out r hF hAt hnd hge hb
    have HP : Hid (Behind l _ t T g fp w w1 Fs) := HBe
    have m1 := HBe.mS
    have m2 := HBe.fS
    have HND : Hid (fp.Nodup ∧ (∀ q ∈ fp, w.heap.size ≤ q)) := ⟨hnd, hge⟩
    have HB1 : Hid (Below w.heap.size w w1) := hb
    clear hF hAt hnd hge hc hb HBe
    go_wp2_with fail
    refine HP.out.cS.mono ?_
    rintro e w2 ⟨rfl, hb2⟩
    have HcL : Hid (t.sound = true → _) := HP.out.cL w2 hb2
    have HB2 : Hid (Below w.heap.size w w2) := below_step HB1.out hb2
    obtain ⟨sd, hsd⟩ : ∃ s, t.sound = s := ⟨_, rfl⟩
    rw [hsd] at HRF HcL
    rw [hsd]
    clear HP hb2 HB1 hsd m1 m2
    cases sd
    · have HG : Hid (ReadGood l w (.returned nilPart) w2) := .inl ⟨by rw [HRF.out]; simp, rfl, HB2.out⟩
      unfold nilPart at HG
      go_wp2
      go_ret
      exact HG.out
    · have HcL2 : Hid (Calls Tryz.prog 52 _ w2 _) := HcL.out rfl
      clear HcL
      go_wp2_with fail
      refine HcL2.out.mono ?_
      rintro e w3 ⟨u, rfl, hb3, hc3⟩
      have HC3 : Hid (Calls Tryz.prog 51 _ w3 _) := hc3
      clear hb3 hc3
      go_wp2_with fail
      refine HC3.out.mono ?_
      rintro e w4 ⟨rfl, hb4, hc4⟩
      have HB4 : Hid (Below w.heap.size w w4) := hb4
      have HC4 : Hid (Calls Tryz.prog 38 _ w4 _) := hc4
      obtain ⟨q, hq⟩ : ∃ q, decide ((t.moved 0 0).tell 0 = l) = q := ⟨_, rfl⟩
      rw [hq]
      have HQ : Hid (decide ((t.moved 0 0).tell 0 = l) = q) := hq
      clear hb4 hc4 hq
      cases q
      · have HG : Hid (ReadGood l w (.returned nilPart) w4) := .inl ⟨by rw [HRF.out, if_neg (fun h => (of_decide_eq_false HQ.out) h.2.1)], rfl, HB4.out⟩
        unfold nilPart at HG
        go_wp2
        go_ret
        exact HG.out
      · go_wp2_with fail
        refine HC4.out.mono ?_
        rintro e w5 ⟨z, rfl, hb5, hc5⟩
        have HC5 : Hid (Calls Tryz.prog 53 _ w5 _) := hc5
        clear hb5 hc5
        go_wp2_with fail
        refine HC5.out.mono ?_
        rintro e w6 ⟨rfl, hb6, hat6⟩
        obtain ⟨f, hf⟩ : ∃ f, fewB (idsOf l) = f := ⟨_, rfl⟩
        rw [hf]
        cases f
        · have HG : Hid (ReadGood l w (.returned nilPart) w6) := .inl ⟨by rw [HRF.out, hf]; simp, rfl, hb6⟩
          unfold nilPart at HG
          clear hb6 hat6 hf
          go_wp2
          go_ret
          exact HG.out
        · have HG : Hid (ReadGood l w (.returned (.iface T (.pointer (some ⟨g, 0, none⟩)))) w6) := .inr ⟨t.moved 0 0, T, g, fp, by rw [HRF.out, hf, if_pos (by simp [of_decide_eq_true HQ.out])], rfl, hat6, HND.out.1, HND.out.2, hb6⟩
          clear hb6 hat6 hf
          go_wp2
          go_ret
          exact HG.out

theorem read_any (v : Value) (l : List CellV) (w : World) (h : CellsIn w v l) : Calls Tryz.prog 37 #[v] w (ReadGood l w) := by
  by_cases hl : 63 < l.length
  · exact read_long v l w h hl
  · exact read_short v l w h hl

def checkE (l : List CellV) : Int := if (readF l).isNone then 40 else 0
theorem check_any (v : Value) (l : List CellV) (w : World) (h : CellsIn w v l) : Calls Tryz.prog 22 #[v] w fun e w' => e = .returned (.int .i64 (checkE l)) ∧ Below w.heap.size w w' := by
  have HR : Hid (Calls Tryz.prog 37 #[v] w (ReadGood l w)) := read_any v l w h
  clear h
  go_enter Tryz.func22, Tryz.ntmps22
  go_wp2_with fail
  refine HR.out.mono ?_
  rintro e w1 (⟨hF, rfl, hb⟩ | ⟨t, T, g, fp, hF, rfl, hAt, hnd, hge, hb⟩)
  · have HE : Hid (checkE l = 40) := by show checkE l = 40; unfold checkE; rw [hF]; rfl
    unfold nilPart
    clear hF
    go_wp2
    go_ret
    exact ⟨by rw [HE.out]; rfl, hb⟩
  · have HE : Hid (checkE l = 0) := by show checkE l = 0; unfold checkE; rw [hF]; rfl
    clear hF hAt hnd hge
    go_wp2
    go_ret
    exact ⟨by rw [HE.out]; rfl, hb⟩

end Go.Proofs.YtglncninkocgaabGreatDoor

namespace Go.Proofs.YtglncninkocgaabGreatDoor
open Go.RowKit
set_option linter.unusedVariables false

/-- The document's cell with its children. -/
inductive Node where
  | mk (k w h i : Int) (ks : List Node)
def Node.k : Node → Int | .mk k _ _ _ _ => k
def Node.w : Node → Int | .mk _ w _ _ _ => w
def Node.h : Node → Int | .mk _ _ h _ _ => h
def Node.i : Node → Int | .mk _ _ _ i _ => i
def Node.ks : Node → List Node | .mk _ _ _ _ ks => ks
def Node.ext (n : Node) (d : Int) : Int := if d = 2 then n.w else n.h

mutual
def nodeOf : Tree → Node
  | .leaf b p => .mk 1 b.w b.h p []
  | .split b k ts => .mk k b.w b.h 0 (nodesOf ts)
def nodesOf : List Tree → List Node
  | [] => []
  | t :: ts => nodeOf t :: nodesOf ts
end
mutual
def growT : Nat → CellV → List CellV → Node × List CellV
  | 0, c, r => (.mk c.kind c.w c.h c.p [], r)
  | n + 1, c, r => (.mk c.kind c.w c.h c.p (growAllT n c.depth r).1, (growAllT n c.depth r).2)
def growAllT : Nat → Int → List CellV → List Node × List CellV
  | 0, _, r => ([], r)
  | n + 1, d, r => match r with
    | [] => ([], [])
    | c :: r => if d < c.depth then ((growT n c r).1 :: (growAllT n d (growT n c r).2).1, (growAllT n d (growT n c r).2).2) else ([], c :: r)
end
mutual
def Node.ok : Node → Bool
  | .mk k w h i ks => ((decide (1 ≤ w) && decide (1 ≤ h)) && (decide (1 ≤ k) && decide (k ≤ 3))) &&
    (if k = 1 then (decide (ks.length = 0) && idB i) else ((decide (2 ≤ ks.length) && decide (i = 0)) && (oksAll ks k w h && decide (extN ks k = if k = 2 then w else h))))
def oksAll : List Node → Int → Int → Int → Bool
  | [], _, _, _ => true
  | n :: r, k, w, h => (((!decide (n.k = k)) && (decide (n.w ≤ w) && decide (n.h ≤ h))) && (n.ok && (if k = 2 then decide (n.h = h) else decide (n.w = w)))) && oksAll r k w h
def extN : List Node → Int → Int
  | [], _ => -1
  | n :: r, k => n.ext k + 1 + extN r k
end
mutual
def Node.ids : Node → List Int
  | .mk k _ _ i ks => if k = 1 then [i] else idsAll ks
def idsAll : List Node → List Int
  | [] => []
  | n :: r => n.ids ++ idsAll r
end
def stepsOk : Int → List CellV → Bool
  | _, [] => true
  | p, c :: r => (decide (1 ≤ c.depth) && decide (c.depth ≤ p + 1)) && stepsOk c.depth r
/-- What stands behind a part of that depth. -/
def Low (d : Int) (r : List CellV) : Prop := r = [] ∨ ∃ c r', r = c :: r' ∧ c.depth ≤ d

theorem tell_head (t : Tree) (d : Int) : ∃ c r, t.tell d = c :: r ∧ c.depth = d := by
  cases t with
  | leaf b p => exact ⟨_, _, rfl, rfl⟩
  | split b k ts => exact ⟨_, _, rfl, rfl⟩
theorem low_tellAll (ts : List Tree) (d : Int) (r : List CellV) (h : Low d r) : Low d (tellAll ts d ++ r) := by
  cases ts with
  | nil => exact h
  | cons t ts =>
    obtain ⟨c, r', h1, h2⟩ := tell_head t d
    refine .inr ⟨c, r' ++ tellAll ts d ++ r, ?_, by omega⟩
    show (t.tell d ++ tellAll ts d) ++ r = _
    rw [h1]
    simp
theorem Low.mono {d e : Int} {r : List CellV} (h : Low d r) (hd : d ≤ e) : Low e r := by
  rcases h with h | ⟨c, r', h1, h2⟩
  · exact .inl h
  · exact .inr ⟨c, r', h1, by omega⟩

theorem growAll_low (n : Nat) (d : Int) (r : List CellV) (h : Low d r) : growAllT n d r = ([], r) := by
  cases n with
  | zero => rfl
  | succ n =>
    rcases h with rfl | ⟨c, r', rfl, h2⟩
    · rfl
    · unfold growAllT
      simp only []
      rw [if_neg (by omega)]

mutual
theorem grow_told : ∀ (t : Tree) (d : Int) (m : Nat) (r : List CellV) (c : CellV) (l : List CellV), 2 * t.size ≤ m → Low d r → t.tell d ++ r = c :: l → growT m c l = (nodeOf t, r)
  | .leaf b p, d, m, r, c, l, hm, hl, he => by
    have he' : (⟨d, 1, b.x, b.y, b.w, b.h, p⟩ : CellV) :: r = c :: l := he
    cases he'
    cases m with
    | zero => rfl
    | succ n =>
      unfold growT
      rw [growAll_low n d r hl]
      rfl
  | .split b k ts, d, m, r, c, l, hm, hl, he => by
    have he' : (⟨d, k, b.x, b.y, b.w, b.h, 0⟩ : CellV) :: (tellAll ts (d + 1) ++ r) = c :: l := he
    cases he'
    unfold Tree.size at hm
    obtain ⟨n, rfl⟩ : ∃ n, m = n + 1 := ⟨m - 1, by omega⟩
    unfold growT
    rw [growAll_told ts d n r (by omega) hl]
    rfl
theorem growAll_told : ∀ (ts : List Tree) (d : Int) (m : Nat) (r : List CellV), 2 * sizes ts + 1 ≤ m → Low d r → growAllT m d (tellAll ts (d + 1) ++ r) = (nodesOf ts, r)
  | [], d, m, r, hm, hl => growAll_low m d r hl
  | t :: ts, d, m, r, hm, hl => by
    obtain ⟨n, rfl⟩ : ∃ n, m = n + 1 := ⟨m - 1, by omega⟩
    unfold sizes at hm
    have hp := t.size_pos
    obtain ⟨c, l, h1, h2⟩ := tell_head t (d + 1)
    have hlow : Low (d + 1) (tellAll ts (d + 1) ++ r) := low_tellAll ts (d + 1) r (hl.mono (by omega))
    have hg := grow_told t (d + 1) n (tellAll ts (d + 1) ++ r) c (l ++ (tellAll ts (d + 1) ++ r)) (by omega) hlow (by rw [h1]; rfl)
    have ih := growAll_told ts d n r (by omega) hl
    show growAllT (n + 1) d ((t.tell (d + 1) ++ tellAll ts (d + 1)) ++ r) = _
    rw [List.append_assoc, h1]
    show growAllT (n + 1) d (c :: (l ++ (tellAll ts (d + 1) ++ r))) = _
    unfold growAllT
    simp only []
    rw [if_pos (by omega), hg]
    simp only []
    rw [ih]
    rfl
end

mutual
theorem take_told : ∀ (t : Tree) (d : Int) (r : List CellV), t.kinds → Low d r → takeF (t.tell d ++ r) d = some (t, r)
  | .leaf b p, d, r, hk, hl => by
    show takeF ((⟨d, 1, b.x, b.y, b.w, b.h, p⟩ : CellV) :: r) d = _
    rw [takeF_cons, if_pos rfl, if_pos rfl]
    rfl
  | .split b k ts, d, r, hk, hl => by
    show takeF ((⟨d, k, b.x, b.y, b.w, b.h, 0⟩ : CellV) :: (tellAll ts (d + 1) ++ r)) d = _
    rw [takeF_cons, if_pos rfl, if_neg (by show ¬ k = 1; rcases hk.1 with h | h <;> omega), if_pos hk.1, takeAll_told ts (d + 1) r hk.2 (hl.mono (by omega)) (by
      rcases hl with rfl | ⟨c, r', rfl, h2⟩
      · exact .inl rfl
      · exact .inr ⟨c, r', rfl, by omega⟩)]
    rfl
theorem takeAll_told : ∀ (ts : List Tree) (d : Int) (r : List CellV), kindsAll ts → Low d r → (r = [] ∨ ∃ c r', r = c :: r' ∧ c.depth ≠ d) → takeAllF (tellAll ts d ++ r) d = (ts, r)
  | [], d, r, hk, hl, hr => by
    show takeAllF r d = _
    rw [takeAllF_eq]
    rcases hr with rfl | ⟨c, r', rfl, h⟩
    · rw [takeF_nil]
    · rw [takeF_cons, if_neg h]
  | t :: ts, d, r, hk, hl, hr => by
    show takeAllF ((t.tell d ++ tellAll ts d) ++ r) d = _
    rw [List.append_assoc, takeAllF_eq, take_told t d (tellAll ts d ++ r) hk.1 (low_tellAll ts d r hl)]
    simp only []
    rw [takeAll_told ts d r hk.2 hl hr]
end

mutual
theorem steps_tell : ∀ (t : Tree) (d p : Int) (r : List CellV), 1 ≤ d → d ≤ p + 1 → (∀ q, d ≤ q → stepsOk q r = true) → stepsOk p (t.tell d ++ r) = true
  | .leaf b q, d, p, r, h1, h2, hr => by
    show ((decide (1 ≤ d) && decide (d ≤ p + 1)) && stepsOk d r) = true
    rw [hr d (by omega)]
    simp [h1, h2]
  | .split b k ts, d, p, r, h1, h2, hr => by
    show ((decide (1 ≤ d) && decide (d ≤ p + 1)) && stepsOk d (tellAll ts (d + 1) ++ r)) = true
    rw [steps_tellAll ts (d + 1) d r (by omega) (by omega) (fun q hq => hr q (by omega))]
    simp [h1, h2]
theorem steps_tellAll : ∀ (ts : List Tree) (d p : Int) (r : List CellV), 1 ≤ d → d ≤ p + 1 → (∀ q, d ≤ q + 1 → stepsOk q r = true) → stepsOk p (tellAll ts d ++ r) = true
  | [], d, p, r, h1, h2, hr => hr p h2
  | t :: ts, d, p, r, h1, h2, hr => by
    show stepsOk p ((t.tell d ++ tellAll ts d) ++ r) = true
    rw [List.append_assoc]
    exact steps_tell t d p _ h1 h2 (fun q hq => steps_tellAll ts d q r h1 (by omega) hr)
end

mutual
theorem ids_told : ∀ (t : Tree) (d : Int), t.kinds → (nodeOf t).ids = idsOf (t.tell d)
  | .leaf b p, d, hk => by
    show (if (1 : Int) = 1 then [p] else idsAll []) = _
    rw [if_pos rfl]
    rfl
  | .split b k ts, d, hk => by
    have h1 : ¬ k = 1 := by rcases hk.1 with h | h <;> omega
    show (if k = 1 then [0] else idsAll (nodesOf ts)) = idsOf ((⟨d, k, b.x, b.y, b.w, b.h, 0⟩ : CellV) :: tellAll ts (d + 1))
    rw [if_neg h1, ids_toldAll ts (d + 1) hk.2]
    unfold idsOf
    rw [List.filter_cons_of_neg (by simpa using h1)]
theorem ids_toldAll : ∀ (ts : List Tree) (d : Int), kindsAll ts → idsAll (nodesOf ts) = idsOf (tellAll ts d)
  | [], d, hk => rfl
  | t :: ts, d, hk => by
    show (nodeOf t).ids ++ idsAll (nodesOf ts) = idsOf (t.tell d ++ tellAll ts d)
    rw [ids_told t d hk.1, ids_toldAll ts d hk.2]
    unfold idsOf
    rw [List.filter_append, List.map_append]
end

mutual
theorem size_ids : ∀ (t : Tree), t.kinds → t.sound = true → t.size + 1 ≤ 2 * (nodeOf t).ids.length
  | .leaf b p, hk, hs => by
    show 1 + 1 ≤ 2 * (if (1 : Int) = 1 then [p] else idsAll []).length
    rw [if_pos rfl]
    exact Nat.le_refl _
  | .split b k ts, hk, hs => by
    have h1 : ¬ k = 1 := by rcases hk.1 with h | h <;> omega
    unfold Tree.sound at hs
    simp only [Bool.and_eq_true, decide_eq_true_eq] at hs
    have := sizes_ids ts b k hk.2 hs.2.1
    have h2 := hs.1.1
    show 1 + sizes ts + 1 ≤ 2 * (if k = 1 then [0] else idsAll (nodesOf ts)).length
    rw [if_neg h1]
    omega
theorem sizes_ids : ∀ (ts : List Tree) (b : Box) (k : Int), kindsAll ts → soundAll ts b k = true → sizes ts + ts.length ≤ 2 * (idsAll (nodesOf ts)).length
  | [], b, k, hk, hs => Nat.le_refl _
  | t :: ts, b, k, hk, hs => by
    unfold soundAll at hs
    simp only [Bool.and_eq_true] at hs
    have h1 := size_ids t hk.1 hs.1.1
    have h2 := sizes_ids ts b k hk.2 hs.2
    show t.size + sizes ts + (ts.length + 1) ≤ 2 * ((nodeOf t).ids ++ idsAll (nodesOf ts)).length
    rw [List.length_append]
    omega
end

theorem nodeOf_w (t : Tree) : (nodeOf t).w = t.box.w := by cases t <;> rfl
theorem nodeOf_h (t : Tree) : (nodeOf t).h = t.box.h := by cases t <;> rfl
theorem nodeOf_ext (t : Tree) (k : Int) : (nodeOf t).ext k = t.box.ext k := by
  unfold Node.ext Box.ext
  rw [nodeOf_w, nodeOf_h]
theorem nodesOf_length : ∀ (ts : List Tree), (nodesOf ts).length = ts.length
  | [] => rfl
  | t :: ts => by
    show (nodesOf ts).length + 1 = ts.length + 1
    rw [nodesOf_length ts]
theorem extN_told : ∀ (ts : List Tree) (k : Int), extN (nodesOf ts) k = extAll ts k
  | [], k => rfl
  | t :: ts, k => by
    show (nodeOf t).ext k + 1 + extN (nodesOf ts) k = t.box.ext k + 1 + extAll ts k
    rw [nodeOf_ext, extN_told ts k]
theorem extAll_pos (ts : List Tree) (b : Box) (k : Int) (h : soundAll ts b k = true) : -1 ≤ extAll ts k := by
  induction ts with
  | nil => exact Int.le_refl _
  | cons t ts ih =>
    have hs := ext_side (t :: ts) b k 0 t rfl h
    unfold soundAll at h
    simp only [Bool.and_eq_true] at h
    have := ih h.2
    show -1 ≤ t.box.ext k + 1 + extAll ts k
    omega
theorem ext_le_all (ts : List Tree) (b : Box) (k : Int) (h : soundAll ts b k = true) : ∀ t ∈ ts, t.box.ext k ≤ extAll ts k := by
  induction ts with
  | nil => intro t ht; cases ht
  | cons a ts ih =>
    intro t ht
    have ha := ext_side (a :: ts) b k 0 a rfl h
    have hp := extAll_pos (a :: ts) b k h
    unfold soundAll at h
    simp only [Bool.and_eq_true] at h
    have hp2 := extAll_pos ts b k h.2
    show t.box.ext k ≤ a.box.ext k + 1 + extAll ts k
    rcases List.mem_cons.1 ht with rfl | ht
    · omega
    · have := ih h.2 t ht
      omega
theorem nodeOf_kind (t : Tree) (k : Int) (hk : k = 2 ∨ k = 3) (h : t.kindIs k = false) : ¬ (nodeOf t).k = k := by
  cases t with
  | leaf b p =>
    show ¬ (1 : Int) = k
    rcases hk with h | h <;> omega
  | split b j ts =>
    show ¬ j = k
    exact of_decide_eq_false h

end Go.Proofs.YtglncninkocgaabGreatDoor
