/-
  Binds: New.
  Binds: what the tables of the beginning hold (pure).
-/
import Derived.Test.YtbonnjilbocldaaGreatDoorHK
import Derived.Test.YtbonnjilbocldaaGreatDoorBEnt
namespace Go.Proofs.YtbonnjilbocldaaGreatDoor
open Go.RowKit
set_option linter.unusedVariables false
set_option maxRecDepth 100000

theorem see_flat {w : World} {g n c : Nat} {cells : Array Value} {l : List Rw} {T : TypeId} (h : w.heap[g]? = some (.cells cells T (0, 0))) (e : cells.toList = l.flatMap rowC) (hn : n = l.length) : SeeR w (.slice (some ⟨g, 0, none⟩) n c) l := by
  subst hn
  refine ⟨g, 0, c, rfl, fun j hj => ?_⟩
  rw [Nat.zero_add, cell_at h, cell_at h, ← Array.getElem?_toList, ← Array.getElem?_toList, e]
  have h0 := flat_row l j hj 0 (by omega)
  have h1 := flat_row l j hj 1 (by omega)
  rw [Nat.add_zero] at h0
  exact ⟨h0, h1⟩
theorem Tn.below {w0 w w' : World} {d b n : Nat} {D : DataW Unit} (h : Tn w w' d b n D) (hb : Below w0.heap.size w0 w) (hB : w0.heap.size ≤ b) : Below w0.heap.size w0 w' :=
  ⟨h.but.os.trans hb.os, h.but.tape.trans hb.tape, h.but.output.trans hb.output, Nat.le_trans hb.size h.but.size, fun i hi => (h.but.block i (Nat.lt_of_lt_of_le hi hb.size) (by simp; omega)).trans (hb.block i hi)⟩
theorem SeeR.apart {w : World} {d b n : Nat} {D : DataW Unit} (h : Tb w d b n D) {v : Value} {l : List Rw} (hv : SeeR w v l) (hl : l ≠ []) : ∀ g, v.ownBlock = some g → g ≠ b := by
  obtain ⟨g, o, c, rfl, hc⟩ := hv
  intro q hq e
  have hg : g = q := Option.some.inj hq
  obtain ⟨es, clock, hb, _⟩ := h.own
  have h0 := (hc 0 (List.length_pos_iff.2 hl)).1
  rw [hg, e] at h0
  unfold World.cell? at h0
  rw [hb] at h0
  cases h0
def copyS : ByteArray := ⟨#[99, 111, 112, 121, 45, 109, 111, 100, 101]⟩
def D1 : DataW Unit := allD (.map []) prefixS false (preL 10)
def D2 : DataW Unit := allD D1 prefixS true repL
def D0 : DataW Unit := allD D2 copyS false cpyL
theorem tb_start (w : World) : Tb ((w.alloc (.map #[] 0)).alloc (.cells #[.map (some w.heap.size)] 66)) (w.heap.size + 1) w.heap.size 0 (.map []) := by
  refine ⟨?_, (World.ownsMap_made _ _ _ _).alloc _, fun k s r h => ?_⟩
  · have e : (w.alloc (.map #[] 0)).heap.size = w.heap.size + 1 := by simp
    rw [← e]
    exact heap_alloc_new _ _
  · have : s = ⟨#[]⟩ := (meanD_inj (h.symm.trans (rfl : (DataW.map ([] : List (Lit × DataW Unit))).atKey k zeroD = zeroD))).1
    rw [this]
    decide
theorem len_rep : repL.length = 8 := rfl
theorem len_cpy : cpyL.length = 20 := rfl
set_option maxHeartbeats 4000000 in
theorem new_any {w : World} (hT : Tabs w) (hw : 5 < w.heap.size) : Calls Tryz.prog 7 #[] w fun e w' => e = .returned (.pointer (some ⟨w.heap.size + 1, 0, none⟩)) ∧ Tb w' (w.heap.size + 1) w.heap.size 60 D0 ∧ Below w.heap.size w w' := by
  have hmm := @run_makeMap Tryz.prog
  obtain ⟨W2, hW2⟩ : ∃ W, (w.alloc (.map #[] 0)).alloc (.cells #[.map (some w.heap.size)] 66) = W := ⟨_, rfl⟩
  have ht0 := tb_start w
  have hb0 : Below w.heap.size w W2 := by rw [← hW2]; exact ((Below.refl _ _).alloc (Nat.le_refl _) _).alloc (by simp) _
  rw [hW2] at ht0
  obtain ⟨B, hB⟩ : ∃ B, w.heap.size = B := ⟨_, rfl⟩
  have HTb : Hid (∀ Y, Below B w Y → Tabs Y) := fun Y hY => hT.below (by rw [hB]; exact hY)
  have HBl : Hid (∀ X Y n D, Tn X Y (B + 1) B n D → Below B w X → Below B w Y) := fun X Y n D h hb => by
    subst hB
    exact h.below hb (Nat.le_refl _)
  have HBs : Hid (∀ X Y, Below B w X → Below X.heap.size X Y → Below B w Y) := fun X Y h k => by
    subst hB
    exact below_step h k
  have HTw := hidK hw
  rw [hB] at ht0 hW2 hb0 HTw ⊢
  have HT0 := hidK ht0
  have HB0 := hidK hb0
  have HP := prefixRows_any W2
  clear ht0 hb0 hT hw
  go_enter Tryz.func7, Tryz.ntmps7
  go_wp2_with fail
  refine HP.mono ?_
  rintro e Y1 ⟨v1, rfl, hs1, hb1⟩
  have HT1 := hidK (HT0.out.more hb1)
  have HB1 := hidK (HBs.out _ _ HB0.out hb1)
  have HA1 := bindAll_any HT1.out (HTb.out _ HB1.out) HTw.out prefixS false v1 (preL 10) hs1 preL_ok (by rw [preL_len]; omega) (by decide) (hs1.apart HT1.out (by unfold preL preS; simp))
  rw [preL_len] at HA1
  clear hb1 hW2 HP hs1
  go_wp2_with fail
  refine HA1.mono ?_
  rintro e Y2 ⟨rfl, htn2⟩
  have HT2 : Hid (Tb Y2 (B + 1) B 32 D1) := htn2.tb
  have HB2 := hidK (HBl.out _ _ _ _ htn2 HB1.out)
  clear htn2 HA1 HT1 HB1
  have HR := repeatRows_any Y2
  go_wp2_with fail
  refine HR.mono ?_
  rintro e Y3 ⟨rfl, hb3, hg3⟩
  have hs3 := see_flat (n := 8) (c := 8) (l := repL) hg3 rfl rfl
  have HT3 := hidK (HT2.out.more hb3)
  have HB3 := hidK (HBs.out _ _ HB2.out hb3)
  have HA3 := bindAll_any HT3.out (HTb.out _ HB3.out) HTw.out prefixS true _ repL hs3 repL_ok (by rw [len_rep]; omega) (by decide) (hs3.apart HT3.out (by unfold repL; simp))
  rw [len_rep] at HA3
  clear hb3 hg3 HR hs3
  go_wp2_with fail
  refine HA3.mono ?_
  rintro e Y4 ⟨rfl, htn4⟩
  have HT4 : Hid (Tb Y4 (B + 1) B 40 D2) := htn4.tb
  have HB4 := hidK (HBl.out _ _ _ _ htn4 HB3.out)
  clear htn4 HA3 HT3 HB3
  have HR := copyRows_any Y4
  go_wp2_with fail
  refine HR.mono ?_
  rintro e Y5 ⟨rfl, hb5, hg5⟩
  have hs5 := see_flat (n := 20) (c := 20) (l := cpyL) hg5 rfl rfl
  have HT5 := hidK (HT4.out.more hb5)
  have HB5 := hidK (HBs.out _ _ HB4.out hb5)
  have HA5 := bindAll_any HT5.out (HTb.out _ HB5.out) HTw.out copyS false _ cpyL hs5 cpyL_ok (by rw [len_cpy]; omega) (by decide) (hs5.apart HT5.out (by unfold cpyL; simp))
  rw [len_cpy] at HA5
  clear hb5 hg5 HR hs5
  go_wp2_with fail
  refine HA5.mono ?_
  rintro e Y6 ⟨rfl, htn6⟩
  have HT6 : Hid (Tb Y6 (B + 1) B 60 D0) := htn6.tb
  have HB6 := hidK (HBl.out _ _ _ _ htn6 HB5.out)
  clear htn6 HA5 HT5 HB5
  go_wp2_with fail
  go_ret
  exact ⟨rfl, HT6.out, HB6.out⟩
end Go.Proofs.YtbonnjilbocldaaGreatDoor

namespace Go.Proofs.YtbonnjilbocldaaGreatDoor
open Go.RowKit Go.Maps
set_option linter.unusedVariables false
set_option maxRecDepth 100000

/-- The tables hold just these. -/
structure Is (D : DataW Unit) (L : List Ent) : Prop where
  ok : Ok D
  mem : ∀ x, x ∈ L ↔ x.In D
  size : Maps.size D = L.length
theorem is_empty : Is (.map []) [] := ⟨ok_empty, fun x => ⟨fun h => by simp at h, fun h => by have := h.has; simp [Maps.has] at this⟩, by simp [Maps.size]⟩
theorem is_step {D : DataW Unit} {L : List Ent} (h : Is D L) (e : Ent) (hw : e.wf) (h1 : wordB e.t = true) (h2 : validB e.c e.m = true) (h3 : e.ln.size ≤ 8192) (hf : ∀ x ∈ L, ¬ (x.t = e.t ∧ x.c = e.c ∧ x.m = e.m)) (hl : L.length < 200) :
    Is (bndD D e.t e.c e.m e.rp e.ln) (L ++ [e]) := by
  have hno : Maps.has D e.k = false := by
    cases q : Maps.has D e.k
    · rfl
    · obtain ⟨x, hx, hin, _⟩ := h.ok.keys _ q
      exact absurd (Ent.k_inj hin.wf hw hx) (hf x ((h.mem x).2 hin))
  have hk := Ent.key hw
  have hD : bndD D e.t e.c e.m e.rp e.ln = D.put e.k (meanD e.ln e.rp) := by
    unfold bndD
    rw [if_neg]
    · rfl
    · rintro (q | q | q | ⟨_, q⟩)
      · rw [h1] at q; cases q
      · rw [h2] at q; cases q
      · omega
      · have := h.size; omega
  refine ⟨ok_bnd h.ok _ _ _ _ _ hw, fun x => ?_, ?_⟩
  · rw [hD, List.mem_append, List.mem_singleton, h.mem]
    constructor
    · rintro (q | rfl)
      · have hne : x.k ≠ e.k := fun z => by
          have := q.has
          rw [z, hno] at this
          cases this
        exact ⟨q.wf, by rw [has_put_other hne]; exact q.has, by rw [atKey_put_other hne]; exact q.at_⟩
      · exact ⟨hw, has_put_same h.ok.tidy.isMap hk _, atKey_put_same h.ok.tidy.isMap hk _ _⟩
    · intro q
      by_cases hne : x.k = e.k
      · refine .inr (Ent.ext' (Ent.k_inj q.wf hw hne) (meanD_inj ?_))
        rw [← q.at_, hne, atKey_put_same h.ok.tidy.isMap hk]
      · exact .inl ⟨q.wf, by have := q.has; rwa [has_put_other hne] at this, by have := q.at_; rwa [atKey_put_other hne] at this⟩
  · rw [hD, size_put h.ok.tidy, hno, List.length_append, h.size]
    rfl
def entOf (t : ByteArray) (rp : Bool) (r : Rw) : Ent := ⟨t, r.c, r.m, rp, r.line⟩
def apartE (a b : Ent) : Prop := ¬ (a.t = b.t ∧ a.c = b.c ∧ a.m = b.m)
theorem is_all (t : ByteArray) (rp : Bool) (ht : wordB t = true ∧ t.size ≤ 140737488355328) : ∀ (rows : List Rw) (D : DataW Unit) (L : List Ent), Is D L → (∀ r ∈ rows, validB r.c r.m = true ∧ (Lit.int .i64 r.c).wf = true ∧ (Lit.int .i64 r.m).wf = true ∧ r.line.size ≤ 8192) →
    (L ++ rows.map (entOf t rp)).Pairwise apartE → L.length + rows.length ≤ 200 → Is (allD D t rp rows) (L ++ rows.map (entOf t rp))
  | [], D, L, h, _, _, _ => by simpa [allD] using h
  | r :: rows, D, L, h, hr, hp, hl => by
    obtain ⟨r1, r2, r3, r4⟩ := hr r (by simp)
    have e0 : L ++ (r :: rows).map (entOf t rp) = (L ++ [entOf t rp r]) ++ rows.map (entOf t rp) := by simp
    rw [e0] at hp ⊢
    have hs : Is (bndD D t r.c r.m rp r.line) (L ++ [entOf t rp r]) := is_step h (entOf t rp r) ⟨ht.2, r2, r3⟩ ht.1 r1 r4 (fun x hx => by
      have := (List.pairwise_append.1 (List.pairwise_append.1 hp).1).2.2 x hx (entOf t rp r) (by simp)
      exact this) (by simp at hl; omega)
    exact is_all t rp ht rows _ _ hs (fun q hq => hr q (by simp [hq])) hp (by simp at hl ⊢; omega)
def apartB (a b : Ent) : Bool := !(a.t.data.toList == b.t.data.toList && a.c == b.c && a.m == b.m)
theorem apart_of {a b : Ent} (h : apartB a b = true) : apartE a b := fun q => by
  unfold apartB at h
  rw [q.1, q.2.1, q.2.2] at h
  simp at h
def allApart : List Ent → Bool
  | [] => true
  | a :: l => l.all (apartB a) && allApart l
theorem allApart_pw : ∀ {l : List Ent}, allApart l = true → l.Pairwise apartE
  | [], _ => List.Pairwise.nil
  | a :: l, h => by
    unfold allApart at h
    rw [Bool.and_eq_true] at h
    exact List.pairwise_cons.2 ⟨fun b hb => apart_of (List.all_eq_true.1 h.1 b hb), allApart_pw h.2⟩
def goodR (r : Rw) : Bool := validB r.c r.m && (Lit.int .i64 r.c).wf && (Lit.int .i64 r.m).wf && decide (r.line.size ≤ 8192)
theorem good_of {l : List Rw} (h : l.all goodR = true) : ∀ r ∈ l, validB r.c r.m = true ∧ (Lit.int .i64 r.c).wf = true ∧ (Lit.int .i64 r.m).wf = true ∧ r.line.size ≤ 8192 := fun r hr => by
  have := List.all_eq_true.1 h r hr
  unfold goodR at this
  simp only [Bool.and_eq_true, decide_eq_true_eq] at this
  exact ⟨this.1.1.1, this.1.1.2, this.1.2, this.2⟩
def L0 : List Ent := (([] ++ (preL 10).map (entOf prefixS false)) ++ repL.map (entOf prefixS true)) ++ cpyL.map (entOf copyS false)
theorem L0_apart : allApart L0 = true := by kernel_rfl
theorem pre_good : (preL 10).all goodR = true := by kernel_rfl
theorem rep_good : repL.all goodR = true := by kernel_rfl
theorem cpy_good : cpyL.all goodR = true := by kernel_rfl
theorem is_D0 : Is D0 L0 := by
  have hp := allApart_pw L0_apart
  have hp2 := (List.pairwise_append.1 hp).1
  have hp1 := (List.pairwise_append.1 hp2).1
  exact is_all copyS false ⟨by kernel_rfl, by decide⟩ cpyL _ _ (is_all prefixS true ⟨by kernel_rfl, by decide⟩ repL _ _ (is_all prefixS false ⟨by kernel_rfl, by decide⟩ (preL 10) _ _ is_empty (good_of pre_good) hp1 (by decide)) (good_of rep_good) hp2 (by decide)) (good_of cpy_good) hp (by decide)
def inT (t : ByteArray) (e : Ent) : Bool := e.t.data.toList == t.data.toList
theorem inT_iff {t : ByteArray} {e : Ent} : inT t e = true ↔ e.t = t := by
  unfold inT
  simp only [beq_iff_eq]
  exact ⟨fun h => ByteArray.ext (Array.ext' h), fun h => by rw [h]⟩
theorem pre_40 : (L0.filter (inT prefixS)).length = 40 := by kernel_rfl
theorem cpy_20 : (L0.filter (inT copyS)).length = 20 := by kernel_rfl
/-- How long a table's list is. -/
theorem lst_len {D : DataW Unit} {L l : List Ent} {t : ByteArray} (h : Is D L) (hp : L.Pairwise apartE) (hl : Lst D t l) : l.length = (L.filter (inT t)).length := by
  have hm : ∀ x, x ∈ l ↔ x ∈ L.filter (inT t) := fun x => by
    rw [hl.mem, List.mem_filter, h.mem, inT_iff]
    exact ⟨fun q => ⟨q.2, q.1⟩, fun q => ⟨q.2, q.1⟩⟩
  have a := nodup_len (l := l) (es := L.filter (inT t)) (hl.up.imp fun {a b} q e => by subst e; exact keyLt_irrefl _ q) fun x hx => (hm x).1 hx
  have b := nodup_len (l := L.filter (inT t)) (es := l) ((hp.filter _).imp fun {a b} q e => by subst e; exact q ⟨rfl, rfl, rfl⟩) fun x hx => (hm x).2 hx
  omega
theorem len_40 {l : List Ent} (hl : Lst D0 prefixS l) : l.length = 40 := (lst_len is_D0 (allApart_pw L0_apart) hl).trans pre_40
theorem len_20 {l : List Ent} (hl : Lst D0 copyS l) : l.length = 20 := (lst_len is_D0 (allApart_pw L0_apart) hl).trans cpy_20
def lineNW : ByteArray := ⟨#[110, 101, 119, 45, 119, 105, 110, 100, 111, 119]⟩
theorem c_in : Ent.In ⟨prefixS, 99, 0, false, lineNW⟩ D0 := (is_D0.mem _).1 (by
  have : L0[0]? = some ⟨prefixS, 99, 0, false, lineNW⟩ := rfl
  exact List.mem_of_getElem? this)
theorem sure_rest : pressV D0 ⟨#[]⟩ 0 98 4 98 4 1 2 = #[walkV prefixS 0, .string ⟨#[]⟩, .bool false] := by
  unfold pressV resV
  rw [if_pos (.inr rfl), if_pos ⟨rfl, rfl⟩]
theorem sure_new : pressV D0 prefixS 0 98 4 99 0 1 2 = #[restV, .string lineNW, .bool false] := by
  have h1 : fellB D0 prefixS 0 99 0 1 = false := by unfold fellB; simp
  have h2 : getS D0 (slotK prefixS.data.toList 99 0) = (lineNW, false) := getS_of c_in.at_
  have h3 : Maps.has D0 (slotK prefixS.data.toList 99 0) = true := c_in.has
  unfold pressV insV inV
  rw [h1, h2, h3]
  rfl
end Go.Proofs.YtbonnjilbocldaaGreatDoor
