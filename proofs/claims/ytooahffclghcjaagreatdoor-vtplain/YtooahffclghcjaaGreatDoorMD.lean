/-
  The picture that a screen tells.
  Picture.
-/
import Derived.Test.YtooahffclghcjaaGreatDoorVTold
import Derived.Test.YtooahffclghcjaaGreatDoorVWrite
import Derived.Test.YtooahffclghcjaaGreatDoorQApp
import Derived.Deep.RegionLaw
import Derived.Deep.DeepCutAuto
namespace Go.Proofs.YtooahffclghcjaaGreatDoor
open Go.RowKit
set_option linter.unusedVariables false
set_option maxRecDepth 100000

theorem infoGyV : (Tryz.prog.info? 76).map (fun i => (i.zero, i.size, i.bytes)) = some (some (.agg #[.string ⟨#[]⟩, .int .i64 0, .int .i64 0, .int .i64 0, .int .i64 0]), 5, 48) := by kernel_rfl
theorem underGys : Tryz.prog.underlying 71 = some (.slice 76) := by kernel_rfl
theorem infoPic : (Tryz.prog.info? 73).map (·.size) = some 7 := by kernel_rfl
theorem clone_empty (w : World) : Calls Tryz.prog 30 #[.string ⟨#[]⟩] w fun r w' => r = .returned (.string ⟨#[]⟩) ∧ w = w' := by
  have HC : Hid (∀ W, Calls Tryz.prog 49 #[.string ⟨#[]⟩] W fun r w' => r = .returned (.string ⟨#[]⟩) ∧ W = w') := fun W => by
    go_enter Tryz.func49, Tryz.ntmps49
    go_wp2_with fail
    go_ret
    exact ⟨rfl, rfl⟩
  go_enter Tryz.func30, Tryz.ntmps30
  go_wp2_with (go_at_call 49; refine (HC.out _).mono ?_; rintro e w0 ⟨rfl, rfl⟩)
  go_ret
  exact ⟨rfl, rfl⟩
def madeP (W : World) (m : Nat) : World := W.alloc (.cells (madeCells #[.string ⟨#[]⟩, .int .i64 0, .int .i64 0, .int .i64 0, .int .i64 0] (m * 5)) 76)
theorem madeP_run (W : World) (m : Nat) (hm : m ≤ 1000000) : (Instr.makeSlice 71 (.int .i64 0) (.int .i64 (m : Int))).run Tryz.prog W = .ok (.slice (some ⟨W.heap.size, 0, none⟩) 0 m) (madeP W m) := by
  obtain ⟨i, hi, hz, hs, hb⟩ := info_parts infoGyV
  have h := run_make (P := Tryz.prog) W 71 76 i _ underGys hi hz .i64 .i64 0 (m : Int) (by omega) (by omega) (by rw [hb]; omega) (by omega)
  rw [h, hs]
  rw [show ((m : Int)).toNat = m by omega]
  rfl
theorem madeP_row (W : World) (m : Nat) (hm : m ≤ 1000000) : Row (madeP W m) 76 5 (.slice (some ⟨W.heap.size, 0, none⟩) 0 m) 0 [] := by
  refine ⟨rfl, .inr ⟨W.heap.size, 0, m, _, rfl, heap_alloc_new W _, Nat.zero_le _, by unfold maxLen; omega, by simp [madeCells], fun j u hu => by simp at hu⟩⟩
def pic0 : Array Value := #[.int .i64 0, .int .i64 0, .slice none 0 0, .int .i64 0, .int .i64 0, .bool false, .string ⟨#[]⟩]
def picC (s : Sc) (v : Value) : Array Value := #[.int .i64 s.w, .int .i64 s.h, v, .int .i64 s.cur.x, .int .i64 s.cur.y, .bool s.hid, .string ⟨#[]⟩]
def tgsV (xs : List Gl) : List Value := xs.flatMap tgV
theorem tgs_snoc (xs : List Gl) (x : Gl) : tgsV (xs ++ [x]) = tgsV xs ++ tgV x := by simp [tgsV]
/-- A picture that is being told. -/
structure Pic (w wr : World) (s : Sc) (B Bp : Nat) (v : Value) (xs : List Gl) : Prop where
  below : Below w.heap.size w wr
  zero : wr.heap[B]? = some (.cells pic0 73 (0, 0))
  pic : wr.heap[Bp]? = some (.cells (picC s v) 73 (0, 0))
  row : Row wr 76 5 v xs.length (tgsV xs)
  young : ∀ g, v.ownBlock = some g → w.heap.size ≤ g
  yB : w.heap.size ≤ B
  yp : B < Bp
theorem Pic.more {w wr w' : World} {s : Sc} {B Bp : Nat} {v : Value} {xs : List Gl} (h : Pic w wr s B Bp v xs) (hb : Below wr.heap.size wr w') : Pic w w' s B Bp v xs :=
  ⟨h.below.trans (hb.mono h.below.size), (hb.block _ (lt_of_block h.zero)).trans h.zero, (hb.block _ (lt_of_block h.pic)).trans h.pic, h.row.below hb, h.young, h.yB, h.yp⟩
theorem Pic.add {w wr w' : World} {s : Sc} {B Bp : Nat} {v v' : Value} {xs : List Gl} {x : Gl} (h : Pic w wr s B Bp v xs) (hr : Row w' 76 5 v' (xs.length + 1) (tgsV xs ++ tgV x)) (hg : Grown wr w' v v' v.ownBlock.toList) : Pic w (w'.setCell ⟨Bp, 2, none⟩ v') s B Bp v' (xs ++ [x]) := by
  have hne : ∀ k cs, wr.heap[k]? = some (.cells cs 73 (0, 0)) → k ∉ v.ownBlock.toList := fun k cs hk hm => by
    obtain ⟨cur, hc⟩ := h.row.block (by simpa using hm : v.ownBlock = some k)
    rw [hk] at hc
    simp at hc
  have hz : w'.heap[B]? = _ := (hg.but.block _ (lt_of_block h.zero) (hne _ _ h.zero)).trans h.zero
  have hp : w'.heap[Bp]? = _ := (hg.but.block _ (lt_of_block h.pic) (hne _ _ h.pic)).trans h.pic
  have hyp := h.yp
  have hyB := h.yB
  have hbel : Below w.heap.size w w' := hg.but.under h.below h.below.size (fun k hk => h.young k (by simpa using hk))
  refine ⟨hbel.setCell (p := ⟨Bp, 2, none⟩) (by simp only; omega) _, put_other hz (by omega) _ _, put_at hp 2 v', ?_, fun g hg' => ?_, hyB, hyp⟩
  · rw [List.length_append, List.length_singleton, tgs_snoc]
    refine hr.keep (fun g hg' => Below.heap_setCell _ _ _ _ (fun e => ?_))
    obtain ⟨cur, hc⟩ := hr.block hg'
    have e2 : Bp = g := e.symm
    rw [← e2, hp] at hc
    simp at hc
  · rcases hg.own with e | e
    · exact h.young g (by rw [← e]; exact hg')
    · rw [e] at hg'
      cases hg'
      exact h.below.size
theorem pic_store {w wr w' : World} {s : Sc} {B Bp : Nat} {v v' : Value} {xs : List Gl} (h : Pic w wr s B Bp v xs) (hg : Grown wr w' v v' v.ownBlock.toList) : w'.cell? ⟨Bp, 2, none⟩ = some v ∧ w'.frozen? ⟨Bp, 2, none⟩ = false := by
  have hp : w'.heap[Bp]? = some (.cells (picC s v) 73 (0, 0)) := (hg.but.block _ (lt_of_block h.pic) (fun hm => by
    obtain ⟨cur, hc⟩ := h.row.block (by simpa using hm : v.ownBlock = some Bp)
    rw [h.pic] at hc
    simp at hc)).trans h.pic
  exact ⟨cell_atT hp 2, free_atT hp 2⟩
end Go.Proofs.YtooahffclghcjaaGreatDoor
namespace Go.Proofs.YtooahffclghcjaaGreatDoor
open Go.RowKit
set_option linter.unusedVariables false
set_option maxRecDepth 100000

def flatR (rs : List (Nat × List Gl)) : List Gl := rs.flatMap Prod.snd
theorem flat_snoc (rs : List (Nat × List Gl)) (i : Nat) (r : Nat × List Gl) (h : rs[i]? = some r) : flatR (rs.take (i + 1)) = flatR (rs.take i) ++ r.2 := by
  obtain ⟨hi, rfl⟩ := List.getElem?_eq_some_iff.1 h
  unfold flatR
  rw [List.take_succ_eq_append_getElem hi, List.flatMap_append]
  simp
theorem flat_len {rs : List (Nat × List Gl)} {n : Nat} (h : ∀ r ∈ rs, r.2.length = n) : (flatR rs).length = rs.length * n := by
  induction rs with
  | nil => simp [flatR]
  | cons r rs ih =>
    have h1 : flatR (r :: rs) = r.2 ++ flatR rs := rfl
    rw [h1, List.length_append, ih (fun r hr => h r (by simp [hr])), h r (by simp), List.length_cons, Nat.add_mul]
    omega
set_option maxHeartbeats 8000000 in
theorem picture_any {w : World} {b : Nat} {s : Sc} {G : Nat} {rs : List (Nat × List Gl)} (h : Scn w b s G rs) {nw : Nat} (hW : s.w = (nw : Int)) (hH : s.h = (rs.length : Int)) (h1 : nw ≤ 1000) (h2 : rs.length ≤ 1000) (hl : ∀ r ∈ rs, r.2.length = nw) (hok : ∀ r ∈ rs, ∀ x ∈ r.2, OkG x) (ht : s.title = ⟨#[]⟩) :
    Calls Tryz.prog 16 #[.pointer (some ⟨b, 0, none⟩)] w fun r w' => ∃ v, r = .returned (.agg (picC s v)) ∧ Below w.heap.size w w' ∧ Row w' 76 5 v (flatR rs).length (tgsV (flatR rs)) ∧ ∀ g, v.ownBlock = some g → w.heap.size ≤ g := by
  have H := hidK h
  have HWH := hidK (And.intro hW hH)
  have HTt := hidK ht
  obtain ⟨W, hWe⟩ : ∃ W, w.alloc (.cells pic0 73) = W := ⟨_, rfl⟩
  have HBW : Hid (Below w.heap.size w W) := by rw [← hWe]; exact (Below.refl _ _).alloc (Nat.le_refl _) _
  obtain ⟨B, hB⟩ : ∃ B, w.heap.size = B := ⟨_, rfl⟩
  have HBe := hidK hB
  have HZ : Hid (W.heap[B]? = some (.cells pic0 73 (0, 0))) := by rw [← hWe, ← hB]; exact heap_alloc_new w _
  unfold pic0 at hWe
  have HWe := hidK hWe
  have HCell : Hid (∀ W', Below w.heap.size w W' → W'.cell? ⟨b, 0, none⟩ = some (.int .i64 (nw : Int)) ∧ W'.cell? ⟨b, 1, none⟩ = some (.int .i64 (rs.length : Int)) ∧ W'.cell? ⟨b, 13, none⟩ = some (.int .i64 s.cur.x) ∧ W'.cell? ⟨b, 14, none⟩ = some (.int .i64 s.cur.y) ∧ W'.cell? ⟨b, 28, none⟩ = some (.bool s.hid) ∧ W'.cell? ⟨b, 44, none⟩ = some (.string ⟨#[]⟩) ∧ W'.cell? ⟨b, 2, none⟩ = some (.slice (some ⟨G, 0, none⟩) rs.length rs.length)) := fun W' hb => by
    have h3 := h.at_.below hb
    exact ⟨by rw [← hW]; exact h3.c0, by rw [← hH]; exact h3.c1, h3.c13, h3.c14, h3.c28, by rw [← ht]; exact h3.c44, by rw [← h.val]; exact h3.c2⟩
  obtain ⟨c0, c1, c13, c14, c28, c44, c2⟩ := HCell.out W HBW.out
  have nb := World.new_ne W _ c0
  simp only at nb
  have HCl : Hid (∀ W, Calls Tryz.prog 30 #[.string ⟨#[]⟩] W fun r w' => r = .returned (.string ⟨#[]⟩) ∧ W = w') := clone_empty
  have HOk := hidK (And.intro hl hok)
  obtain ⟨m, hm⟩ : ∃ m : Nat, nw * rs.length = m := ⟨_, rfl⟩
  have hm2 : m ≤ 1000000 := by rw [← hm]; exact Nat.mul_le_mul h1 h2
  have hmul : IntKind.i64.wrap ((nw : Int) * (rs.length : Int)) = (m : Int) := by
    have e : (nw : Int) * (rs.length : Int) = (m : Int) := by rw [← hm]; simp
    rw [e, IntKind.wrap_i64]; omega
  have HM := hidK hm
  clear h hW hH ht hWe hB hl hok hm
  go_enter Tryz.func16, Tryz.ntmps16
  go_wp2_with fail
  rw [HWe.out, HBe.out]
  go_cut [3] (fun v wx => ∃ Bp, v = .pointer (some ⟨Bp, 0, none⟩) ∧ B < Bp ∧ Hid (Below W.heap.size W wx ∧ wx.heap[Bp]? = some (.cells (picC s (.slice none 0 0)) 73 (0, 0))))
  case first =>
    go_region_held3 (fun X => X.cell? ⟨b, 0, none⟩ = some (.int .i64 (nw : Int)) ∧ X.cell? ⟨b, 1, none⟩ = some (.int .i64 (rs.length : Int)) ∧ X.cell? ⟨b, 13, none⟩ = some (.int .i64 s.cur.x) ∧ X.cell? ⟨b, 14, none⟩ = some (.int .i64 s.cur.y) ∧ X.cell? ⟨b, 28, none⟩ = some (.bool s.hid) ∧ X.cell? ⟨b, 44, none⟩ = some (.string ⟨#[]⟩)) (go_keep) ((go_at_call 30; refine (HCl.out _).mono ?_; rintro e w2 ⟨rfl, rfl⟩))
    all_goals go_wp2_with fail
    all_goals go_meet
    all_goals (case rel =>
      refine ⟨_, rfl, lt_of_block HZ.out, ((Below.refl _ _).alloc (Nat.le_refl _) _).drew, ?_⟩
      unfold picC
      rw [HWH.out.1, HWH.out.2]
      exact heap_alloc_new _ _)
  case rest =>
    obtain ⟨Bp, rfl, hBp, HC⟩ := hcut
    clear c0 c1 c13 c14 c28 c44 c2 nb
    have hbc := HBW.out.trans (HC.out.1.mono HBW.out.size)
    obtain ⟨c0, c1, c13, c14, c28, c44, c2⟩ := HCell.out wc hbc
    have HBc := hidK hbc
    have p2 : wc.cell? ⟨Bp, 2, none⟩ = some (.slice none 0 0) := cell_atT HC.out.2 2
    have q2 := free_atT HC.out.2 2
    have hmk := madeP_run wc.drew m hm2
    have hPM : (madeP wc.drew m).heap[Bp]? = some (.cells (picC s (.slice none 0 0)) 73 (0, 0)) := alloc_at (w := wc.drew) HC.out.2 _
    have p3 : (madeP wc.drew m).cell? ⟨Bp, 2, none⟩ = some (.slice none 0 0) := cell_atT hPM 2
    have q3 := free_atT hPM 2
    have HPM := hidK hPM
    clear hbc c13 c14 c28 c44 hPM
    go_wp2_with fail
    go_region
    refine gen_exit (fun X => ∃ v, Pic w X s B Bp v []) ?_ ?_
    · have hz : wc.heap[B]? = some (.cells pic0 73 (0, 0)) := (HC.out.1.block _ (lt_of_block HZ.out)).trans HZ.out
      have hBB := HBe.out
      have hMb : Below w.heap.size w (madeP wc.drew m) := (HBc.out.drew).alloc (by simpa using HBc.out.size) _
      refine ⟨.slice (some ⟨wc.heap.size, 0, none⟩) 0 m, ?_, put_other (alloc_at (w := wc.drew) hz _) (by omega) _ _, put_at HPM.out 2 _, ?_, fun g hg => ?_, by omega, hBp⟩
      · exact hMb.setCell (p := ⟨Bp, 2, none⟩) (by simp only; omega) _
      · have hr := madeP_row wc.drew m hm2
        refine hr.keep (fun g hg => Below.heap_setCell _ _ _ _ (fun e => ?_))
        obtain ⟨cur, hc⟩ := hr.block hg
        have e2 : g = Bp := e
        rw [e2, HPM.out] at hc
        simp at hc
      · cases hg
        exact HBc.out.size
    clear c0 c1 c2 p2 q2 p3 q3 hmk hmul HC HPM
    rintro X0 ⟨v0, hP0⟩
    have HP0 := hidK hP0
    obtain ⟨_, _, _, _, _, _, c2⟩ := HCell.out X0 hP0.below
    clear hP0
    go_wp2_with fail
    go_loopw [54] (fun i wr => ∃ k : Nat, k ≤ rs.length ∧ i = .int .i64 (k : Int) ∧ ∃ v, Hid (Pic w wr s B Bp v (flatR (rs.take k)))) (fun i _ => rs.length - (intOf i).toNat)
    case atStart => exact ⟨0, by omega, rfl, v0, HP0⟩
    case round =>
      obtain ⟨k, hk, rfl, v, HP⟩ := hrel
      clear c2
      by_cases hlt : k < rs.length
      · obtain ⟨r, hr⟩ : ∃ r, rs[k]? = some r := ⟨_, List.getElem?_eq_getElem hlt⟩
        have cG := (H.out.below HP.out.below).rows.cell hr
        have HRr := hidK hr
        have hrm := List.mem_of_getElem? hr
        have hlr : r.2.length = nw := HOk.out.1 r hrm
        have hfl : (flatR (rs.take k)).length = k * nw := by
          rw [flat_len (fun r' hr' => HOk.out.1 r' (List.mem_of_mem_take hr')), List.length_take, Nat.min_eq_left (Nat.le_of_lt hlt)]
        have hkn : k * nw ≤ 1000000 := Nat.mul_le_mul (by omega : k ≤ 1000) h1
        have HRm := hidK hrm
        have HFl := hidK (And.intro hlr (And.intro hfl hkn))
        obtain ⟨rl, hrl⟩ : ∃ n, r.2.length = n := ⟨_, rfl⟩
        have HRl := hidK hrl
        rw [hrl] at cG
        have hrl1 : rl ≤ 1000 := by omega
        clear hr hrm hlr hfl hkn hrl
        go_wp2_with fail
        go_loopw [60] (fun j wx => ∃ q : Nat, q ≤ rl ∧ j = .int .i64 (q : Int) ∧ ∃ v, Hid (Pic w wx s B Bp v (flatR (rs.take k) ++ r.2.take q))) (fun j _ => rl - (intOf j).toNat)
        case atStart => exact ⟨0, by omega, rfl, v, by rw [List.take_zero, List.append_nil]; exact HP⟩
        case round =>
          obtain ⟨q, hq, rfl, vq, HPq⟩ := hrel
          clear cG
          by_cases hqlt : q < rl
          · obtain ⟨x, hx⟩ : ∃ x, r.2[q]? = some x := ⟨_, List.getElem?_eq_getElem (by have := HRl.out; omega)⟩
            obtain ⟨x0, x1, x2, x3, x4⟩ := ((H.out.below HPq.out.below).rows.row r HRm.out).c hx
            have hxo : OkG x := HOk.out.2 r HRm.out x (List.mem_of_getElem? hx)
            have hTx : flatR (rs.take k) ++ r.2.take (q + 1) = (flatR (rs.take k) ++ r.2.take q) ++ [x] := by
              obtain ⟨hi, rfl⟩ := List.getElem?_eq_some_iff.1 hx
              rw [List.take_succ_eq_append_getElem hi, List.append_assoc]
            have hnl : (flatR (rs.take k) ++ r.2.take q).length ≤ 2000000 := by
              have e1 := HFl.out.2.1
              have e2 := HFl.out.2.2
              rw [List.length_append, e1, List.length_take]
              omega
            obtain ⟨xs, hxs⟩ : ∃ xs, flatR (rs.take k) ++ r.2.take q = xs := ⟨_, rfl⟩
            rw [hxs] at HPq hTx hnl
            obtain ⟨z, hz⟩ : ∃ z, txtG x = z := ⟨_, rfl⟩
            have HTo : Hid (∀ W, Calls Tryz.prog 31 #[.agg #[.int .i32 x.l, .int .i64 x.n, .int .i64 x.fo, .int .i64 x.ba, .int .i64 x.ma]] W fun e w' => e = .returned (.agg #[.string z, .int .i64 x.n, .int .i64 x.fo, .int .i64 x.ba, .int .i64 x.ma]) ∧ Below W.heap.size W w') := fun W => by rw [← hz]; exact told_any x hxo W
            have HTx := hidK hTx
            have HZz : Hid (tgV x = [.string z, .int .i64 x.n, .int .i64 x.fo, .int .i64 x.ba, .int .i64 x.ma]) := by rw [← hz]; exact hidK rfl
            obtain ⟨Y, hY⟩ : ∃ Y, wr.alloc (.cells #[.int .i32 x.l, .int .i64 x.n, .int .i64 x.fo, .int .i64 x.ba, .int .i64 x.ma] 85) = Y := ⟨_, rfl⟩
            have HY := hidK hY
            obtain ⟨Q, hQ⟩ : ∃ Q, wr.heap.size = Q := ⟨_, rfl⟩
            have HQ := hidK hQ
            have hbY : Below wr.heap.size wr Y := by rw [← hY]; exact (Below.refl _ _).alloc (Nat.le_refl _) _
            have hPY : Pic w Y s B Bp vq xs := HPq.out.more hbY
            have HPY := hidK hPY
            obtain ⟨y0, y1, y2, y3, y4⟩ : Y.cell? ⟨Q, 0, none⟩ = some (.int .i32 x.l) ∧ Y.cell? ⟨Q, 1, none⟩ = some (.int .i64 x.n) ∧ Y.cell? ⟨Q, 2, none⟩ = some (.int .i64 x.fo) ∧ Y.cell? ⟨Q, 3, none⟩ = some (.int .i64 x.ba) ∧ Y.cell? ⟨Q, 4, none⟩ = some (.int .i64 x.ma) := by
              refine box_cells (x := x) (T := 85) ?_
              rw [← hY, ← hQ]; exact heap_alloc_new wr _
            have yp : Y.cell? ⟨Bp, 2, none⟩ = some vq := cell_atT hPY.pic 2
            clear hx hxo hTx hxs hz hY hQ hbY hPY
            go_wp2_with fail
            rw [HY.out, HQ.out]
            go_region_law (first
              | (refine step_append_row (w1.alloc (.cells #[.string z, .int .i64 x.n, .int .i64 x.fo, .int .i64 x.ba, .int .i64 x.ma] 76)) rfl (.tmp 65) (.tmp 68) 71 71 rfl underGys infoGyV rfl (v := vq) (by simp [Act.eval]) (u := .slice (some ⟨w1.heap.size, 0, none⟩) 1 1) (by simp [Act.eval]) (HP1.out.more ((Below.refl _ _).alloc (Nat.le_refl _) _)).row (Src.block underGys _ _ [.string z, .int .i64 x.n, .int .i64 x.fo, .int .i64 x.ba, .int .i64 x.ma] 76 5 (heap_alloc_new w1 _) rfl rfl) (by omega) (by unfold maxLen; omega) ?_; intro v2 w2 hr2 hg2; obtain ⟨ad2, cap2, hv2, _, _, _, _⟩ := hr2.out.shape; have HP2 : Hid (Pic w (w2.setCell ⟨Bp, 2, none⟩ v2) s B Bp v2 (xs ++ [x])) := (HP1.out.more ((Below.refl _ _).alloc (Nat.le_refl _) _)).add (by rw [HZz.out]; exact hr2.out) hg2.out; have pp := pic_store (HP1.out.more ((Below.refl _ _).alloc (Nat.le_refl _) _)) hg2.out; obtain ⟨pp1, pp2⟩ := pp; clear hr2 hg2; subst hv2)
              | (go_simp; go_at_call 31; refine (HTo.out _).mono ?_; rintro e w1 ⟨rfl, hb⟩; have HP1 : Hid (Pic w w1 s B Bp vq xs) := HPY.out.more ((Below.drew (Below.refl _ _)).trans hb); have zp : w1.cell? ⟨Bp, 2, none⟩ = some vq := cell_atT HP1.out.pic 2; have zp2 : (w1.alloc (.cells #[.string z, .int .i64 x.n, .int .i64 x.fo, .int .i64 x.ba, .int .i64 x.ma] 76)).cell? ⟨Bp, 2, none⟩ = some vq := cell_atT (alloc_at HP1.out.pic _) 2; clear hb))
            all_goals (
              go_wp2_with fail
              go_roundw
              case rel => exact ⟨q + 1, by omega, by go_num, _, by rw [HTx.out]; exact HP2⟩
              case measure => simp [intOf]; omega)
          · obtain rfl : q = rl := by omega
            go_wp2_with fail
            go_roundw
            case rel => exact ⟨k + 1, by omega, by go_num, vq, by rw [flat_snoc rs k r HRr.out]; have h9 := HPq; rw [show r.2.take q = r.2 from List.take_of_length_le (by have := HRl.out; omega)] at h9; exact h9⟩
            case measure => simp [intOf]; omega
      · obtain rfl : k = rs.length := by omega
        have hz := HP.out.zero
        have hp := HP.out.pic
        obtain ⟨ad, cap, hv, _, _, _, _⟩ := HP.out.row.shape
        rw [List.take_length] at HP hv
        have a0 := cell_atT hz 0
        have a1 := cell_atT hz 1
        have a2 := cell_atT hz 2
        have a3 := cell_atT hz 3
        have a4 := cell_atT hz 4
        have a5 := cell_atT hz 5
        have a6 := cell_atT hz 6
        have b0 := cell_atT hp 0
        have b1 := cell_atT hp 1
        have b2 := cell_atT hp 2
        have b3 := cell_atT hp 3
        have b4 := cell_atT hp 4
        have b5 := cell_atT hp 5
        have b6 := cell_atT hp 6
        simp [pic0, picC] at a0 a1 a2 a3 a4 a5 a6 b0 b1 b2 b3 b4 b5 b6
        have f0 := free_atT hz 0
        have f1 := free_atT hz 1
        have f2 := free_atT hz 2
        have f3 := free_atT hz 3
        have f4 := free_atT hz 4
        have f5 := free_atT hz 5
        have f6 := free_atT hz 6
        clear hz hp
        subst hv
        go_wp2_with fail
        have hB1 := HBe.out
        have hq : ∀ i u X, Below w.heap.size w X → Below w.heap.size w (X.setCell ⟨B, i, none⟩ u) := fun i u X hX => hX.setCell (p := ⟨B, i, none⟩) (by simp only; omega) _
        refine ret_cell1 rfl rfl (cs := picC s (.slice ad (flatR rs).length cap)) (put_at (put_at (put_at (put_at (put_at (put_at (put_at HP.out.zero 0 _) 1 _) 2 _) 3 _) 4 _) 5 _) 6 _) Tryz.underlying73 rfl infoPic rfl ⟨_, rfl, ?_, ?_, HP.out.young⟩
        · exact hq _ _ _ (hq _ _ _ (hq _ _ _ (hq _ _ _ (hq _ _ _ (hq _ _ _ (hq _ _ _ HP.out.below))))))
        · refine HP.out.row.keep (fun g hg => ?_)
          have hgB : g ≠ B := fun e => by
            obtain ⟨cur, hc⟩ := HP.out.row.block hg
            rw [e, HP.out.zero] at hc
            simp at hc
          exact put_other (put_other (put_other (put_other (put_other (put_other (put_other rfl hgB _ _) hgB _ _) hgB _ _) hgB _ _) hgB _ _) hgB _ _) hgB _ _
end Go.Proofs.YtooahffclghcjaaGreatDoor
