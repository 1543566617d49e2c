/-
  Options: what a kind says of a value, as the program asks it.
-/
import Derived.Test.YtgdkpmfdpfjdjaaGreatDoorHX
import Derived.Test.YtgdkpmfdpfjdjaaGreatDoorOFau
import Derived.Test.YtgdkpmfdpfjdjaaGreatDoorShelfS
import Derived.Test.YtgdkpmfdpfjdjaaGreatDoorHM
import Derived.Test.YtgdkpmfdpfjdjaaGreatDoorHE
import Derived.Deep.RegionHeld3
namespace Go.Proofs.YtgdkpmfdpfjdjaaGreatDoor
open Go.RowKit Go.Maps
set_option linter.unusedVariables false
set_option maxRecDepth 100000

/-- What the calls read of laid variables. -/
structure Env (w : World) : Prop where
  num : NumV w
  tabs : Tabs w
theorem Env.below {w w' : World} (h : Env w) (hb : Below w.heap.size w w') : Env w' := ⟨h.num.below hb, h.tabs.below hb⟩
theorem num_one {l : List UInt8} {a b : Int} (ha : Num l a) (hb : Num l b) : a = b := by rw [← num_val ha, num_val hb]
theorem fault_code (b : Bool) : (if b then (0 : Int) else 125) = if b then 0 else 125 := rfl
set_option maxHeartbeats 8000000 in
theorem nck_any {Y : World} {b : Nat} {lo hi : Int} {v : Value} (hk : NumK Y (b + 1) lo hi v) {g : Nat} {cap : Array Value} {x y : Bool} (hv : v = .agg #[.func (.func g) #[] cap, .bool x, .bool y]) (t : ByteArray) (ht : t.size ≤ 140737488355328) (X : World) (hX : Below Y.heap.size Y X) (hE : Env X) :
    g = 61 ∧ Calls Tryz.prog 61 (#[.string t] ++ cap) X fun e w' => e = .returned (.int .i64 (checkF (.num lo hi) t)) ∧ Below X.heap.size X w' := by
  obtain ⟨p, q, e, _, _, h1, h2⟩ := hk
  rw [e] at hv
  simp only [Value.agg.injEq, Array.mk.injEq, List.cons.injEq, Value.func.injEq, Fn.func.injEq, true_and, and_true] at hv
  obtain ⟨⟨rfl, rfl⟩, hxy⟩ := hv
  clear hxy e
  refine ⟨rfl, ?_⟩
  show Calls Tryz.prog _ #[.string t, .pointer (some ⟨p, 0, none⟩), .pointer (some ⟨q, 0, none⟩)] X _
  have HN := hidK (number_any t X hE.num ht)
  have HSx : Hid (∀ Z, Below X.heap.size X Z → Z.cell? ⟨p, 0, none⟩ = some (.int .i64 lo) ∧ Z.cell? ⟨q, 0, none⟩ = some (.int .i64 hi)) := fun Z hZ => ⟨cell_at (kpO hZ (kpO hX h1)) 0, cell_at (kpO hZ (kpO hX h2)) 0⟩
  have HF : Hid (∀ (c : Bool) Z, Calls Tryz.prog 63 #[.bool c] Z fun e w' => e = .returned (.int .i64 (if c then 0 else 125)) ∧ Z = w') := fun c Z => fault_any c
  have HCh : Hid (∀ c : Bool, c = valB (.num lo hi) t → (if c then (0 : Int) else 125) = checkF (.num lo hi) t) := fun c h => by rw [checkF_val rfl, h]
  clear h1 h2 hX hE ht
  by_cases hn : ∃ n, Num t.data.toList n
  · obtain ⟨n, hn⟩ := hn
    have HNn := hidK hn
    have HV : Hid (decide (lo ≤ n ∧ n ≤ hi) = valB (.num lo hi) t) := by
      show _ = _
      unfold valB
      by_cases h : lo ≤ n ∧ n ≤ hi
      · rw [decide_eq_true h]; symm; exact @decide_eq_true _ (Classical.propDecidable _) ⟨n, hn, h⟩
      · rw [decide_eq_false h]; symm
        refine @decide_eq_false _ (Classical.propDecidable _) ?_
        rintro ⟨m, hm, hq⟩
        rw [num_one hm hn] at hq
        exact h hq
    clear hn
    go_enter Tryz.func61, Tryz.ntmps61
    go_wp2_with fail
    refine HN.out.mono ?_
    rintro e Z ⟨(⟨m, rfl, hm⟩ | ⟨_, hno⟩), hb⟩
    · obtain rfl := num_one hm HNn.out
      obtain ⟨c0, c1⟩ := HSx.out Z hb
      have HB := hidK hb
      clear hb hm
      by_cases q1 : lo ≤ m
      · by_cases q2 : m ≤ hi
        · go_wp2_with fail
          refine (HF.out _ _).mono ?_
          rintro e Z2 ⟨rfl, rfl⟩
          go_wp2_with fail
          go_ret
          exact ⟨by rw [← HCh.out true (by rw [← HV.out]; simp [q1, q2])]; rfl, HB.out⟩
        · go_wp2_with fail
          refine (HF.out _ _).mono ?_
          rintro e Z2 ⟨rfl, rfl⟩
          go_wp2_with fail
          go_ret
          exact ⟨by rw [← HCh.out false (by rw [← HV.out]; simp [q1, q2])]; rfl, HB.out⟩
      · go_wp2_with fail
        refine (HF.out _ _).mono ?_
        rintro e Z2 ⟨rfl, rfl⟩
        go_wp2_with fail
        go_ret
        exact ⟨by rw [← HCh.out false (by rw [← HV.out]; symm; exact decide_eq_false (fun h => by have := h.1; omega))]; rfl, HB.out⟩
    · exact absurd HNn.out (hno n)
  · have HNo := hidK hn
    have HV : Hid (false = valB (.num lo hi) t) := by
      show _ = _
      unfold valB
      symm
      refine @decide_eq_false _ (Classical.propDecidable _) ?_
      rintro ⟨m, hm, hq⟩
      exact hn ⟨m, hm⟩
    clear hn
    go_enter Tryz.func61, Tryz.ntmps61
    go_wp2_with fail
    refine HN.out.mono ?_
    rintro e Z ⟨(⟨m, _, hm⟩ | ⟨rfl, hno⟩), hb⟩
    · exact absurd ⟨m, hm⟩ HNo.out
    · obtain ⟨c0, c1⟩ := HSx.out Z hb
      have HB := hidK hb
      clear hb hno
      go_wp2_with fail
      refine (HF.out _ _).mono ?_
      rintro e Z2 ⟨rfl, rfl⟩
      go_wp2_with fail
      go_ret
      exact ⟨by rw [← HCh.out false HV.out]; rfl, HB.out⟩
theorem flat_words {w : World} {g : Nat} {ws : List ByteArray} (h : w.heap[g]? = some (.cells (ws.map Value.string).toArray 9 (0, 0))) : ∀ j, j < ws.length → w.cell? ⟨g, 0 + j, none⟩ = some (.string (ws.getD j ByteArray.empty)) := fun j hj => by
  rw [Nat.zero_add, cell_at h j]
  simp [hj]
set_option maxHeartbeats 8000000 in
theorem cck_any {Y : World} {b gw : Nat} {ws : List ByteArray} {tn : Bool} {v : Value} (hk : ChoK Y (b + 1) (.slice (some ⟨gw, 0, none⟩) ws.length ws.length) tn v) (hw : Y.heap[gw]? = some (.cells (ws.map Value.string).toArray 9 (0, 0))) (hlen : ws.length ≤ 100) {g : Nat} {cap : Array Value} {x y : Bool} (hv : v = .agg #[.func (.func g) #[] cap, .bool x, .bool y]) (t : ByteArray) (X : World) (hX : Below Y.heap.size Y X) :
    g = 65 ∧ Calls Tryz.prog 65 (#[.string t] ++ cap) X fun e w' => e = .returned (.int .i64 (if ws.any (fun z => decide (z = t)) then 0 else 125)) ∧ Below X.heap.size X w' := by
  obtain ⟨p, e, _, h1⟩ := hk
  rw [e] at hv
  simp only [Value.agg.injEq, Array.mk.injEq, List.cons.injEq, Value.func.injEq, Fn.func.injEq, true_and, and_true] at hv
  obtain ⟨⟨rfl, rfl⟩, hxy⟩ := hv
  clear hxy e
  refine ⟨rfl, ?_⟩
  show Calls Tryz.prog _ #[.string t, .pointer (some ⟨p, 0, none⟩)] X _
  have c0 : X.cell? ⟨p, 0, none⟩ = some (.slice (some ⟨gw, 0, none⟩) ws.length ws.length) := cell_at (kpO hX h1) 0
  have HC := hidK (Tryz.slices_Contains_string gw 0 ws.length ws.length ws t X (Nat.le_refl _) (by omega) (flat_words (kpO hX hw)))
  have HF : Hid (∀ (c : Bool) Z, Calls Tryz.prog 63 #[.bool c] Z fun e w' => e = .returned (.int .i64 (if c then 0 else 125)) ∧ Z = w') := fun c Z => fault_any c
  obtain ⟨n, hn⟩ : ∃ n, ws.length = n := ⟨_, rfl⟩
  obtain ⟨cb, hcb⟩ : ∃ c, ws.any (fun z => decide (z = t)) = c := ⟨_, rfl⟩
  rw [hn] at c0 HC
  rw [hcb]
  have HCb := hidK hcb
  have HN := hidK hn
  clear h1 hw hX hcb hn hlen
  go_enter Tryz.func65, Tryz.ntmps65
  go_wp2_with fail
  refine HC.out.mono ?_
  rintro e Z ⟨rfl, rfl⟩
  have hq : Lib.containsS (List.take n ws) t = cb := by
    rw [← HN.out, List.take_length, ← HCb.out]
    cases q : ws.any (fun z => decide (z = t)) with
    | true =>
      obtain ⟨z, hz, e⟩ := List.any_eq_true.1 q
      rw [of_decide_eq_true e] at hz
      exact (Lib.containsS_iff ws t).2 hz
    | false =>
      cases p : Lib.containsS ws t with
      | false => rfl
      | true =>
        have := List.any_eq_false.1 q t ((Lib.containsS_iff ws t).1 p)
        exact absurd (decide_eq_true rfl) this
  rw [hq]
  clear hq HCb HN
  cases cb
  · go_wp2_with fail
    refine (HF.out _ _).mono ?_
    rintro e Z2 ⟨rfl, rfl⟩
    go_wp2_with fail
    go_ret
    exact ⟨rfl, Below.refl _ _⟩
  · go_wp2_with fail
    refine (HF.out _ _).mono ?_
    rintro e Z2 ⟨rfl, rfl⟩
    go_wp2_with fail
    go_ret
    exact ⟨rfl, Below.refl _ _⟩
theorem readF_val (t : ByteArray) : valB .key t = (readF t.data.toList).isSome := rfl
set_option maxHeartbeats 8000000 in
theorem kck_any (t : ByteArray) (ht : t.size ≤ 140737488355328) (X : World) (hE : Env X) : Calls Tryz.prog 67 #[.string t] X fun e w' => e = .returned (.int .i64 (checkF .key t)) ∧ Below X.heap.size X w' := by
  have HR := hidK (read_any t.data.toList (by rw [size_data]; exact ht) hE.tabs)
  rw [show str t.data.toList = t from rfl] at HR
  have HF : Hid (∀ (c : Bool) Z, Calls Tryz.prog 63 #[.bool c] Z fun e w' => e = .returned (.int .i64 (if c then 0 else 125)) ∧ Z = w') := fun c Z => fault_any c
  have HCh : Hid (∀ c : Bool, c = valB .key t → (if c then (0 : Int) else 125) = checkF .key t) := fun c h => by rw [checkF_val rfl, h]
  have HV := hidK (readF_val t)
  unfold rdV at HR
  clear ht hE
  cases hk : readF t.data.toList with
  | some k =>
    obtain ⟨kc, km⟩ := k
    rw [hk] at HR HV
    dsimp only at HR
    have HC := hidK (HCh.out true HV.out.symm)
    clear hk HCh HV
    go_enter Tryz.func67, Tryz.ntmps67
    go_wp2_with fail
    refine HR.out.mono ?_
    rintro e Z ⟨rfl, hb⟩
    have HB := hidK hb
    clear hb
    go_wp2_with fail
    refine (HF.out _ _).mono ?_
    rintro e Z2 ⟨rfl, hz⟩
    have HZ := hidK hz
    go_wp2_with fail
    go_ret
    refine ⟨by rw [← HC.out]; rfl, ?_⟩
    rw [← HZ.out]
    exact HB.out.alloc HB.out.size _
  | none =>
    rw [hk] at HR HV
    dsimp only at HR
    have HC := hidK (HCh.out false HV.out.symm)
    clear hk HCh HV
    go_enter Tryz.func67, Tryz.ntmps67
    go_wp2_with fail
    refine HR.out.mono ?_
    rintro e Z ⟨rfl, hb⟩
    have HB := hidK hb
    clear hb
    go_wp2_with fail
    refine (HF.out _ _).mono ?_
    rintro e Z2 ⟨rfl, hz⟩
    have HZ := hidK hz
    go_wp2_with fail
    go_ret
    refine ⟨by rw [← HC.out]; rfl, ?_⟩
    rw [← HZ.out]
    exact HB.out.alloc HB.out.size _
theorem enters_nck : ∀ args w, (callFunc 61 args).run Tryz.prog w = .ok (.enter 61 args) w := enters_of Tryz.func61 (by kernel_rfl) rfl
theorem enters_cck : ∀ args w, (callFunc 65 args).run Tryz.prog w = .ok (.enter 65 args) w := enters_of Tryz.func65 (by kernel_rfl) rfl
theorem enters_tck : ∀ args w, (callFunc 64 args).run Tryz.prog w = .ok (.enter 64 args) w := enters_of Tryz.func64 (by kernel_rfl) rfl
theorem enters_kck : ∀ args w, (callFunc 67 args).run Tryz.prog w = .ok (.enter 67 args) w := enters_of Tryz.func67 (by kernel_rfl) rfl
/-- A closure is asked. -/
def Asks (g : Nat) : Prop := ∀ args w, (callFunc g args).run Tryz.prog w = .ok (.enter g args) w
theorem check_any {Y : World} {b : Nat} {kd : Kd} {g : Nat} {cap : Array Value} {x y : Bool} (hk : KindAt Y b kd (.agg #[.func (.func g) #[] cap, .bool x, .bool y])) (hws : ∀ ws, kd = .cho ws → ws.length ≤ 100) (t : ByteArray) (ht : t.size ≤ 140737488355328) :
    Asks g ∧ ∀ X, Below Y.heap.size Y X → Env X → Calls Tryz.prog g (#[.string t] ++ cap) X fun e w' => e = .returned (.int .i64 (checkF kd t)) ∧ Below X.heap.size X w' := by
  cases kd with
  | num lo hi =>
    have h0 : g = 61 := by
      obtain ⟨p, q, e, _⟩ := hk
      simp only [Value.agg.injEq, Array.mk.injEq, List.cons.injEq, Value.func.injEq, Fn.func.injEq, true_and, and_true] at e
      exact e.1.1
    subst h0
    exact ⟨enters_nck, fun X hX hE => (nck_any hk rfl t ht X hX hE).2⟩
  | txt =>
    have e : _ = txtV := hk
    unfold txtV at e
    simp only [Value.agg.injEq, Array.mk.injEq, List.cons.injEq, Value.func.injEq, Fn.func.injEq, true_and, and_true] at e
    obtain ⟨⟨rfl, rfl⟩, _⟩ := e
    refine ⟨enters_tck, fun X hX hE => (textCheck_any (w := X) t).mono ?_⟩
    rintro e w' ⟨rfl, rfl⟩
    exact ⟨rfl, Below.refl _ _⟩
  | key =>
    have e : _ = keyVO := hk
    unfold keyVO at e
    simp only [Value.agg.injEq, Array.mk.injEq, List.cons.injEq, Value.func.injEq, Fn.func.injEq, true_and, and_true] at e
    obtain ⟨⟨rfl, rfl⟩, _⟩ := e
    exact ⟨enters_kck, fun X hX hE => kck_any t ht X hE⟩
  | flag =>
    obtain ⟨gw, hc, _, hw⟩ := hk
    have h0 : g = 65 := by
      obtain ⟨p, e, _⟩ := hc
      simp only [Value.agg.injEq, Array.mk.injEq, List.cons.injEq, Value.func.injEq, Fn.func.injEq, true_and, and_true] at e
      exact e.1.1
    subst h0
    refine ⟨enters_cck, fun X hX hE => ?_⟩
    have h := (cck_any (ws := [⟨#[111, 110]⟩, ⟨#[111, 102, 102]⟩]) hc hw (by decide) rfl t X hX).2
    have e : ([(⟨#[111, 110]⟩ : ByteArray), ⟨#[111, 102, 102]⟩].any fun z => decide (z = t)) = valB .flag t := by
      unfold valB
      by_cases h1 : t = ⟨#[111, 110]⟩
      · simp [h1]
      · by_cases h2 : t = ⟨#[111, 102, 102]⟩
        · simp [h2]
        · simp [h1, h2, Ne.symm h1, Ne.symm h2]
    rw [e] at h
    rw [checkF_val rfl]
    exact h
  | cho ws =>
    obtain ⟨gw, hc, _, hw⟩ := hk
    have h0 : g = 65 := by
      obtain ⟨p, e, _⟩ := hc
      simp only [Value.agg.injEq, Array.mk.injEq, List.cons.injEq, Value.func.injEq, Fn.func.injEq, true_and, and_true] at e
      exact e.1.1
    subst h0
    refine ⟨enters_cck, fun X hX hE => ?_⟩
    rw [checkF_val rfl]
    exact (cck_any hc hw (hws ws rfl) rfl t X hX).2
end Go.Proofs.YtgdkpmfdpfjdjaaGreatDoor
