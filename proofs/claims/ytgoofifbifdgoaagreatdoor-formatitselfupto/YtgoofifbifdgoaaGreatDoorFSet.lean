/-
  Formats: the set with which a pattern begins.
-/
import Derived.Test.YtgoofifbifdgoaaGreatDoorFTokP
import Derived.Laws.ResultCell
import Derived.Laws.Rows
import Derived.Test.YtgoofifbifdgoaaGreatDoorShelf
namespace Go.Proofs.YtgoofifbifdgoaaGreatDoor
open Go.RowKit
set_option linter.unusedVariables false
set_option maxRecDepth 20000

def tokV (t : Tok) : Value := .agg #[.bool t.many, .bool t.not, .string (str t.mem)]

theorem slice_mid (A : ByteArray) (a b : Nat) (x y : Int) (hx : x = (a : Int)) (hy : y = (b : Int)) (hab : a ≤ b) (h : b ≤ A.size) (W : World) : (Instr.slice 9 (.string A) (some (.int .i64 x)) (some (.int .i64 y)) none).run Tryz.prog W = .ok (.string (A.extract a b)) W := by
  subst hx hy
  simp [Instr.slice, go_sem, hab, h]
/-- Two results, the first of them a struct that lies in a block. -/
theorem ret_cell2 {P : Program} {fn : Func} {p u : Tmp} {ty : TypeId} (h : fn.results = #[.cell p ty, .tmp u]) {a : Act} {w : World} {R : Ending → World → Prop} {g : Nat} {t : TypeId} {cs : Array Value} {fr : Nat × Nat} {d : TypeDesc}
    (hp : a.tmps.getD p undef = .pointer (some ⟨g, 0, none⟩)) (hg : w.heap[g]? = some (.cells cs t fr)) (hu : P.underlying ty = some d) (hd : (match d with | .struct _ | .array _ _ => true | _ => false) = true) (hi : (P.info? ty).map (·.size) = some cs.size)
    (hdf : a.defers = []) (hR : R (.returned (.tuple #[.agg cs, a.tmps.getD u undef])) w) : bodyPost P fn R .ret a w := by
  refine bodyPost_ret ?_ hdf hR
  rw [results_cell_tmp h, hp]
  have h1 : (asAddr (.pointer (some ⟨g, 0, none⟩))).run P w = .ok ⟨g, 0, none⟩ w := rfl
  rw [h1]
  simp only [Result.andThen]
  rw [run_loadVar_row w g t ty cs fr d hg hu hd hi]

set_option maxHeartbeats 2000000 in
theorem nextSet_any (l : List UInt8) (hl : l.length ≤ 2147483647) (h0 : 1 ≤ l.length) (e : Int) (he : e < (l.length : Int)) (hk : (begN l : Int) < e → 0 ≤ Lib.indexByte (l.drop (begN l + 1)) 93 ∧ endN l < l.length) (w : World) :
    Calls Tryz.prog 39 #[.string (str l), .int .i64 e] w fun x w' => x = .returned (.tuple #[tokV (csetF l e).1, .int .i64 ((csetF l e).2 : Int)]) ∧ Below w.heap.size w w' := by
  have HP := hidK fun W => Tryz.strings_HasPrefix (str (l.drop 1)) (str [33]) W
  have HI := hidK fun W => Tryz.strings_IndexByte (str (l.drop (begN l + 1))) 93 W
  have hd1 := str_dropF l 1
  have hdb := str_dropF l (begN l + 1)
  have hmid := str_midF l (begN l) (endN l)
  have hzs : (str l).size = l.length := rfl
  have HS : Hid (csetF l e = if e ≤ (begN l : Int) then (⟨false, false, []⟩, 0) else (⟨false, notB l, (l.drop (begN l)).take (endN l - begN l)⟩, endN l + 1)) := rfl
  have hn : Lib.hasPrefix (str (l.drop 1)).data.toList (str [33]).data.toList = notB l := rfl
  have hi : (str (l.drop (begN l + 1))).data.toList = l.drop (begN l + 1) := rfl
  rw [hn] at HP
  rw [hi] at HI
  rw [hzs] at hd1 hdb
  obtain ⟨z, hz⟩ : ∃ z, str l = z := ⟨_, rfl⟩
  obtain ⟨y, hy⟩ : ∃ y, str (l.drop 1) = y := ⟨_, rfl⟩
  obtain ⟨m, hm⟩ : ∃ m, str ((l.drop (begN l)).take (endN l - begN l)) = m := ⟨_, rfl⟩
  obtain ⟨v, hv⟩ : ∃ v, str (l.drop (begN l + 1)) = v := ⟨_, rfl⟩
  rw [hz] at hd1 hdb hmid hzs ⊢
  rw [hy] at HP hd1
  rw [hm] at hmid
  rw [hv] at HI hdb
  have HM := hidK hm
  have HEn : Hid (endN l = begN l + 1 + (Lib.indexByte (l.drop (begN l + 1)) 93).toNat) := rfl
  obtain ⟨ix, hix⟩ : ∃ ix, Lib.indexByte (l.drop (begN l + 1)) 93 = ix := ⟨_, rfl⟩
  have hc93 : (93 : Int).toNat.toUInt8 = 93 := rfl
  rw [hc93] at HI
  rw [hix] at HI HEn hk
  have hbg : begN l = if notB l then 2 else 1 := rfl
  obtain ⟨n, hnn⟩ : ∃ n, l.length = n := ⟨_, rfl⟩
  rw [hnn] at hl h0 he hk hd1 hdb hzs
  obtain ⟨bg, hb⟩ : ∃ bg, begN l = bg := ⟨_, rfl⟩
  obtain ⟨en, hen⟩ : ∃ en, endN l = en := ⟨_, rfl⟩
  obtain ⟨q, hq⟩ : ∃ q, notB l = q := ⟨_, rfl⟩
  rw [hb, hen, hq] at HS
  rw [hb, hen] at HEn hmid hk
  rw [hb, hen] at HM
  rw [hb] at hdb hbg
  rw [hq] at HP hbg
  clear hn hi hz hy hm hv hix hnn hb hen hq hc93
  by_cases hle : e ≤ (bg : Int)
  · have HS2 : Hid (csetF l e = (⟨false, false, []⟩, 0)) := by have h := HS.out; rw [if_pos hle] at h; exact h
    clear HS HI hk HEn hmid hdb HM
    cases q with
    | true =>
      have hbg' : bg = 2 := hbg
      subst hbg'
      clear hbg
      go_enter Tryz.func39, Tryz.ntmps39
      go_wp2_with (go_at_call 87; refine (HP.out _).mono ?_; rintro x w1 ⟨rfl, rfl⟩)
      all_goals refine ret_cell2 rfl rfl (heap_alloc_new w _) Tryz.underlying51 rfl rfl rfl ?_
      all_goals exact ⟨by rw [HS2.out]; rfl, (Below.refl _ _).alloc (Nat.le_refl _) _⟩
    | false =>
      have hbg' : bg = 1 := hbg
      subst hbg'
      clear hbg
      go_enter Tryz.func39, Tryz.ntmps39
      go_wp2_with (go_at_call 87; refine (HP.out _).mono ?_; rintro x w1 ⟨rfl, rfl⟩)
      all_goals refine ret_cell2 rfl rfl (heap_alloc_new w _) Tryz.underlying51 rfl rfl rfl ?_
      all_goals exact ⟨by rw [HS2.out]; rfl, (Below.refl _ _).alloc (Nat.le_refl _) _⟩
  · have HS2 : Hid (csetF l e = (⟨false, q, (l.drop bg).take (en - bg)⟩, en + 1)) := by have h := HS.out; rw [if_neg hle] at h; exact h
    obtain ⟨hk1, hk2⟩ := hk (by omega)
    have hen : (bg : Int) + 1 + ix = (en : Int) := by have h := HEn.out; omega
    have HQ : Hid (str ((l.drop bg).take (en - bg)) = m) := HM.out
    clear HS hk HEn HM
    cases q with
    | true =>
      have hbg' : bg = 2 := hbg
      subst hbg'
      clear hbg
      have hen2 : (2 : Int) + 1 + ix = (en : Int) := hen
      clear hen
      obtain ⟨ixn, rfl⟩ : ∃ k : Nat, ix = (k : Int) := ⟨ix.toNat, by omega⟩
      have hen3 : en = 3 + ixn := by omega
      subst hen3
      clear hen2
      have hsl := fun W => slice_mid z 2 (3 + ixn) 2 (3 + (ixn : Int)) rfl (by omega) (by omega) (by omega) W
      rw [hmid] at hsl
      go_enter Tryz.func39, Tryz.ntmps39
      go_wp2_with (first | (go_at_call 87; refine (HP.out _).mono ?_; rintro x w1 ⟨rfl, rfl⟩) | (go_at_call 88; refine (HI.out _).mono ?_; rintro x w1 ⟨rfl, rfl⟩))
      all_goals refine ret_cell2 rfl rfl (heap_alloc_new w _) Tryz.underlying51 rfl rfl rfl ?_
      all_goals exact ⟨by rw [HS2.out]; simp only [tokV]; rw [HQ.out, show ((3 + ixn + 1 : Nat) : Int) = 3 + (ixn : Int) + 1 by omega]; rfl, (Below.refl _ _).alloc (Nat.le_refl _) _⟩
    | false =>
      have hbg' : bg = 1 := hbg
      subst hbg'
      clear hbg
      have hen2 : (1 : Int) + 1 + ix = (en : Int) := hen
      clear hen
      obtain ⟨ixn, rfl⟩ : ∃ k : Nat, ix = (k : Int) := ⟨ix.toNat, by omega⟩
      have hen3 : en = 2 + ixn := by omega
      subst hen3
      clear hen2
      have hsl := fun W => slice_mid z 1 (2 + ixn) 1 (2 + (ixn : Int)) rfl (by omega) (by omega) (by omega) W
      rw [hmid] at hsl
      go_enter Tryz.func39, Tryz.ntmps39
      go_wp2_with (first | (go_at_call 87; refine (HP.out _).mono ?_; rintro x w1 ⟨rfl, rfl⟩) | (go_at_call 88; refine (HI.out _).mono ?_; rintro x w1 ⟨rfl, rfl⟩))
      all_goals refine ret_cell2 rfl rfl (heap_alloc_new w _) Tryz.underlying51 rfl rfl rfl ?_
      all_goals exact ⟨by rw [HS2.out]; simp only [tokV]; rw [HQ.out, show ((2 + ixn + 1 : Nat) : Int) = 2 + (ixn : Int) + 1 by omega]; rfl, (Below.refl _ _).alloc (Nat.le_refl _) _⟩
end Go.Proofs.YtgoofifbifdgoaaGreatDoor
