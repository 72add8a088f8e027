/-
  Unified diffs: the program's readPlace (made by wip/genfg.py).
-/
import Derived.Test.YtkolgglllladfaaGreatDoorFf
import Derived.Test.YtkolgglllladfaaGreatDoorGrC
namespace Go.Proofs.YtkolgglllladfaaGreatDoor.Un
/-- what readPlace cuts -/
def pS (l : Bs) : Bs := Lib.trimPrefix l mkB
def pO (l : Bs) : Bs := (cutS mkM (pS l)).1
def pR (l : Bs) : Bs := (cutS mkM (pS l)).2.1
def pF (l : Bs) : Bs := (cutS mkC (pR l)).1
def pT (l : Bs) : Bs := (cutS mkC (pR l)).2.1
def pB (l : Bs) : Bool := Lib.hasPrefix l mkB && ((cutS mkC (pR l)).2.2 && (headP (pT l)).isSome)
theorem place_P (l : Bs) : placeP l = if pB l && (rgB (pO l) && rgB (pF l)) then some ⟨rgA (pO l), rgN (pO l), rgA (pF l), rgN (pF l), Lib.trimPrefix (pT l) [32]⟩ else none := by
  unfold placeP pB
  by_cases hp : Lib.hasPrefix l mkB = true
  · have e : pre mkB l = some (pS l) := by
      unfold pre pS Lib.trimPrefix
      have hp' : mkB.isPrefixOf l = true := hp
      rw [if_pos hp', if_pos hp]
    rw [e, hp]
    simp only [Bool.true_and]
    show (match cutS mkC (pR l) with | (_, _, false) => none | (f, t, true) => match headP t, rngP (pO l), rngP f with | some h, some o, some q => some (Plc.mk o.1 o.2 q.1 q.2 h) | _, _, _ => none) = _
    cases h : cutS mkC (pR l) with
    | mk f tf =>
      obtain ⟨t, b⟩ := tf
      have hf : pF l = f := by unfold pF; rw [h]
      have ht : pT l = t := by unfold pT; rw [h]
      cases b with
      | false => rfl
      | true =>
        simp only
        rw [hf, ht, rng_eq, rng_eq]
        cases hh : headP t with
        | none => rfl
        | some hd =>
          rw [headP_trim hh]
          cases rgB (pO l) <;> cases rgB f <;> rfl
  · have e : pre mkB l = none := by
      unfold pre
      have hp' : ¬ mkB.isPrefixOf l = true := hp
      rw [if_neg hp']
    have hp2 : Lib.hasPrefix l mkB = false := by simpa using hp
    rw [e, hp2]
    rfl
end Go.Proofs.YtkolgglllladfaaGreatDoor.Un
namespace Go.Proofs.YtkolgglllladfaaGreatDoor
open Go.RowKit

theorem setU (w : World) (g k : Nat) (cs : Array Value) (t : TypeId) (u : Value) (h : w.heap[g]? = some (.cells cs t)) : (w.setCell ⟨g, k, none⟩ u).heap[g]? = some (.cells (cs.setIfInBounds k u) t) := by
  have hl := lt_of_heap h
  have he : w.heap[g] = .cells cs t := by rw [Array.getElem?_eq_getElem hl] at h; exact Option.some.inj h
  simp [World.setCell, hl, Array.getElem_modify, he]
theorem frozU {w : World} {g : Nat} {cs : Array Value} {t : TypeId} (h : w.heap[g]? = some (.cells cs t)) (j : Nat) : w.frozen? ⟨g, j, none⟩ = false := by simp [World.frozen?, h]
theorem belowU {w w' : World} {B G k : Nat} {u : Value} (h : Below B w w') (hG : B ≤ G) : Below B w (w'.setCell ⟨G, k, none⟩ u) :=
  ⟨h.os, h.tape, h.output, by simp only [World.setCell, Array.size_modify]; exact h.size, fun j hj => by
    have hne : j ≠ G := by omega
    rw [← h.block j hj]
    simp [World.setCell, Array.getElem?_modify, Ne.symm hne]⟩
theorem ba_list (l : Un.Bs) : (ByteArray.mk l.toArray).data.toList = l := rfl
theorem ba_size (l : Un.Bs) : (ByteArray.mk l.toArray).size = l.length := by show l.toArray.size = _; exact List.size_toArray ..
theorem trim_len (l p : Un.Bs) : (Lib.trimPrefix l p).length ≤ l.length := by
  unfold Lib.trimPrefix
  split
  · simp
  · exact Nat.le_refl _
set_option maxHeartbeats 4000000 in
set_option maxRecDepth 100000 in
theorem readPlace_any {w : World} {s : ByteArray} (hs : s.size < 4294967281) (hv : LibV w) :
    Calls Tryz.prog 58 #[.string s] w fun e w' => e = .returned (.tuple #[if Un.pB s.data.toList then .agg #[.int .i64 (Un.rgA (Un.pO s.data.toList) : Nat), .int .i64 (Un.rgN (Un.pO s.data.toList) : Nat), .int .i64 (Un.rgA (Un.pF s.data.toList) : Nat), .int .i64 (Un.rgN (Un.pF s.data.toList) : Nat), .string ⟨(Lib.trimPrefix (Un.pT s.data.toList) [32]).toArray⟩, .slice none 0 0] else .agg #[.int .i64 0, .int .i64 0, .int .i64 0, .int .i64 0, .string ⟨#[]⟩, .slice none 0 0], .bool (Un.pB s.data.toList && (Un.rgB (Un.pO s.data.toList) && Un.rgB (Un.pF s.data.toList)))]) ∧ Below w.heap.size w w' := by
  obtain ⟨l, hl⟩ : ∃ l, l = s.data.toList := ⟨_, rfl⟩
  have hsz : l.length = s.size := by rw [hl, Array.length_toList]; rfl
  have n1 : (Un.pS l).length ≤ l.length := trim_len _ _
  have n2 : (Un.pO l).length ≤ (Un.pS l).length ∧ (Un.pR l).length ≤ (Un.pS l).length := Un.cut_len (f := (Un.cutS Un.mkM (Un.pS l)).2.2) rfl
  have n3 : (Un.pF l).length ≤ (Un.pR l).length ∧ (Un.pT l).length ≤ (Un.pR l).length := Un.cut_len (f := (Un.cutS Un.mkC (Un.pR l)).2.2) rfl
  have HV := hid hv
  have HC1 := hid (fun w1 => Tryz.strings_CutPrefix s ⟨#[64, 64, 32, 45]⟩ w1)
  have c1 : (ByteArray.mk #[64, 64, 32, 45]).data.toList = Un.mkB := rfl
  rw [c1, ← hl] at HC1
  have HC2 : Hid (∀ w1, Below w.heap.size w w1 → Calls Tryz.prog 92 #[.string ⟨(Un.pS l).toArray⟩, .string ⟨#[32, 43]⟩] w1 fun e w' => e = .returned (.tuple #[.string ⟨(Un.pO l).toArray⟩, .string ⟨(Un.pR l).toArray⟩, .bool (Un.cutS Un.mkM (Un.pS l)).2.2]) ∧ ∃ n, w' = w1.drewN n) := hid (fun w1 hb => by
    obtain ⟨m, hm⟩ := (HV.out.below hb).max
    have := Tryz.strings_Cut ⟨(Un.pS l).toArray⟩ ⟨#[32, 43]⟩ m w1 (by rw [ba_size]; omega) hm
    have e : Lib.cut (ByteArray.mk (Un.pS l).toArray).data.toList (ByteArray.mk #[32, 43]).data.toList = Un.cutS Un.mkM (Un.pS l) := Un.cut_lib Un.mkM (by simp [Un.mkM]) _
    rw [e] at this
    exact this)
  have HC3 : Hid (∀ w1, Below w.heap.size w w1 → Calls Tryz.prog 92 #[.string ⟨(Un.pR l).toArray⟩, .string ⟨#[32, 64, 64]⟩] w1 fun e w' => e = .returned (.tuple #[.string ⟨(Un.pF l).toArray⟩, .string ⟨(Un.pT l).toArray⟩, .bool (Un.cutS Un.mkC (Un.pR l)).2.2]) ∧ ∃ n, w' = w1.drewN n) := hid (fun w1 hb => by
    obtain ⟨m, hm⟩ := (HV.out.below hb).max
    have := Tryz.strings_Cut ⟨(Un.pR l).toArray⟩ ⟨#[32, 64, 64]⟩ m w1 (by rw [ba_size]; omega) hm
    have e : Lib.cut (ByteArray.mk (Un.pR l).toArray).data.toList (ByteArray.mk #[32, 64, 64]).data.toList = Un.cutS Un.mkC (Un.pR l) := Un.cut_lib Un.mkC (by simp [Un.mkC]) _
    rw [e] at this
    exact this)
  have HH := hid (fun w1 => dhead_any (w := w1) (s := ⟨(Un.pT l).toArray⟩))
  have HR1 := hid (fun w1 (hb : Below w.heap.size w w1) => readRange_any (w := w1) (s := ⟨(Un.pO l).toArray⟩) (by rw [ba_size]; omega) (HV.out.below hb))
  have HR2 := hid (fun w1 (hb : Below w.heap.size w w1) => readRange_any (w := w1) (s := ⟨(Un.pF l).toArray⟩) (by rw [ba_size]; omega) (HV.out.below hb))
  simp only at HH HR1 HR2
  have hpb : Un.pB l = (Lib.hasPrefix l Un.mkB && ((Un.cutS Un.mkC (Un.pR l)).2.2 && (Un.headP (Un.pT l)).isSome)) := rfl
  rw [← hl]
  have eS : Lib.trimPrefix l Un.mkB = Un.pS l := rfl
  rw [eS] at HC1
  rw [hpb]
  generalize Lib.hasPrefix l Un.mkB = b1 at HC1 ⊢
  generalize (Un.cutS Un.mkC (Un.pR l)).2.2 = b2 at HC3 ⊢
  generalize (Un.headP (Un.pT l)).isSome = b3 at HH ⊢
  generalize (Un.cutS Un.mkM (Un.pS l)).2.2 = b4 at HC2
  generalize Un.rgA (Un.pO l) = A at HR1 ⊢
  generalize Un.rgN (Un.pO l) = N at HR1 ⊢
  generalize Un.rgB (Un.pO l) = b5 at HR1 ⊢
  generalize Un.rgA (Un.pF l) = B at HR2 ⊢
  generalize Un.rgN (Un.pF l) = M at HR2 ⊢
  generalize Un.rgB (Un.pF l) = b6 at HR2 ⊢
  generalize ByteArray.mk (Lib.trimPrefix (Un.pT l) [32]).toArray = H at HH ⊢
  generalize ByteArray.mk (Un.pT l).toArray = sT at HC3 HH
  generalize ByteArray.mk (Un.pF l).toArray = sF at HC3 HR2
  generalize ByteArray.mk (Un.pR l).toArray = sR at HC2 HC3
  generalize ByteArray.mk (Un.pO l).toArray = sO at HC2 HR1
  generalize ByteArray.mk (Un.pS l).toArray = sS at HC1 HC2
  clear hv hs hsz n1 n2 n3 hl hpb eS c1
  have hbA := (Below.refl w.heap.size w).alloc (Nat.le_refl _) (.cells #[.int .i64 0, .int .i64 0, .int .i64 0, .int .i64 0, .string ⟨#[]⟩, .slice none 0 0] 37)
  have hkA := heap_alloc_new w (.cells #[.int .i64 0, .int .i64 0, .int .i64 0, .int .i64 0, .string ⟨#[]⟩, .slice none 0 0] 37)
  obtain ⟨R, hR⟩ : ∃ R, R = w.heap.size := ⟨_, rfl⟩
  have HWR : Hid (w.heap.size ≤ R) := hid (by omega)
  go_enter Tryz.func58, Tryz.ntmps58
  go_wp2_with fail
  rw [← hR] at hkA ⊢
  have HR0 := hid hkA
  have HB0 := hid hbA
  generalize w.alloc (.cells #[.int .i64 0, .int .i64 0, .int .i64 0, .int .i64 0, .string ⟨#[]⟩, .slice none 0 0] 37) = w0 at HR0 HB0 ⊢
  clear hbA hkA hR
  refine (HC1.out w0).mono ?_
  rintro e w1 ⟨rfl, h1⟩
  rw [h1]
  clear h1
  go_wp2_with fail
  refine (HC2.out _ HB0.out).mono ?_
  rintro e w2' ⟨rfl, q2, rfl⟩
  have HBd : Hid (Below w0.heap.size w0 (w0.drewN q2)) := hid (below_drewN (Below.refl _ _) q2)
  have HR2' := hid ((HBd.out.block R (lt_of_heap HR0.out)).trans HR0.out)
  have HB2 := hid (HB0.out.trans (HBd.out.mono HB0.out.size))
  generalize w0.drewN q2 = w2 at HR2' HB2 ⊢
  clear HBd HR0 HB0
  go_wp2_with fail
  refine (HC3.out _ HB2.out).mono ?_
  rintro e w3' ⟨rfl, q3, rfl⟩
  have HBd : Hid (Below w2.heap.size w2 (w2.drewN q3)) := hid (below_drewN (Below.refl _ _) q3)
  have HR := hid ((HBd.out.block R (lt_of_heap HR2'.out)).trans HR2'.out)
  have HB := hid (HB2.out.trans (HBd.out.mono HB2.out.size))
  generalize w2.drewN q3 = w3 at HR HB ⊢
  clear HBd HR2' HB2
  go_wp2_with fail
  refine (HH.out w3).mono ?_
  rintro e w4' ⟨rfl, h4⟩
  rw [h4]
  clear h4
  clear HC1 HC2 HC3 HH
  cases b1
  · have z0 : w3.cell? ⟨R, 0, none⟩ = some (.int .i64 0) := cell_of_blk HR.out 0
    have z1 : w3.cell? ⟨R, 1, none⟩ = some (.int .i64 0) := cell_of_blk HR.out 1
    have z2 : w3.cell? ⟨R, 2, none⟩ = some (.int .i64 0) := cell_of_blk HR.out 2
    have z3 : w3.cell? ⟨R, 3, none⟩ = some (.int .i64 0) := cell_of_blk HR.out 3
    have z4 : w3.cell? ⟨R, 4, none⟩ = some (.string ⟨#[]⟩) := cell_of_blk HR.out 4
    have z5 : w3.cell? ⟨R, 5, none⟩ = some (.slice none 0 0) := cell_of_blk HR.out 5
    have zf : ∀ j, w3.frozen? ⟨R, j, none⟩ = false := fun j => frozU HR.out j
    go_wp2_with fail
    have hk6 := (setU _ R 5 _ _ (.slice none 0 0) (setU _ R 4 _ _ (.string ⟨#[]⟩) (setU _ R 3 _ _ (.int .i64 0) (setU _ R 2 _ _ (.int .i64 0) (setU _ R 1 _ _ (.int .i64 0) (setU _ R 0 _ _ (.int .i64 0) HR.out))))))
    have HB6 := hid (belowU (k := 5) (u := .slice none 0 0) (belowU (k := 4) (u := .string ⟨#[]⟩) (belowU (k := 3) (u := .int .i64 0) (belowU (k := 2) (u := .int .i64 0) (belowU (k := 1) (u := .int .i64 0) (belowU (k := 0) (u := .int .i64 0) HB.out HWR.out) HWR.out) HWR.out) HWR.out) HWR.out) HWR.out)
    generalize ((((((w3.setCell ⟨R, 0, none⟩ (.int .i64 0)).setCell ⟨R, 1, none⟩ (.int .i64 0)).setCell ⟨R, 2, none⟩ (.int .i64 0)).setCell ⟨R, 3, none⟩ (.int .i64 0)).setCell ⟨R, 4, none⟩ (.string ⟨#[]⟩)).setCell ⟨R, 5, none⟩ (.slice none 0 0)) = w11 at hk6 HB6 ⊢
    have y0 : w11.cell? ⟨R, 0, none⟩ = some (.int .i64 0) := cell_of_blk hk6 0
    have y1 : w11.cell? ⟨R, 1, none⟩ = some (.int .i64 0) := cell_of_blk hk6 1
    have y2 : w11.cell? ⟨R, 2, none⟩ = some (.int .i64 0) := cell_of_blk hk6 2
    have y3 : w11.cell? ⟨R, 3, none⟩ = some (.int .i64 0) := cell_of_blk hk6 3
    have y4 : w11.cell? ⟨R, 4, none⟩ = some (.string ⟨#[]⟩) := cell_of_blk hk6 4
    have y5 : w11.cell? ⟨R, 5, none⟩ = some (.slice none 0 0) := cell_of_blk hk6 5
    exact bodyPost_ret (v := .tuple #[.agg #[.int .i64 0, .int .i64 0, .int .i64 0, .int .i64 0, .string ⟨#[]⟩, .slice none 0 0], .bool false]) (by simp [results, Tryz.results58, go_sem, y0, y1, y2, y3, y4, y5]) rfl ⟨rfl, HB6.out⟩
  cases b2
  · have z0 : w3.cell? ⟨R, 0, none⟩ = some (.int .i64 0) := cell_of_blk HR.out 0
    have z1 : w3.cell? ⟨R, 1, none⟩ = some (.int .i64 0) := cell_of_blk HR.out 1
    have z2 : w3.cell? ⟨R, 2, none⟩ = some (.int .i64 0) := cell_of_blk HR.out 2
    have z3 : w3.cell? ⟨R, 3, none⟩ = some (.int .i64 0) := cell_of_blk HR.out 3
    have z4 : w3.cell? ⟨R, 4, none⟩ = some (.string ⟨#[]⟩) := cell_of_blk HR.out 4
    have z5 : w3.cell? ⟨R, 5, none⟩ = some (.slice none 0 0) := cell_of_blk HR.out 5
    have zf : ∀ j, w3.frozen? ⟨R, j, none⟩ = false := fun j => frozU HR.out j
    go_wp2_with fail
    have hk6 := (setU _ R 5 _ _ (.slice none 0 0) (setU _ R 4 _ _ (.string ⟨#[]⟩) (setU _ R 3 _ _ (.int .i64 0) (setU _ R 2 _ _ (.int .i64 0) (setU _ R 1 _ _ (.int .i64 0) (setU _ R 0 _ _ (.int .i64 0) HR.out))))))
    have HB6 := hid (belowU (k := 5) (u := .slice none 0 0) (belowU (k := 4) (u := .string ⟨#[]⟩) (belowU (k := 3) (u := .int .i64 0) (belowU (k := 2) (u := .int .i64 0) (belowU (k := 1) (u := .int .i64 0) (belowU (k := 0) (u := .int .i64 0) HB.out HWR.out) HWR.out) HWR.out) HWR.out) HWR.out) HWR.out)
    generalize ((((((w3.setCell ⟨R, 0, none⟩ (.int .i64 0)).setCell ⟨R, 1, none⟩ (.int .i64 0)).setCell ⟨R, 2, none⟩ (.int .i64 0)).setCell ⟨R, 3, none⟩ (.int .i64 0)).setCell ⟨R, 4, none⟩ (.string ⟨#[]⟩)).setCell ⟨R, 5, none⟩ (.slice none 0 0)) = w11 at hk6 HB6 ⊢
    have y0 : w11.cell? ⟨R, 0, none⟩ = some (.int .i64 0) := cell_of_blk hk6 0
    have y1 : w11.cell? ⟨R, 1, none⟩ = some (.int .i64 0) := cell_of_blk hk6 1
    have y2 : w11.cell? ⟨R, 2, none⟩ = some (.int .i64 0) := cell_of_blk hk6 2
    have y3 : w11.cell? ⟨R, 3, none⟩ = some (.int .i64 0) := cell_of_blk hk6 3
    have y4 : w11.cell? ⟨R, 4, none⟩ = some (.string ⟨#[]⟩) := cell_of_blk hk6 4
    have y5 : w11.cell? ⟨R, 5, none⟩ = some (.slice none 0 0) := cell_of_blk hk6 5
    exact bodyPost_ret (v := .tuple #[.agg #[.int .i64 0, .int .i64 0, .int .i64 0, .int .i64 0, .string ⟨#[]⟩, .slice none 0 0], .bool false]) (by simp [results, Tryz.results58, go_sem, y0, y1, y2, y3, y4, y5]) rfl ⟨rfl, HB6.out⟩
  cases b3
  · have z0 : w3.cell? ⟨R, 0, none⟩ = some (.int .i64 0) := cell_of_blk HR.out 0
    have z1 : w3.cell? ⟨R, 1, none⟩ = some (.int .i64 0) := cell_of_blk HR.out 1
    have z2 : w3.cell? ⟨R, 2, none⟩ = some (.int .i64 0) := cell_of_blk HR.out 2
    have z3 : w3.cell? ⟨R, 3, none⟩ = some (.int .i64 0) := cell_of_blk HR.out 3
    have z4 : w3.cell? ⟨R, 4, none⟩ = some (.string ⟨#[]⟩) := cell_of_blk HR.out 4
    have z5 : w3.cell? ⟨R, 5, none⟩ = some (.slice none 0 0) := cell_of_blk HR.out 5
    have zf : ∀ j, w3.frozen? ⟨R, j, none⟩ = false := fun j => frozU HR.out j
    go_wp2_with fail
    have hk6 := (setU _ R 5 _ _ (.slice none 0 0) (setU _ R 4 _ _ (.string ⟨#[]⟩) (setU _ R 3 _ _ (.int .i64 0) (setU _ R 2 _ _ (.int .i64 0) (setU _ R 1 _ _ (.int .i64 0) (setU _ R 0 _ _ (.int .i64 0) HR.out))))))
    have HB6 := hid (belowU (k := 5) (u := .slice none 0 0) (belowU (k := 4) (u := .string ⟨#[]⟩) (belowU (k := 3) (u := .int .i64 0) (belowU (k := 2) (u := .int .i64 0) (belowU (k := 1) (u := .int .i64 0) (belowU (k := 0) (u := .int .i64 0) HB.out HWR.out) HWR.out) HWR.out) HWR.out) HWR.out) HWR.out)
    generalize ((((((w3.setCell ⟨R, 0, none⟩ (.int .i64 0)).setCell ⟨R, 1, none⟩ (.int .i64 0)).setCell ⟨R, 2, none⟩ (.int .i64 0)).setCell ⟨R, 3, none⟩ (.int .i64 0)).setCell ⟨R, 4, none⟩ (.string ⟨#[]⟩)).setCell ⟨R, 5, none⟩ (.slice none 0 0)) = w11 at hk6 HB6 ⊢
    have y0 : w11.cell? ⟨R, 0, none⟩ = some (.int .i64 0) := cell_of_blk hk6 0
    have y1 : w11.cell? ⟨R, 1, none⟩ = some (.int .i64 0) := cell_of_blk hk6 1
    have y2 : w11.cell? ⟨R, 2, none⟩ = some (.int .i64 0) := cell_of_blk hk6 2
    have y3 : w11.cell? ⟨R, 3, none⟩ = some (.int .i64 0) := cell_of_blk hk6 3
    have y4 : w11.cell? ⟨R, 4, none⟩ = some (.string ⟨#[]⟩) := cell_of_blk hk6 4
    have y5 : w11.cell? ⟨R, 5, none⟩ = some (.slice none 0 0) := cell_of_blk hk6 5
    exact bodyPost_ret (v := .tuple #[.agg #[.int .i64 0, .int .i64 0, .int .i64 0, .int .i64 0, .string ⟨#[]⟩, .slice none 0 0], .bool false]) (by simp [results, Tryz.results58, go_sem, y0, y1, y2, y3, y4, y5]) rfl ⟨rfl, HB6.out⟩
  go_wp2_with fail
  refine (HR1.out _ HB.out).mono ?_
  rintro e w5 ⟨rfl, hb5⟩
  have HRn := hid ((hb5.block R (lt_of_heap HR.out)).trans HR.out)
  have HBn := hid (HB.out.trans (hb5.mono HB.out.size))
  clear hb5 HR HB
  go_wp2_with fail
  refine (HR2.out _ HBn.out).mono ?_
  rintro e w6 ⟨rfl, hb6⟩
  have HR := hid ((hb6.block R (lt_of_heap HRn.out)).trans HRn.out)
  have HB := hid (HBn.out.trans (hb6.mono HBn.out.size))
  clear hb6 HRn HBn
  cases b5
  · have z0 : w6.cell? ⟨R, 0, none⟩ = some (.int .i64 0) := cell_of_blk HR.out 0
    have z1 : w6.cell? ⟨R, 1, none⟩ = some (.int .i64 0) := cell_of_blk HR.out 1
    have z2 : w6.cell? ⟨R, 2, none⟩ = some (.int .i64 0) := cell_of_blk HR.out 2
    have z3 : w6.cell? ⟨R, 3, none⟩ = some (.int .i64 0) := cell_of_blk HR.out 3
    have z4 : w6.cell? ⟨R, 4, none⟩ = some (.string ⟨#[]⟩) := cell_of_blk HR.out 4
    have z5 : w6.cell? ⟨R, 5, none⟩ = some (.slice none 0 0) := cell_of_blk HR.out 5
    have zf : ∀ j, w6.frozen? ⟨R, j, none⟩ = false := fun j => frozU HR.out j
    go_wp2_with fail
    have hk6 := (setU _ R 5 _ _ (.slice none 0 0) (setU _ R 4 _ _ (.string H) (setU _ R 3 _ _ (.int .i64 (M : Nat)) (setU _ R 2 _ _ (.int .i64 (B : Nat)) (setU _ R 1 _ _ (.int .i64 (N : Nat)) (setU _ R 0 _ _ (.int .i64 (A : Nat)) HR.out))))))
    have HB6 := hid (belowU (k := 5) (u := .slice none 0 0) (belowU (k := 4) (u := .string H) (belowU (k := 3) (u := .int .i64 (M : Nat)) (belowU (k := 2) (u := .int .i64 (B : Nat)) (belowU (k := 1) (u := .int .i64 (N : Nat)) (belowU (k := 0) (u := .int .i64 (A : Nat)) HB.out HWR.out) HWR.out) HWR.out) HWR.out) HWR.out) HWR.out)
    generalize ((((((w6.setCell ⟨R, 0, none⟩ (.int .i64 (A : Nat))).setCell ⟨R, 1, none⟩ (.int .i64 (N : Nat))).setCell ⟨R, 2, none⟩ (.int .i64 (B : Nat))).setCell ⟨R, 3, none⟩ (.int .i64 (M : Nat))).setCell ⟨R, 4, none⟩ (.string H)).setCell ⟨R, 5, none⟩ (.slice none 0 0)) = w11 at hk6 HB6 ⊢
    have y0 : w11.cell? ⟨R, 0, none⟩ = some (.int .i64 (A : Nat)) := cell_of_blk hk6 0
    have y1 : w11.cell? ⟨R, 1, none⟩ = some (.int .i64 (N : Nat)) := cell_of_blk hk6 1
    have y2 : w11.cell? ⟨R, 2, none⟩ = some (.int .i64 (B : Nat)) := cell_of_blk hk6 2
    have y3 : w11.cell? ⟨R, 3, none⟩ = some (.int .i64 (M : Nat)) := cell_of_blk hk6 3
    have y4 : w11.cell? ⟨R, 4, none⟩ = some (.string H) := cell_of_blk hk6 4
    have y5 : w11.cell? ⟨R, 5, none⟩ = some (.slice none 0 0) := cell_of_blk hk6 5
    exact bodyPost_ret (v := .tuple #[.agg #[.int .i64 (A : Nat), .int .i64 (N : Nat), .int .i64 (B : Nat), .int .i64 (M : Nat), .string H, .slice none 0 0], .bool false]) (by simp [results, Tryz.results58, go_sem, y0, y1, y2, y3, y4, y5]) rfl ⟨rfl, HB6.out⟩
  · have z0 : w6.cell? ⟨R, 0, none⟩ = some (.int .i64 0) := cell_of_blk HR.out 0
    have z1 : w6.cell? ⟨R, 1, none⟩ = some (.int .i64 0) := cell_of_blk HR.out 1
    have z2 : w6.cell? ⟨R, 2, none⟩ = some (.int .i64 0) := cell_of_blk HR.out 2
    have z3 : w6.cell? ⟨R, 3, none⟩ = some (.int .i64 0) := cell_of_blk HR.out 3
    have z4 : w6.cell? ⟨R, 4, none⟩ = some (.string ⟨#[]⟩) := cell_of_blk HR.out 4
    have z5 : w6.cell? ⟨R, 5, none⟩ = some (.slice none 0 0) := cell_of_blk HR.out 5
    have zf : ∀ j, w6.frozen? ⟨R, j, none⟩ = false := fun j => frozU HR.out j
    go_wp2_with fail
    have hk6 := (setU _ R 5 _ _ (.slice none 0 0) (setU _ R 4 _ _ (.string H) (setU _ R 3 _ _ (.int .i64 (M : Nat)) (setU _ R 2 _ _ (.int .i64 (B : Nat)) (setU _ R 1 _ _ (.int .i64 (N : Nat)) (setU _ R 0 _ _ (.int .i64 (A : Nat)) HR.out))))))
    have HB6 := hid (belowU (k := 5) (u := .slice none 0 0) (belowU (k := 4) (u := .string H) (belowU (k := 3) (u := .int .i64 (M : Nat)) (belowU (k := 2) (u := .int .i64 (B : Nat)) (belowU (k := 1) (u := .int .i64 (N : Nat)) (belowU (k := 0) (u := .int .i64 (A : Nat)) HB.out HWR.out) HWR.out) HWR.out) HWR.out) HWR.out) HWR.out)
    generalize ((((((w6.setCell ⟨R, 0, none⟩ (.int .i64 (A : Nat))).setCell ⟨R, 1, none⟩ (.int .i64 (N : Nat))).setCell ⟨R, 2, none⟩ (.int .i64 (B : Nat))).setCell ⟨R, 3, none⟩ (.int .i64 (M : Nat))).setCell ⟨R, 4, none⟩ (.string H)).setCell ⟨R, 5, none⟩ (.slice none 0 0)) = w11 at hk6 HB6 ⊢
    have y0 : w11.cell? ⟨R, 0, none⟩ = some (.int .i64 (A : Nat)) := cell_of_blk hk6 0
    have y1 : w11.cell? ⟨R, 1, none⟩ = some (.int .i64 (N : Nat)) := cell_of_blk hk6 1
    have y2 : w11.cell? ⟨R, 2, none⟩ = some (.int .i64 (B : Nat)) := cell_of_blk hk6 2
    have y3 : w11.cell? ⟨R, 3, none⟩ = some (.int .i64 (M : Nat)) := cell_of_blk hk6 3
    have y4 : w11.cell? ⟨R, 4, none⟩ = some (.string H) := cell_of_blk hk6 4
    have y5 : w11.cell? ⟨R, 5, none⟩ = some (.slice none 0 0) := cell_of_blk hk6 5
    exact bodyPost_ret (v := .tuple #[.agg #[.int .i64 (A : Nat), .int .i64 (N : Nat), .int .i64 (B : Nat), .int .i64 (M : Nat), .string H, .slice none 0 0], .bool b6]) (by simp [results, Tryz.results58, go_sem, y0, y1, y2, y3, y4, y5]) rfl ⟨rfl, HB6.out⟩
end Go.Proofs.YtkolgglllladfaaGreatDoor
