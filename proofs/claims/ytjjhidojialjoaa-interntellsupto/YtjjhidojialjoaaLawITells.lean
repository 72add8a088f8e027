/-
  PROVED: for every two lists of strings and every integer InternTells returns true, and all read afterwards as they read before; the condition: what the lists hold is at most 1048576 in bulk.
-/
import Derived.Test.YtjjhidojialjoaaNb
import Derived.Test.YtjjhidojialjoaaNa
import Derived.ProofKit
import Derived.OpenShut
import Derived.LaidLaws
import Derived.LaidHandle
import Derived.SizedLaws
import Derived.Deep.DeepHandedRow
import Derived.Deep.DeepCutAuto
import Derived.Deep.Cut
import Derived.Deep.CutRange
namespace Go.Proofs.Ytjjhidojialjoaa.internTells
open Go.ChangeShapes Go.WideShapes Go.ChangeAt Go.RowKit
open Go.ChangeMaps (open_string shut_string)
open internWays (bits_15 key_T beq_T cell_later two_b)

theorem small_of {xs : List ByteArray} {N : Nat} (h : (DL xs).flatten.length + xs.length ≤ N) : ∀ x ∈ xs, x.size ≤ N := by
  induction xs with
  | nil => intro x hx; cases hx
  | cons y r ih =>
    have e : (DL (y :: r)).flatten.length = y.size + (DL r).flatten.length := by
      show (y.data.toList ++ (DL r).flatten).length = _
      rw [List.length_append, size_data]
    rw [e, List.length_cons] at h
    intro x hx
    rcases List.mem_cons.1 hx with rfl | hx
    · omega
    · exact ih (by omega) x hx

theorem wp_region_class {id : Nat} {C : World → Prop} {Q : Exit → Act → World → Prop} {a : Act} {w : World} {l : List Oper} (hm : Try.prog.follows .mixedOrders = true) (hB : Region.lexB .any l.toArray = true) (hC : C w.drew)
    (h : wpQuiet Try.prog l.toArray C (fun a' => ∀ w', C w' → Q .normal a' w') l a) : (Code.region id l.toArray true).wp Try.prog Q a w :=
  wp_region_quiet (C := C) hm hB hC (by simpa using h)
/-- where the strings of a row lie -/
def StrAt (w : World) (g : Nat) (xs : List ByteArray) : Prop := ∀ (j : Nat) x, xs[j]? = some x → w.cell? ⟨g, j, none⟩ = some (.string x)
def IntAt (w : World) (g : Nat) (l : List Nat) : Prop := ∀ (j n : Nat), l[j]? = some n → w.cell? ⟨g, j, none⟩ = some (.int .i64 n)

set_option maxHeartbeats 4000000 in
set_option maxRecDepth 100000 in
theorem walk (v : Value) (xs : List ByteArray) (u : Value) (ys : List ByteArray) (e : Int) (w : World) (hr : Rd w v xs) (hn1 : (DL xs).flatten.length + xs.length ≤ 1048576) (hsh : v = .slice none 0 0 ∨ ∃ ad n c, v = .slice (some ad) n c)
    (hq : Rd w u ys) (hn2 : (DL ys).flatten.length + ys.length ≤ 1048576) (hsh2 : u = .slice none 0 0 ∨ ∃ ad n c, u = .slice (some ad) n c) :
    Calls Try.prog 4 #[v, u, .int .i64 e] w fun r w' => r = .returned (.bool true) ∧ Below w.heap.size w w' := by
  obtain ⟨n, hn, hbits⟩ := bits_15 e
  have hsx := small_of hn1
  have hsy := small_of hn2
  have hl1 : xs.length ≤ 1048576 := by omega
  have hl2 : ys.length ≤ 1048576 := by omega
  have HSX := hid hsx
  have HSY := hid hsy
  have HR := hid hr
  have HQ := hid hq
  have HS1 := hid (hr.src hsh)
  have HS2 := hid (hq.src hsh2)
  have hsum : sumB (n : Int) = true := by unfold sumB; simp; omega
  have HC := hid (ids_any (w := w) hr hq (fun x hx => by have := hsx x hx; omega) (fun x hx => by have := hsy x hx; omega) (by omega) hsum)
  obtain ⟨a, c, rfl⟩ := hr.shape
  obtain ⟨a', c', rfl⟩ := hq.shape
  clear hn1 hn2 hsx hsy hr hq hsh hsh2 hsum
  go_enter Try.func4, Try.ntmps4
  go_wp2_with fail
  refine HC.out.mono ?_
  rintro r w1 ⟨v1, v2, rfl, hO1, hO2, _, hb1⟩
  obtain ⟨a1, c1, rfl⟩ := hO1.rd.shape
  obtain ⟨a2, c2, rfl⟩ := hO2.rd.shape
  have hA1 : (idsA (n : Int) xs).length = xs.length := by unfold idsA; rw [In.nums_len, keys_length]
  have hA2 : (idsB (n : Int) xs ys).length = ys.length := by unfold idsB; rw [In.nums_len, keys_length]
  have HO1 := hid hO1
  have HO2 := hid hO2
  rw [hA1] at HO1 ⊢
  rw [hA2] at HO2 ⊢
  have HA1 := hid hA1
  have HA2 := hid hA2
  clear hO1 hO2 HC hA1 hA2
  go_wp2_with (at_builtin; refine wpList_append_all rfl _ _ 26 9 rfl Try.underlying26 Try.infoStr rfl (by omega) w1.heap.size _ 0 [] rfl (World.ownsRow_nil _ _ _ _) _ (SV (DL xs)) rfl (HS1.out.later hb1) (SV_one_cell _) (by rw [SV_length, DL_length]; omega) (Nat.le_refl _) ?_)
  intro v3 w2 hO3 hg2
  have hb2 := (Below.refl w1.heap.size w1).grown hg2 (Nat.le_refl _) (fun k hk => by cases hk)
  have hz1 := hb1.size
  have HO3 : Hid (OwnS w2 w1.heap.size v3 (DL xs)) := hid (by
    have h : w2.ownsRow w1.heap.size 9 1 v3 (SV (DL xs)).length (SV (DL xs)) := by simpa using hO3
    rw [SV_length] at h
    exact h)
  have HS2' := hid ((HS2.out.later hb1).later hb2)
  have hz2 := hb2.size
  clear hO3 hg2 HS1 HS2
  go_wp2_with (at_builtin; refine wpList_append_all rfl _ _ 26 9 rfl Try.underlying26 Try.infoStr rfl (by omega) w1.heap.size _ _ (SV (DL xs)) rfl HO3.out _ (SV (DL ys)) rfl HS2'.out (SV_one_cell _) (by rw [SV_length, DL_length, DL_length]; omega) hz2 ?_)
  intro v4 w3 hO4 hg3
  have hb3 := (hb2).grown hg3 hz2 (own_ge HO3.out)
  have HO4 : Hid (OwnS w3 w1.heap.size v4 (DL (xs ++ ys))) := hid (by
    have h : w3.ownsRow w1.heap.size 9 1 v4 ((DL xs).length + (SV (DL ys)).length) (SV (DL xs) ++ SV (DL ys)) := hO4
    rw [SV_length, ← List.length_append, ← SV_append] at h
    show w3.ownsRow _ _ _ _ _ _
    rw [show DL (xs ++ ys) = DL xs ++ DL ys from List.map_append]
    exact h)
  have HI1 := hid (HO1.out.stays hb3)
  have HI2 := hid (HO2.out.stays hb3)
  have hz3 := hb3.size
  clear hO4 hg3 HO3 HS2' HO1 HO2
  go_wp2_with (at_builtin; refine wpList_append_all rfl _ _ 27 3 rfl Try.underlying27 Try.infoInt rfl (by omega) w3.heap.size _ 0 [] rfl (World.ownsRow_nil _ _ _ _) _ (intC (idsA (n : Int) xs)) rfl (own_src HI1.out) (int_cells _) (by rw [intC_length, HA1.out]; omega) (Nat.le_refl _) ?_)
  intro v5 w4 hO5 hg4
  have hb4 := (Below.refl w3.heap.size w3).grown hg4 (Nat.le_refl _) (fun k hk => by cases hk)
  have HO5 : Hid (OwnI w4 w3.heap.size v5 (idsA (n : Int) xs)) := hid (by
    have h : w4.ownsRow w3.heap.size 3 1 v5 (intC (idsA (n : Int) xs)).length (intC (idsA (n : Int) xs)) := by simpa using hO5
    rw [intC_length] at h
    exact h)
  have HI2' := hid (HI2.out.stays hb4)
  have hz4 := hb4.size
  clear hO5 hg4 HI1 HI2
  go_wp2_with (at_builtin; refine wpList_append_all rfl _ _ 27 3 rfl Try.underlying27 Try.infoInt rfl (by omega) w3.heap.size _ _ (intC (idsA (n : Int) xs)) rfl HO5.out _ (intC (idsB (n : Int) xs ys)) rfl (own_src HI2'.out) (int_cells _) (by rw [intC_length, HA1.out, HA2.out]; omega) hz4 ?_)
  intro v6 w5 hO6 hg5
  have hb5 := hb4.grown hg5 hz4 (own_ge HO5.out)
  have HO6 : Hid (OwnI w5 w3.heap.size v6 (In.nums [] (keys (n : Int) (xs ++ ys)))) := hid (by
    have h : w5.ownsRow w3.heap.size 3 1 v6 ((idsA (n : Int) xs).length + (intC (idsB (n : Int) xs ys)).length) (intC (idsA (n : Int) xs) ++ intC (idsB (n : Int) xs ys)) := hO6
    rw [intC_length, ← List.length_append, ← intC_append] at h
    show w5.ownsRow _ _ _ _ _ _
    rw [show keys (n : Int) (xs ++ ys) = keys (n : Int) xs ++ keys (n : Int) ys from List.map_append, In.nums_append]
    exact h)
  have HO7 := hid (HO4.out.stays hb5)
  have hB5 : Below w.heap.size w w5 := hb1.trans ((hb3.mono hz1).trans (hb5.mono (Nat.le_trans hz1 hz3)))
  clear hO6 hg5 HO5 HI2' HO4 hb1 hb2 hb3 hb4 hb5
  have hN : (xs ++ ys).length ≤ 2097152 := by rw [List.length_append]; omega
  have HZ : Hid (∀ x ∈ xs ++ ys, x.size ≤ 1048576) := hid (fun x hx => by
    rcases List.mem_append.1 hx with h | h
    · exact HSX.out x h
    · exact HSY.out x h)
  have HRd : Hid (Rd w5 v4 (xs ++ ys)) := hid (by
    have h := rd_own HO7.out
    rwa [BL_DL] at h)
  have HRi := hid HO6.out.rd
  have HIl : Hid ((In.nums [] (keys (n : Int) (xs ++ ys))).length = (xs ++ ys).length) := hid (by rw [In.nums_len, keys_length])
  have HKK : Hid (∀ (j : Nat) z, (xs ++ ys)[j]? = some z → (keys (n : Int) (xs ++ ys))[j]? = some (In.keyI (n : Int) z.data.toList)) := hid (fun j z hz => by unfold keys; rw [List.getElem?_map, hz]; rfl)
  have HAL : Hid (∀ i k x y p q, (keys (n : Int) (xs ++ ys))[i]? = some x → (keys (n : Int) (xs ++ ys))[k]? = some y → (In.nums [] (keys (n : Int) (xs ++ ys)))[i]? = some p → (In.nums [] (keys (n : Int) (xs ++ ys)))[k]? = some q → decide (p = q) = decide (x = y)) := hid (fun i k x y p q h1 h2 h3 h4 => In.nums_alike h1 h2 h3 h4)
  have HNX : Hid (∀ i x p, (keys (n : Int) (xs ++ ys))[i]? = some x → (In.nums [] (keys (n : Int) (xs ++ ys)))[i]? = some p → p ≤ (In.met [] ((keys (n : Int) (xs ++ ys)).take i)).length ∧ (In.met [] ((keys (n : Int) (xs ++ ys)).take (i + 1))).length = if p = (In.met [] ((keys (n : Int) (xs ++ ys)).take i)).length then (In.met [] ((keys (n : Int) (xs ++ ys)).take i)).length + 1 else (In.met [] ((keys (n : Int) (xs ++ ys)).take i)).length) := hid (fun i x p h1 h2 => In.nums_next h1 h2)
  have HML : Hid (∀ i, (In.met [] ((keys (n : Int) (xs ++ ys)).take i)).length ≤ i) := hid (fun i => by
    have := In.met_len [] ((keys (n : Int) (xs ++ ys)).take i)
    rw [List.length_take, List.length_nil] at this
    omega)
  clear HSX HSY HO6 HO7 HA1 HA2 HR HQ
  obtain ⟨a4, c4, rfl⟩ := HRd.out.shape
  obtain ⟨a6, c6, rfl⟩ := HRi.out.shape
  rw [HIl.out] at HRi ⊢
  generalize In.nums [] (keys (n : Int) (xs ++ ys)) = I at HRi HIl HAL HNX
  generalize hMM : (fun i => (In.met [] ((keys (n : Int) (xs ++ ys)).take i)).length) = MM
  have hM' : ∀ i, (In.met [] ((keys (n : Int) (xs ++ ys)).take i)).length = MM i := fun i => by rw [← hMM]
  have HM0 : Hid (MM 0 = 0) := hid (by rw [← hM']; rfl)
  simp only [hM'] at HNX HML
  clear hMM hM'
  generalize keys (n : Int) (xs ++ ys) = KK at HKK HAL HNX
  generalize xs ++ ys = zs at hN HZ HRd HRi HIl HKK ⊢
  clear hbits
  go_wp2
  go_loopw [12, 13] (fun t12 t13 wr => ∃ i : Nat, i ≤ zs.length ∧ i ≤ 60 ∧ t13 = .int .i64 i ∧ t12 = .int .i64 (MM i) ∧ Below w5.heap.size w5 wr) (fun _ t13 _ => zs.length - (intOf t13).toNat)
  case atStart => exact ⟨0, Nat.zero_le _, Nat.zero_le _, rfl, by rw [HM0.out]; rfl, Below.refl _ _⟩
  case round =>
    obtain ⟨i, hi, hi6, rfl, rfl, hbr⟩ := hrel
    by_cases hlt : i < zs.length ∧ i < 60
    · obtain ⟨hlt, hlt6⟩ := hlt
      obtain ⟨x, hx⟩ : ∃ x, zs[i]? = some x := ⟨_, List.getElem?_eq_getElem hlt⟩
      obtain ⟨p, hp⟩ : ∃ p, I[i]? = some p := ⟨_, List.getElem?_eq_getElem (by rw [HIl.out]; exact hlt)⟩
      have HKx := hid (HKK.out i x hx)
      have HPi := hid hp
      obtain ⟨hp1, hp2⟩ := HNX.out i _ p HKx.out hp
      have hsx := HZ.out x (List.mem_of_getElem? hx)
      have hml := HML.out i
      obtain ⟨g4, o4, rfl, hg4, HST⟩ : ∃ g o, a4 = some ⟨g, o, none⟩ ∧ g < w5.heap.size ∧ Hid (∀ (j : Nat) z, zs[j]? = some z → w5.cell? ⟨g, o + j, none⟩ = some (.string z)) := by
        rcases HRd.out with ⟨rfl, _⟩ | ⟨b, o, c', hv, _, hb, hX⟩
        · simp at hlt
        · injection hv with h1 _ _
          exact ⟨b, o, h1, hb, hid hX⟩
      obtain ⟨g6, o6, rfl, hg6, HIT⟩ : ∃ g o, a6 = some ⟨g, o, none⟩ ∧ g < w5.heap.size ∧ Hid (∀ (j m : Nat), I[j]? = some m → w5.cell? ⟨g, o + j, none⟩ = some (.int .i64 m)) := by
        rcases HRi.out with ⟨rfl, _⟩ | ⟨b, o, c', hv, _, hb, hX⟩
        · simp at hp
        · injection hv with h1 _ _
          exact ⟨b, o, h1, hb, hid hX⟩
      have cx := HST.out i x hx
      have cp := HIT.out i p hp
      have s0 := (hbr.cell (p := ⟨g6, o6 + i, none⟩) hg6).trans cp
      have d1 : decide ((MM i : Int) < (p : Int)) = false := decide_eq_false (by omega)
      have HP2 := hid hp2
      clear hx hp hp2
      go_upto_if 82 with fail
      go_cut [12] (fun t12 wc => t12 = .int .i64 (MM (i + 1)) ∧ Below w5.heap.size w5 wc)
      case first =>
        by_cases hpn : p = MM i
        · have d2 : ((p : Int) == (MM i : Int)) = true := by rw [hpn]; exact beq_self_eq_true _
          have HP3 : Hid (MM (i + 1) = MM i + 1) := hid (by rw [HP2.out, if_pos hpn])
          clear hpn
          go_wp2
          go_meet
          exact ⟨by rw [HP3.out]; go_num, hbr⟩
        · have d2 : ((p : Int) == (MM i : Int)) = false := ine (by omega)
          have HP3 : Hid (MM (i + 1) = MM i) := hid (by rw [HP2.out, if_neg hpn])
          clear hpn
          go_wp2
          go_meet
          exact ⟨by rw [HP3.out], hbr⟩
      case rest =>
        obtain ⟨rfl, hbc⟩ := hcut
        go_wp2
        go_loopw [14] (fun t14 ws => ∃ k : Nat, k ≤ i ∧ t14 = .int .i64 k ∧ Below w5.heap.size w5 ws) (fun t14 _ => i - (intOf t14).toNat)
        case atStart => exact ⟨0, Nat.zero_le _, rfl, hbc⟩
        case round =>
          obtain ⟨k, hk, rfl, hbk⟩ := hrel
          by_cases hki : k < i
          · obtain ⟨y, hy⟩ : ∃ y, zs[k]? = some y := ⟨_, List.getElem?_eq_getElem (by omega)⟩
            have hKy := HKK.out k y hy
            obtain ⟨q, hq⟩ : ∃ q, I[k]? = some q := ⟨_, List.getElem?_eq_getElem (by rw [HIl.out]; omega)⟩
            have hsy := HZ.out y (List.mem_of_getElem? hy)
            have cy := HST.out k y hy
            have s1 := (hbk.cell (p := ⟨g4, o4 + i, none⟩) hg4).trans cx
            have s2 := (hbk.cell (p := ⟨g4, o4 + k, none⟩) hg4).trans cy
            have cq := HIT.out k q hq
            have hpq : ((p : Int) == (q : Int)) = decide (In.keyI (n : Int) x.data.toList = In.keyI (n : Int) y.data.toList) := by
              rw [← HAL.out i k _ _ p q HKx.out hKy HPi.out hq, Bool.eq_iff_iff, beq_iff_eq, decide_eq_true_eq]
              omega
            have hkz : k < zs.length := by omega
            have HKEY := hid (fun (A B : ByteArray) (h1 : A.data.toList = In.keyI (n : Int) x.data.toList) (h2 : B.data.toList = In.keyI (n : Int) y.data.toList) => beq_T h1 h2)
            generalize decide (In.keyI (n : Int) x.data.toList = In.keyI (n : Int) y.data.toList) = b at hpq HKEY
            have HPQ := hid hpq
            clear hKy hq hy hpq
            go_upto_region 22 with fail
            go_cut [15] (fun t15 wc => t15 = .bool (x.toList == y.toList) ∧ Below w5.heap.size w5 wc)
            case first =>
              go_quiet (fail)
              go_wp2
              go_meet
              exact ⟨rfl, (by repeat (first | assumption | apply below_drewN | apply Below.drew))⟩
            case rest =>
              obtain ⟨rfl, hbd⟩ := hcut
              clear s1 s2
              go_upto_if 100 with fail
              go_cut [15] (fun t15 wc => t15 = .bool b ∧ Below w5.heap.size w5 wc)
              case first =>
                by_cases hn0 : n = 0
                · have hnz : ((n : Int) != 0) = false := by rw [hn0]; rfl
                  have HK0 : Hid ((x.toList == y.toList) = b) := hid (HKEY.out x y (by rw [hn0]; exact (In.key_zero _).symm) (by rw [hn0]; exact (In.key_zero _).symm))
                  clear hn0
                  go_wp2
                  go_meet
                  exact ⟨by rw [HK0.out], hbd⟩
                · have hnz : ((n : Int) != 0) = true := by rw [bne_iff_ne]; omega
                  have s1 := (hbd.cell (p := ⟨g4, o4 + i, none⟩) hg4).trans cx
                  have s2 := (hbd.cell (p := ⟨g4, o4 + k, none⟩) hg4).trans cy
                  go_wp2
                  refine wp_region_class (C := fun w' => Below w5.heap.size w5 w') (by kernel_rfl) (by kernel_rfl) ⟨hbd.os, hbd.tape, hbd.output, hbd.size, hbd.block⟩ ?_
                  refine wpQuiet_step (fun K hK => ?_)
                  go_simp
                  refine ⟨_, fun _ _ => rfl, hK _ ?_⟩
                  clear hK K
                  refine wpQuiet_step (fun K hK => ?_)
                  go_simp
                  refine ⟨_, fun _ _ => rfl, hK _ ?_⟩
                  clear hK K
                  refine wpQuiet_step (fun K hK => ?_)
                  go_simp
                  refine ⟨_, fun _ _ => rfl, hK _ ?_⟩
                  clear hK K
                  refine wpQuiet_step (fun K hK => ?_)
                  rw [if_pos (by rfl)]
                  refine ⟨.string x, fun w' hw' => ?_, hK _ ?_⟩
                  · have c1 := (hw'.cell (p := ⟨g4, o4 + i, none⟩) hg4).trans cx
                    go_simp
                  clear hK K
                  refine wpQuiet_step (fun K hK => ?_)
                  go_simp
                  refine ⟨_, fun _ _ => rfl, hK _ ?_⟩
                  clear hK K
                  refine wpQuiet_step (fun K hK => ?_)
                  rw [if_pos (by rfl)]
                  refine ⟨.string ⟨(In.keyI (n : Int) x.data.toList).toArray⟩, fun w' hw' => ?_, hK _ ?_⟩
                  · go_simp
                    refine (key_any x n w' (by omega)).mono ?_
                    rintro r wn ⟨rfl, hbn⟩
                    exact ⟨rfl, two_b hbn (Nat.le_refl _) hw'⟩
                  clear hK K
                  refine wpQuiet_step (fun K hK => ?_)
                  go_simp
                  refine ⟨_, fun _ _ => rfl, hK _ ?_⟩
                  clear hK K
                  refine wpQuiet_step (fun K hK => ?_)
                  go_simp
                  refine ⟨_, fun _ _ => rfl, hK _ ?_⟩
                  clear hK K
                  refine wpQuiet_step (fun K hK => ?_)
                  go_simp
                  refine ⟨_, fun _ _ => rfl, hK _ ?_⟩
                  clear hK K
                  refine wpQuiet_step (fun K hK => ?_)
                  rw [if_pos (by rfl)]
                  refine ⟨.string y, fun w' hw' => ?_, hK _ ?_⟩
                  · have c1 := (hw'.cell (p := ⟨g4, o4 + k, none⟩) hg4).trans cy
                    go_simp
                  clear hK K
                  refine wpQuiet_step (fun K hK => ?_)
                  go_simp
                  refine ⟨_, fun _ _ => rfl, hK _ ?_⟩
                  clear hK K
                  refine wpQuiet_step (fun K hK => ?_)
                  rw [if_pos (by rfl)]
                  refine ⟨.string ⟨(In.keyI (n : Int) y.data.toList).toArray⟩, fun w' hw' => ?_, hK _ ?_⟩
                  · go_simp
                    refine (key_any y n w' (by omega)).mono ?_
                    rintro r wn ⟨rfl, hbn⟩
                    exact ⟨rfl, two_b hbn (Nat.le_refl _) hw'⟩
                  clear hK K
                  refine wpQuiet_step (fun K hK => ?_)
                  go_simp
                  refine ⟨_, fun _ _ => rfl, hK _ ?_⟩
                  clear hK K
                  refine wpQuiet_step (fun K hK => ?_)
                  go_simp
                  refine ⟨_, fun _ _ => rfl, hK _ ?_⟩
                  clear hK K
                  refine wpQuiet_nil ?_
                  intro w' hw'
                  have HAL2 : Hid ((In.keyI (n : Int) x.data.toList == In.keyI (n : Int) y.data.toList) = b) := hid (by
                    have h := HKEY.out ⟨(In.keyI (n : Int) x.data.toList).toArray⟩ ⟨(In.keyI (n : Int) y.data.toList).toArray⟩ (data_mk _) (data_mk _)
                    rwa [ByteArray.toList_eq, ByteArray.toList_eq, data_mk, data_mk] at h)
                  go_wp2
                  go_meet
                  exact ⟨by rw [HAL2.out], hw'⟩
              case rest =>
                obtain ⟨rfl, hbe⟩ := hcut
                have s3 := (hbe.cell (p := ⟨g6, o6 + i, none⟩) hg6).trans cp
                have s4 := (hbe.cell (p := ⟨g6, o6 + k, none⟩) hg6).trans cq
                have hpq := HPQ.out
                go_wp2
                go_quiet (fail)
                go_wp2
                go_roundw
                case rel => exact ⟨k + 1, by omega, by go_num, (by repeat (first | assumption | apply below_drewN | apply Below.drew))⟩
                case measure => simp [intOf]; omega
          · have dk : decide ((k : Int) < (i : Int)) = false := decide_eq_false (by omega)
            go_wp2
            go_roundw
            case rel => exact ⟨i + 1, by omega, by omega, by go_num, rfl, hbk⟩
            case measure => simp [intOf]; omega
    · by_cases h1 : i < zs.length
      · have h2 : ¬ i < 60 := by omega
        clear hlt
        go_wp2_with (go_at_call 11; refine (sure_any _).mono ?_; rintro r wn ⟨rfl, hbn⟩)
        go_ret
        exact ⟨rfl, two_b hbn (Nat.le_refl _) (hB5.trans (hbr.mono hB5.size))⟩
      · clear hlt
        go_wp2_with (go_at_call 11; refine (sure_any _).mono ?_; rintro r wn ⟨rfl, hbn⟩)
        go_ret
        exact ⟨rfl, two_b hbn (Nat.le_refl _) (hB5.trans (hbr.mono hB5.size))⟩

theorem own : ownKnob Try.prog.godebug = none := by kernel_rfl

set_option maxRecDepth 100000 in
theorem contract (H : Type) (enc : TypeId × Value → H) (W : World) (base : Nat) (args : Array Value) (ds gs : List (DataW H)) (before : List MemPlace)
    (hval : ∀ (j : Nat) t v, Try.f4.params[j]? = some t → args[j]? = some v → Value.okWide Try.prog W .any base t v)
    (hW : DataW.Whole enc Try.prog Try.f4.params.toList Rows.internTellsSpec.vars false W args.toList ds gs before)
    (hk : Rows.uptoSmall H (ds ++ gs) = true)
    : Calls Try.prog 4 args W fun e W' => ∃ v, e = .returned v ∧ Rows.internTellsSpec.post enc Try.prog Try.f4 false true false false W args v W' := by
  have hW' := hW
  obtain ⟨p, q, hA0, hV, rfl, hfz, hnd⟩ := hW
  have hA : DataW.TrodAll enc Try.prog W 0 (fun _ => true) true Try.f4.params.toList args.toList ds p := hA0
  rw [Try.params4] at hA hval
  obtain ⟨v0, vs0, d0, ds0, p0, q0, hargs0, rfl, rfl, h0, r0⟩ := trodAll_cons hA
  obtain ⟨v1, vs1, d1, ds1, p1, q1, hargs1, rfl, rfl, h1, r1⟩ := trodAll_cons r0
  obtain ⟨v2, vs2, d2, ds2, p2, q2, hargs2, rfl, rfl, h2, r2⟩ := trodAll_cons r1
  obtain ⟨rfl, rfl, rfl⟩ := trodAll_nil r2
  obtain rfl : args = #[v0, v1, v2] := by cases args; simp_all
  obtain ⟨rfl, rfl⟩ := trodVars_none hV
  obtain ⟨x0, hr0, hsz0, hd0, hsh0⟩ := open_rd (okWide_slice Try.underlying26 (hval 0 26 v0 rfl rfl)) h0
  obtain ⟨x1, hr1, hsz1, hd1, hsh1⟩ := open_rd (okWide_slice Try.underlying26 (hval 1 26 v1 rfl rfl)) h1
  obtain ⟨x2, rfl, rfl, rfl, hmax2⟩ := open_int Try.underlying3 (hval 2 3 v2 rfl rfl) h2
  clear hA0
  simp only [List.append_nil] at hW' hk
  have hk' : Rows.uptoBulkAll (H := H) [d0, d1, DataW.lit (.int .i64 x2)] ≤ 1048576 := of_decide_eq_true hk
  simp only [Rows.uptoBulkAll, Rows.uptoBulk] at hk'
  have hbk0 := rd_bulk hd0
  have hbk1 := rd_bulk hd1
  have hlt0 : ∀ x ∈ p0, x.block < W.heap.size := fun x hx => by simpa using hW'.lt x (by simp [hx])
  have hlt1 : ∀ x ∈ p1, x.block < W.heap.size := fun x hx => by simpa using hW'.lt x (by simp [hx])
  refine (walk v0 x0 v1 x1 x2 W hr0 (by omega) hsh0 hr1 (by omega) hsh1).mono fun e W' ⟨he, hb⟩ => ?_
  subst he
  exact ⟨_, rfl, _, _, _, [], (p0 ++ (p1 ++ ([] ++ []))), [], hW', trodAll_cons_mk (shut_bool Try.underlying4 _) trodAll_mk0, trodAll_cons_mk (Below.trod laidOut (by kernel_rfl) (of_decide_eq_true (by kernel_rfl)) h0 hb hlt0) (trodAll_cons_mk (Below.trod laidOut (by kernel_rfl) (of_decide_eq_true (by kernel_rfl)) h1 hb hlt1) (trodAll_cons_mk (shut_int Try.underlying3 hmax2) trodAll_mk0)), rfl, hb.frame _, fun h => by cases h⟩

set_option maxRecDepth 100000 in
theorem lifted (os : Os) (started : os.Started) (H : Type) (enc : TypeId × Value → H) (F : Stop.Interp) :
    ReturnsInHanded {} Try.checked os 4 .any ((Rows.OpenSpec.upto Rows.internTellsSpec).preRow enc Try.prog Try.f4 Rows.internTellsUptoRow.domain false Rows.internTellsUptoRow.laid) (((Rows.OpenSpec.upto Rows.internTellsSpec).at F).post enc Try.prog Try.f4 false true false false) := by
  refine returnsInHanded_of_row (C := Try.checked) (s := Rows.OpenSpec.upto Rows.internTellsSpec) own started (by kernel_rfl) Try.func4
    (witness_row_at (enc := enc) (C := Try.checked) false
      (World.holding Try.prog os ⟨#[], #[], []⟩)
      #[.slice none 0 0, .slice none 0 0, .int .i64 0] rfl (by kernel_rfl) (by kernel_rfl) (by kernel_rfl)
      (OpenSpec.preRow_of_cond 8 (x := ([.nil, .nil, .lit (.int .i64 0)], [], [])) (by kernel_rfl) (by kernel_rfl) (fun k hk => by cases hk; kernel_rfl) (by kernel_rfl) (laidMetH_of_parts (laidMet_nil _ _) (by kernel_rfl)))) ?_
  intro W base args ds gs before hval hW _ hcond hsz hL _ _
  exact contract H enc W base args ds gs before hval hW (hcond _ rfl)

theorem proved : Rows.InternTellsUptoSaid :=
  OpenClaim.holds_of_cond 4 Try.f4 rfl rfl rfl rfl rfl rfl rfl ⟨rfl, rfl, rfl, rfl, rfl⟩ rfl rfl rfl rfl rfl (by kernel_rfl) Try.func4 (by kernel_rfl)
    (of_decide_eq_true (by kernel_rfl)) (by unfold Func.isWrapper; first | (rw [if_pos (by decide +kernel)]; kernel_rfl) | (rw [if_neg (by decide +kernel)]; exact ⟨rfl, rfl⟩))
    (fun os started H enc _ F => by rw [OpenClaim.pre_eq_preRow]; exact lifted os started H enc F)

end Go.Proofs.Ytjjhidojialjoaa.internTells
