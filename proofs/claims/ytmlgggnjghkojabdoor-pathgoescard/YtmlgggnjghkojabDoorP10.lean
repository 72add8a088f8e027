/-
  The walks of common and of slices.Repeat at the one piece that leads up.
-/
import Derived.Test.YtmlgggnjghkojabDoorP9
import Derived.Laws.CopyOwn
import Derived.Deep.RegionLaw
import Derived.Laws.MakeOwn
namespace Go.Proofs.YtmlgggnjghkojabDoor
open Go.RowKit

theorem common_succ {a b : List (List UInt8)} {k : Nat} {x : List UInt8} (ha : a[k]? = some x) (hb : b[k]? = some x) (h : Pp.common a b = k + Pp.common (a.drop k) (b.drop k)) : Pp.common a b = (k + 1) + Pp.common (a.drop (k + 1)) (b.drop (k + 1)) := by
  have hla : k < a.length := by
    rcases Nat.lt_or_ge k a.length with q | q
    · exact q
    · rw [List.getElem?_eq_none q] at ha; cases ha
  have hlb : k < b.length := by
    rcases Nat.lt_or_ge k b.length with q | q
    · exact q
    · rw [List.getElem?_eq_none q] at hb; cases hb
  rw [List.getElem?_eq_getElem hla] at ha
  rw [List.getElem?_eq_getElem hlb] at hb
  rw [h, List.drop_eq_getElem_cons hla, List.drop_eq_getElem_cons hlb, Option.some.inj ha, Option.some.inj hb, Pp.common, if_pos rfl]
  omega
theorem common_stop {a b : List (List UInt8)} {k : Nat} {x y : List UInt8} (ha : a[k]? = some x) (hb : b[k]? = some y) (hne : x ≠ y) (h : Pp.common a b = k + Pp.common (a.drop k) (b.drop k)) : Pp.common a b = k := by
  have hla : k < a.length := by
    rcases Nat.lt_or_ge k a.length with q | q
    · exact q
    · rw [List.getElem?_eq_none q] at ha; cases ha
  have hlb : k < b.length := by
    rcases Nat.lt_or_ge k b.length with q | q
    · exact q
    · rw [List.getElem?_eq_none q] at hb; cases hb
  rw [List.getElem?_eq_getElem hla] at ha
  rw [List.getElem?_eq_getElem hlb] at hb
  rw [h, List.drop_eq_getElem_cons hla, List.drop_eq_getElem_cons hlb, Option.some.inj ha, Option.some.inj hb, Pp.common, if_neg hne]
  rfl
theorem common_end {a b : List (List UInt8)} {k : Nat} (hk : a.length ≤ k ∨ b.length ≤ k) (h : Pp.common a b = k + Pp.common (a.drop k) (b.drop k)) : Pp.common a b = k := by
  rw [h]
  rcases hk with e | e
  · rw [List.drop_of_length_le e]; cases b.drop k <;> rfl
  · rw [List.drop_of_length_le e]; cases a.drop k <;> rfl

set_option maxHeartbeats 1000000 in
theorem common_none (a b : Option Addr) (n m c d : Nat) (w : World) (h : n = 0 ∨ m = 0) :
    Calls Tryd.prog 13 #[.slice a n c, .slice b m d] w fun e w' => e = .returned (.int .i64 0) ∧ ∃ q, w' = w.drewN q := by
  by_cases hn : n = 0
  · subst hn
    clear h
    go_enter Tryd.func13, Tryd.ntmps13
    go_wp2
    refine wp_loop_rounds 1 ?_
    rw [rounds_succ]
    go_wp2
    go_quiet (fail)
    go_wp2
    go_ret
    exact ⟨rfl, _, rfl⟩
  · obtain rfl : m = 0 := by omega
    have d1 : decide ((0 : Int) < (n : Int)) = true := decide_eq_true (by omega)
    have d2 : decide (0 < n) = true := decide_eq_true (by omega)
    clear h
    go_enter Tryd.func13, Tryd.ntmps13
    go_wp2
    refine wp_loop_rounds 1 ?_
    rw [rounds_succ]
    go_wp2
    go_quiet (fail)
    go_wp2
    go_ret
    exact ⟨rfl, _, rfl⟩

set_option maxHeartbeats 2000000 in
theorem common_some (b o c b' o' c' : Nat) (xs ys : List ByteArray) (w : World) (hn : xs.length ≤ 140737488355328)
    (hX : ∀ (j : Nat) x, xs[j]? = some x → w.cell? ⟨b, o + j, none⟩ = some (.string x)) (hY : ∀ (j : Nat) x, ys[j]? = some x → w.cell? ⟨b', o' + j, none⟩ = some (.string x)) :
    Calls Tryd.prog 13 #[.slice (some ⟨b, o, none⟩) xs.length c, .slice (some ⟨b', o', none⟩) ys.length c'] w fun e w' => e = .returned (.int .i64 (Pp.common (DL xs) (DL ys))) ∧ ∃ m, w' = w.drewN m := by
  have HX := hid hX
  have HY := hid hY
  clear hX hY
  go_enter Tryd.func13, Tryd.ntmps13
  go_wp2
  go_loopw [5] (fun i wr => ∃ k : Nat, k ≤ xs.length ∧ i = .int .i64 k ∧ Hid (Pp.common (DL xs) (DL ys) = k + Pp.common ((DL xs).drop k) ((DL ys).drop k)) ∧ ∃ m, wr = w.drewN m) (fun i _ => xs.length - (intOf i).toNat)
  case atStart => exact ⟨0, Nat.zero_le _, rfl, hid (by simp), 0, rfl⟩
  case round =>
    obtain ⟨k, hk, rfl, HT, m, rfl⟩ := hrel
    by_cases hlx : k < xs.length
    · have t1 : decide (k < xs.length) = true := decide_eq_true hlx
      by_cases hly : k < ys.length
      · have t2 : decide (k < ys.length) = true := decide_eq_true hly
        obtain ⟨x, hx⟩ : ∃ x, xs[k]? = some x := ⟨_, List.getElem?_eq_getElem hlx⟩
        obtain ⟨y, hy⟩ : ∃ y, ys[k]? = some y := ⟨_, List.getElem?_eq_getElem hly⟩
        have cx := HX.out k x hx
        have cy := HY.out k y hy
        have dx : (DL xs)[k]? = some x.data.toList := by unfold DL; rw [List.getElem?_map, hx]; rfl
        have dy : (DL ys)[k]? = some y.data.toList := by unfold DL; rw [List.getElem?_map, hy]; rfl
        have hbe := bytes_eq x y
        by_cases he : x.data.toList = y.data.toList
        · have HT2 := hid (common_succ dx (by rw [dy, he]) HT.out)
          rw [decide_eq_true he] at hbe
          clear hx hy dx dy he
          go_wp2
          go_quiet (fail)
          go_wp2
          go_roundw
          case rel => exact ⟨k + 1, by omega, by go_num, HT2, _, rfl⟩
          case measure => simp [intOf]; omega
        · have HF := hid (common_stop dx dy he HT.out)
          rw [decide_eq_false he] at hbe
          clear hx hy dx dy he
          go_wp2
          go_quiet (fail)
          go_wp2
          go_ret
          exact ⟨by rw [HF.out]; rfl, _, World.drewN_drewN _ _ _⟩
      · have t2 : decide (k < ys.length) = false := decide_eq_false hly
        have HF := hid (common_end (.inr (by rw [DL_length]; omega)) HT.out)
        go_wp2
        go_quiet (fail)
        go_wp2
        go_ret
        exact ⟨by rw [HF.out]; rfl, _, World.drewN_drewN _ _ _⟩
    · have t1 : decide (k < xs.length) = false := decide_eq_false hlx
      have HF := hid (common_end (.inl (by rw [DL_length]; omega)) HT.out)
      go_wp2
      go_quiet (fail)
      go_wp2
      go_ret
      exact ⟨by rw [HF.out]; rfl, _, World.drewN_drewN _ _ _⟩

theorem common_rd {w : World} {v u : Value} {xs ys : List ByteArray} (hx : Rd w v xs) (hy : Rd w u ys) (hn : xs.length ≤ 140737488355328) :
    Calls Tryd.prog 13 #[v, u] w fun e w' => e = .returned (.int .i64 (Pp.common (DL xs) (DL ys))) ∧ Below w.heap.size w w' := by
  have key : ∀ {e : Ending} {w' : World} {n : Int}, (e = .returned (.int .i64 n) ∧ ∃ q, w' = w.drewN q) → e = .returned (.int .i64 n) ∧ Below w.heap.size w w' := fun ⟨he, q, hw⟩ => ⟨he, hw ▸ below_drewN w q⟩
  obtain ⟨a', c', hu⟩ := hy.shape
  rcases hx with ⟨rfl, a, c, rfl⟩ | ⟨b, o, c, rfl, hc, hb, hX⟩
  · subst hu
    refine (common_none a a' 0 _ c c' w (.inl rfl)).mono fun _ _ h => ?_
    have e : Pp.common (DL []) (DL ys) = 0 := by show Pp.common [] _ = 0; cases DL ys <;> rfl
    rw [e]; exact key h
  · rcases hy with ⟨rfl, a', c', rfl⟩ | ⟨b', o', c', rfl, hc', hb', hY⟩
    · refine (common_none _ a' _ 0 c c' w (.inr rfl)).mono fun _ _ h => ?_
      have e : Pp.common (DL xs) (DL []) = 0 := by show Pp.common _ [] = 0; cases DL xs <;> rfl
      rw [e]; exact key h
    · exact (common_some b o c b' o' c' xs ys w hn hX hY).mono fun _ _ h => key h
end Go.Proofs.YtmlgggnjghkojabDoor
