/-
  The walk of the document's Ids (made by wip/gen9.py).
-/
import Derived.Test.YtjjhidojialjoaaDoorN8
import Derived.Deep.Cut
namespace Go.Proofs.YtjjhidojialjoaaDoor
open Go.RowKit

/-- two rows of the call's own that share no block -/
def Apart (u v : Value) : Prop := ∀ k, u.ownBlock = some k → v.ownBlock ≠ some k
theorem Apart.symm {u v : Value} (h : Apart u v) : Apart v u := fun k h1 h2 => h k h2 h1
theorem apart_none (v : Value) : Apart (.slice none 0 0) v := fun k h => by cases h
theorem kept_row {w w' : World} {base n size : Nat} {e : TypeId} {v u : Value} {xs : List Value} (h : w.ownsRow base e size u n xs) (hg : w.grownBy w' v.ownBlock) (ha : Apart v u) : w'.ownsRow base e size u n xs :=
  World.ownsRow.kept h hg (by
    cases hu : u.ownBlock with
    | none => exact .inl rfl
    | some k => exact .inr fun e => ha k e.symm hu)
theorem apart_new {w : World} {base n size : Nat} {e : TypeId} {v v' u : Value} {xs : List Value} (h : w.ownsRow base e size u n xs) (ha : Apart v u) (hl : ∀ k, v'.ownBlock = some k → v.ownBlock = some k ∨ w.heap.size ≤ k) : Apart v' u := by
  intro k h1 h2
  rcases hl k h1 with h3 | h3
  · exact ha k h3 h2
  · have := own_lt h k h2
    omega
theorem own_set {w : World} {base n g k : Nat} {e : TypeId} {size : Nat} {v u : Value} {xs : List Value} (h : w.ownsRow base e size v n xs) (hg : g < base) : (w.setCell ⟨g, k, none⟩ u).ownsRow base e size v n xs := by
  refine ⟨h.1, ?_⟩
  rcases h.2 with h | ⟨b, cap, cur, hv, hb, hh, r⟩
  · exact .inl h
  · exact .inr ⟨b, cap, cur, hv, hb, (Below.heap_setCell _ _ _ _ (by show b ≠ g; omega)).trans hh, r⟩
/-- what an append does to the world, where its row lies -/
def Grew (w w' : World) (v v' : Value) : Prop := w.grownBy w' v.ownBlock ∧ (∀ k, v'.ownBlock = some k → v.ownBlock = some k ∨ w.heap.size ≤ k) ∧ ∃ a1 n1 c1, v' = .slice a1 n1 c1
theorem wpList_append_key {w : World} {ops : Array Oper} {rest : List Oper} {o : Oper} {a : Act} {Q : Exit → Act → World → Prop} (hgd : o.guard = none) (s x : Operand)
    (ho : o.op = .call { callee := .builtin .append, args := #[s, x], argTypes := #[22, 22] }) (B : Nat) (v : Value) (l : List (List UInt8)) (hs : a.eval s = v) (hown : OwnS w B v l)
    (ad : Addr) (c : Nat) (k : List UInt8) (hx : a.eval x = .slice (some ad) 1 c) (hy : w.cell? (ad.add 0) = some (.string ⟨k.toArray⟩)) (hfit : (l.length + 1) * 16 ≤ 140737488355328) (hB : B ≤ w.heap.size)
    (h : ∀ v' w', OwnS w' B v' (l ++ [k]) → Grew w w' v v' → wpList Tryd.prog ops Q rest (a.put o.dst v') w') : wpList Tryd.prog ops Q (o :: rest) a w :=
  wpList_append_str hgd s x ho B v l hs hown ad c ⟨k.toArray⟩ hx hy hfit hB fun v' w' h1 h2 h3 => h v' w' (by rw [data_mk] at h1; exact h1) ⟨h2, h3, by obtain ⟨a1, c1, e⟩ := h1.shape; exact ⟨a1, _, c1, e⟩⟩
/-- append of one number, at a plain region -/
theorem wpList_append_int {w : World} {ops : Array Oper} {rest : List Oper} {o : Oper} {a : Act} {Q : Exit → Act → World → Prop} (hgd : o.guard = none) (s x : Operand)
    (ho : o.op = .call { callee := .builtin .append, args := #[s, x], argTypes := #[23, 23] }) (B : Nat) (v : Value) (l : List Nat) (hs : a.eval s = v) (hown : OwnI w B v l)
    (ad : Addr) (cp n : Nat) (hx : a.eval x = .slice (some ad) 1 cp) (hy : w.cell? (ad.add 0) = some (.int .i64 n)) (hfit : l.length ≤ 1000000000) (hB : B ≤ w.heap.size)
    (h : ∀ v' w', OwnI w' B v' (l ++ [n]) → Grew w w' v v' → wpList Tryd.prog ops Q rest (a.put o.dst v') w') : wpList Tryd.prog ops Q (o :: rest) a w := by
  obtain ⟨i0, hi, hz0, hz1, hz2⟩ := info_parts Tryd.infoInt
  refine wpList_append_lies _ hgd s x 23 ho B 3 i0 (.int .i64 0) 1 8 Tryd.underlying23 hi hz0 hz1 hz2 rfl (by decide) v l.length (intC l) hs hown ad 1 cp [.int .i64 n] hx rfl ?_ ?_ (by decide) ?_ ?_ hB w.heap.size rfl ?_
  · intro j u hj
    match j, hj with
    | 0, hj => simp at hj; subst hj; exact hy
  · intro u hu; simp at hu; subst hu; rfl
  · unfold maxLen; omega
  · omega
  · intro g cap w' h2 h3 h4 _
    refine h _ w' ?_ ⟨h3, ?_, _, _, _, rfl⟩
    · unfold OwnI
      rw [List.length_append, show intC (l ++ [n]) = intC l ++ [.int .i64 n] by simp [intC]]
      exact h2
    · intro k hk
      cases hk
      rcases h4 with h4 | h4
      · exact .inl h4
      · exact .inr (Nat.le_of_eq h4.symm)

/-- what the document's Ids holds while it works: the keys, the numbers of both sides -/
def StI (w : World) (g : Nat) (v9 vA vB : Value) (ks : List (List UInt8)) (lA lB : List Nat) : Prop :=
  w.heap[g]? = some (.cells #[vA, vB] 39 (0, 0)) ∧ OwnS w (g + 1) v9 ks ∧ OwnI w (g + 1) vA lA ∧ OwnI w (g + 1) vB lB ∧ Apart v9 vA ∧ Apart v9 vB ∧ Apart vA vB
theorem StI.later {w w' : World} {g : Nat} {v9 vA vB : Value} {ks : List (List UInt8)} {lA lB : List Nat} (h : StI w g v9 vA vB ks lA lB) (hb : Below w.heap.size w w') : StI w' g v9 vA vB ks lA lB := by
  obtain ⟨h1, h2, h3, h4, r⟩ := h
  exact ⟨(hb.block g (lt_of_heap h1)).trans h1, h2.stays hb, h3.stays hb, h4.stays hb, r⟩
theorem StI.cellA {w : World} {g : Nat} {v9 vA vB : Value} {ks : List (List UInt8)} {lA lB : List Nat} (h : StI w g v9 vA vB ks lA lB) : w.cell? ⟨g, 0, none⟩ = some vA := by simp [World.cell?, h.1]
theorem StI.cellB {w : World} {g : Nat} {v9 vA vB : Value} {ks : List (List UInt8)} {lA lB : List Nat} (h : StI w g v9 vA vB ks lA lB) : w.cell? ⟨g, 1, none⟩ = some vB := by simp [World.cell?, h.1]
theorem StI.free {w : World} {g k : Nat} {v9 vA vB : Value} {ks : List (List UInt8)} {lA lB : List Nat} (h : StI w g v9 vA vB ks lA lB) : w.frozen? ⟨g, k, none⟩ = false := by simp [World.frozen?, h.1]
theorem far_heap {w w' : World} {g : Nat} {v : Value} {o : Obj} (h : w.heap[g]? = some o) (hg : w.grownBy w' v.ownBlock) (hv : ∀ k, v.ownBlock = some k → g + 1 ≤ k) : w'.heap[g]? = some o :=
  (hg.block g (lt_of_heap h) (fun e => by have := hv g e.symm; omega)).trans h
/-- a key more -/
theorem StI.key {w w' : World} {g : Nat} {v9 v' vA vB : Value} {ks ks' : List (List UInt8)} {lA lB : List Nat} (h : StI w g v9 vA vB ks lA lB) (hO : OwnS w' (g + 1) v' ks') (hg : w.grownBy w' v9.ownBlock) (hl : ∀ k, v'.ownBlock = some k → v9.ownBlock = some k ∨ w.heap.size ≤ k) : StI w' g v' vA vB ks' lA lB := by
  obtain ⟨h1, h2, h3, h4, a1, a2, a3⟩ := h
  exact ⟨far_heap h1 hg h2.ge, hO, kept_row h3 hg a1, kept_row h4 hg a2, apart_new h3 a1 hl, apart_new h4 a2 hl, a3⟩
/-- a number more, on the one side, on the other -/
theorem StI.numA {w w' : World} {g : Nat} {v9 v' vA vB : Value} {ks : List (List UInt8)} {lA lA' lB : List Nat} (h : StI w g v9 vA vB ks lA lB) (hO : OwnI w' (g + 1) v' lA') (hg : w.grownBy w' vA.ownBlock) (hl : ∀ k, v'.ownBlock = some k → vA.ownBlock = some k ∨ w.heap.size ≤ k) : StI (w'.setCell ⟨g, 0, none⟩ v') g v9 v' vB ks lA' lB := by
  obtain ⟨h1, h2, h3, h4, a1, a2, a3⟩ := h
  have hh := far_heap h1 hg (own_ge h3)
  exact ⟨heap_set_same _ _ _ _ _ _ hh, own_set (kept_row h2 hg a1.symm) (by omega), own_set hO (by omega), own_set (kept_row h4 hg a3) (by omega), (apart_new h2 a1.symm hl).symm, a2, apart_new h4 a3 hl⟩
theorem StI.numB {w w' : World} {g : Nat} {v9 v' vA vB : Value} {ks : List (List UInt8)} {lA lB lB' : List Nat} (h : StI w g v9 vA vB ks lA lB) (hO : OwnI w' (g + 1) v' lB') (hg : w.grownBy w' vB.ownBlock) (hl : ∀ k, v'.ownBlock = some k → vB.ownBlock = some k ∨ w.heap.size ≤ k) : StI (w'.setCell ⟨g, 1, none⟩ v') g v9 vA v' ks lA lB' := by
  obtain ⟨h1, h2, h3, h4, a1, a2, a3⟩ := h
  have hh := far_heap h1 hg (own_ge h4)
  exact ⟨heap_set_same _ _ _ _ _ _ hh, own_set (kept_row h2 hg a2.symm) (by omega), own_set (kept_row h3 hg a3.symm) (by omega), own_set hO (by omega), a1, (apart_new h2 a2.symm hl).symm, (apart_new h3 a3.symm hl).symm⟩
theorem set_below {w w' W : World} {g k : Nat} {u : Value} {row : Option Nat} (hb : Below g w W) (hg : W.grownBy w' row) (hW : g ≤ W.heap.size) (hr : ∀ k, row = some k → g ≤ k) : Below g w (w'.setCell ⟨g, k, none⟩ u) := (hb.grown hg hW hr).setCell (Nat.le_refl _) u
theorem nums_snoc (ks l : List (List UInt8)) (k : Nat) (x : List UInt8) (h : l[k]? = some x) : In.nums ks (l.take (k + 1)) = In.nums ks (l.take k) ++ [(In.met ks (l.take k)).idxOf x] := by
  rw [List.take_add_one, h, In.nums_append]; rfl
theorem idx_hit {ks : List (List UInt8)} {k : List UInt8} {j : Nat} (h1 : k ∉ ks.take j) (h2 : ks[j]? = some k) : ks.idxOf k = j ∧ k ∈ ks := by
  have hl : j < ks.length := by
    rcases Nat.lt_or_ge j ks.length with q | q
    · exact q
    · rw [List.getElem?_eq_none q] at h2; cases h2
  refine ⟨?_, List.mem_of_getElem? h2⟩
  have e : ks = ks.take j ++ k :: ks.drop (j + 1) := by
    rw [← List.getElem_eq_iff hl |>.2 h2, List.getElem_cons_drop, List.take_append_drop]
  rw [e, List.idxOf_append, if_neg h1]
  simp
  omega
theorem not_snoc {ks : List (List UInt8)} {k y : List UInt8} {j : Nat} (h1 : k ∉ ks.take j) (h2 : ks[j]? = some y) (hne : (y == k) = false) : k ∉ ks.take (j + 1) := by
  rw [List.take_add_one, h2]
  simp only [Option.toList_some, List.mem_append, List.mem_singleton, not_or]
  exact ⟨h1, fun e => by rw [e] at hne; simp at hne⟩


def KSat (e : Int) (xs ys : List ByteArray) : Nat → List (List UInt8)
  | 0 => []
  | 1 => In.met [] (keys e xs)
  | _ => In.met (In.met [] (keys e xs)) (keys e ys)
def LAat (e : Int) (xs : List ByteArray) : Nat → List Nat
  | 0 => []
  | _ => idsA e xs
def LBat (e : Int) (xs ys : List ByteArray) : Nat → List Nat
  | 0 => []
  | 1 => []
  | _ => idsB e xs ys
set_option maxHeartbeats 4000000 in
set_option maxRecDepth 100000 in
theorem refIds_in {v u : Value} {xs ys : List ByteArray} {e : Int} {w : World} (hr : Rd w v xs) (hq : Rd w u ys) (hsx : ∀ x ∈ xs, x.size ≤ 1048576) (hsy : ∀ x ∈ ys, x.size ≤ 1048576) (hn : xs.length + ys.length ≤ 2097152) (he : sumB e = true) :
    Calls Tryd.prog 5 #[v, u, .int .i64 e] w fun r w' => ∃ v1 v2, r = .returned (.tuple #[v1, v2, .int .i64 0]) ∧ OwnI w' w.heap.size v1 (idsA e xs) ∧ OwnI w' w.heap.size v2 (idsB e xs ys) ∧ Below w.heap.size w w' := by
  obtain ⟨a, c, rfl⟩ := hr.shape
  obtain ⟨a', c', rfl⟩ := hq.shape
  have he' : 0 ≤ e ∧ e ≤ 15 := by unfold sumB at he; simpa using he
  obtain ⟨he1, he2⟩ := he'
  have d1 : decide (e < 0) = false := decide_eq_false (by omega)
  have d2 : decide (15 < e) = false := decide_eq_false (by omega)
  have HR := hid hr
  have HQ := hid hq
  have HSX := hid hsx
  have HSY := hid hsy
  clear hr hq hsx hsy he he1 he2
  go_enter Tryd.func5, Tryd.ntmps5
  have hs0 : StI (w.alloc (.cells #[.slice none 0 0, .slice none 0 0] 39)) w.heap.size (.slice none 0 0) (.slice none 0 0) (.slice none 0 0) [] [] [] := ⟨heap_alloc_new _ _, OwnS.nil _ _, OwnI.nil _ _, OwnI.nil _ _, apart_none _, apart_none _, apart_none _⟩
  have hb0 : Below w.heap.size w (w.alloc (.cells #[.slice none 0 0, .slice none 0 0] 39)) := (Below.refl _ _).alloc (Nat.le_refl _) _
  go_wp2
  go_loopw [9, 11] (fun t9 t11 wr => ∃ sd : Nat, sd ≤ 2 ∧ t11 = .int .i64 sd ∧ Below w.heap.size w wr ∧ ∃ vA vB, StI wr w.heap.size t9 vA vB (KSat e xs ys sd) (LAat e xs sd) (LBat e xs ys sd)) (fun _ t11 _ => 2 - (intOf t11).toNat)
  case atStart => exact ⟨0, by omega, rfl, hb0, _, _, hs0⟩
  case round =>
    obtain ⟨sd, hsd, rfl, hbr, vA, vB, hst⟩ := hrel
    clear hs0 hb0
    match sd, hsd with
    | 0, _ =>
      go_wp2
      go_loopw [9, 13] (fun t9 t13 wr => ∃ i : Nat, i ≤ xs.length ∧ t13 = .int .i64 i ∧ Below w.heap.size w wr ∧ ∃ vA vB, StI wr w.heap.size t9 vA vB (In.met [] ((keys e xs).take i)) (In.nums [] ((keys e xs).take i)) []) (fun _ t13 _ => xs.length - (intOf t13).toNat)
      case atStart => exact ⟨0, Nat.zero_le _, rfl, hbr, _, _, hst⟩
      case round =>
        obtain ⟨i, hi, rfl, hbi, vA, vB, hsi⟩ := hrel
        have HSI := hid hsi
        clear hst hsi hbr
        by_cases hlt : i < xs.length
        · obtain ⟨x, hx⟩ : ∃ x, xs[i]? = some x := ⟨_, List.getElem?_eq_getElem hlt⟩
          have hkey : (keys e xs)[i]? = some (In.keyI e x.data.toList) := by unfold keys; rw [List.getElem?_map, hx]; rfl
          have hsz := HSX.out x (List.mem_of_getElem? hx)
          obtain ⟨b, o, rfl, hcx⟩ : ∃ b o, a = some ⟨b, o, none⟩ ∧ wr.cell? ⟨b, o + i, none⟩ = some (.string x) := by
            rcases (HR.out.below hbi) with ⟨hz, _⟩ | ⟨b, o, c1, hv, _, _, hX⟩
            · rw [hz] at hlt; simp at hlt
            · injection hv with h1 _ _
              exact ⟨b, o, h1, hX i x hx⟩
          have HMS := hid (met_snoc [] (keys e xs) i _ hkey)
          have HNS := hid (nums_snoc [] (keys e xs) i _ hkey)
          have hml : (In.met [] ((keys e xs).take i)).length ≤ 2097152 := by
            have h1 := In.met_len [] ((keys e xs).take i)
            have h2 := In.met_len [] (keys e xs)
            rw [List.length_take, keys_length] at h1
            rw [keys_length] at h2
            simp only [List.length_nil] at h1 h2
            omega
          have HC := hid (refKey_any x e wr (by omega))
          generalize In.keyI e x.data.toList = kx at HMS HNS HC
          generalize hK0 : In.met [] ((keys e xs).take i) = K0 at HMS HNS HSI hml
          clear hkey hx
          go_wp2_with fail
          refine HC.out.mono ?_
          rintro r w2 ⟨rfl, hb2⟩
          have HS := hid (HSI.out.later hb2)
          have HBr := hid (hbi.trans (hb2.mono hbi.size))
          obtain ⟨a9, c9, rfl⟩ := HS.out.2.1.shape
          have HRK := hid (rd_own HS.out.2.1)
          clear HSI hb2 HC hcx
          go_wp2
          go_loopw [15] (fun t15 ws => ∃ j : Nat, j ≤ K0.length ∧ t15 = .int .i64 j ∧ ws = w2 ∧ Hid (kx ∉ K0.take j)) (fun t15 _ => K0.length - (intOf t15).toNat)
          case atStart => exact ⟨0, Nat.zero_le _, rfl, rfl, hid (by simp)⟩
          case round =>
            obtain ⟨j, hj, rfl, hws, HNJ⟩ := hrel
            obtain rfl : w2 = wr := hws.symm
            by_cases hjl : j < K0.length
            · obtain ⟨y, hy⟩ : ∃ y, K0[j]? = some y := ⟨_, List.getElem?_eq_getElem hjl⟩
              obtain ⟨b9, o9, rfl, hc9⟩ : ∃ b o, a9 = some ⟨b, o, none⟩ ∧ w2.cell? ⟨b, o + j, none⟩ = some (.string ⟨y.toArray⟩) := by
                rcases HRK.out with ⟨hz, _⟩ | ⟨b, o, c1, hv, _, _, hX⟩
                · have : K0 = [] := by
                    have h := congrArg List.length hz
                    rw [BL_length] at h
                    exact List.length_eq_zero_iff.1 h
                  rw [this] at hjl; simp at hjl
                · injection hv with h1 _ _
                  exact ⟨b, o, h1, hX j ⟨y.toArray⟩ (by unfold BL; rw [List.getElem?_map, hy]; rfl)⟩
              cases hyk : (y == kx) with
              | false =>
                have HNJ2 := hid (not_snoc HNJ.out hy hyk)
                clear hy
                go_wp2
                go_roundw
                case rel => exact ⟨j + 1, by omega, by go_num, by first | rfl | trivial, HNJ2⟩
                case measure => simp [intOf]; omega
              | true =>
                have hyk2 : y = kx := eq_of_beq hyk
                obtain ⟨hix, hmem⟩ := idx_hit HNJ.out (by rw [hy, hyk2])
                have HME : Hid (In.met [] ((keys e xs).take (i + 1)) = K0) := hid (by rw [HMS.out]; unfold In.stp; rw [if_pos hmem])
                have HNE : Hid (In.nums [] ((keys e xs).take (i + 1)) = In.nums [] ((keys e xs).take i) ++ [j]) := hid (by rw [HNS.out, hix])
                have hjn : ((j : Int) == (K0.length : Int)) = false := ine (by omega)
                clear hy hix hmem hyk2
                have hcS := HS.out.cellA
                go_wp2_with (at_builtin; refine wpList_append_int rfl _ _ rfl (w.heap.size + 1) _ _ rfl (HS.out.2.2.1.stays ((Below.refl _ _).alloc (Nat.le_refl _) _)) _ 1 j rfl ?p0a1 ?p0a2 ?p0a3 ?_)
                try (case p0a1 => simp [Addr.add])
                (case p0a2 => rw [In.nums_len, List.length_take, keys_length]; omega)
                (case p0a3 => have := lt_of_heap HS.out.1; first | omega | (simp; omega))
                intro v7 w7 hO7 hG7
                obtain ⟨hg7, hl7, a7, n7, c7, rfl⟩ := hG7
                have HS7 := hid (HS.out.later ((Below.refl _ _).alloc (Nat.le_refl _) (.cells #[.int .i64 j] 3)))
                have h17 := far_heap HS7.out.1 hg7 (own_ge (HS7.out.2.2.1))
                have hc7 : w7.cell? ⟨w.heap.size, 0, none⟩ = some vA := by simp [World.cell?, h17]
                have hf7 : w7.frozen? ⟨w.heap.size, 0, none⟩ = false := by simp [World.frozen?, h17]
                have HSE := hid (HS7.out.numA hO7 hg7 hl7)
                have HBE := hid (set_below (k := 0) (u := .slice a7 n7 c7) (HBr.out.alloc HBr.out.size (.cells #[.int .i64 j] 3)) hg7 (by simp; have := HBr.out.size; omega) (fun k hk => by have := own_ge (HS7.out.2.2.1) k hk; omega))
                clear hO7 hg7 hl7 h17 HS7 HS hcS HBr
                go_wp2
                go_roundw
                case rel =>
                  refine ⟨?q0a_1, ?q0a_2, ?q0a_3, ?q0a_4, ?q0a_5, ?q0a_6, ?q0a_7, ?q0a_8, ?q0a_9, ?q0a_10, ?q0a_11, ?q0a_12, ?q0a_13, ?q0a_14, ?q0a_15, ?q0a_16, ?q0a_17, ?q0a_18, ?q0a_19, ?q0a_20, ?q0a_21, ?q0a_22, ?q0a_23, ?q0a_24, ?q0a_25, ?q0a_26, ?q0a_27, ?q0a_28, ?q0a_29, ?q0a_30, ?q0a_31, ?q0a_32, ?q0a_33, ?q0a_34, ?q0a_35, ?q0a_36, ?q0a_37, ?q0a_38, ?q0a_39, ?q0a_40, ?q0a_41, ?q0a_42, ?q0a_43, ?q0a_44, ?q0a_45, ?q0a_46, ⟨i + 1, by omega, by go_num, HBE.out, _, _, by rw [HME.out, HNE.out]; exact HSE.out⟩, ?r0a⟩
                  case r0a => rfl
                case measure => simp [intOf]; omega
            · have hjK : j = K0.length := by omega
              have hnm : kx ∉ K0 := by
                have h := HNJ.out
                rwa [List.take_of_length_le (by omega)] at h
              have HME : Hid (In.met [] ((keys e xs).take (i + 1)) = K0 ++ [kx]) := hid (by rw [HMS.out]; unfold In.stp; rw [if_neg hnm])
              have HNE : Hid (In.nums [] ((keys e xs).take (i + 1)) = In.nums [] ((keys e xs).take i) ++ [j]) := hid (by rw [HNS.out, List.idxOf_eq_length hnm, hjK])
              have hjn : ((j : Int) == (K0.length : Int)) = true := ieq (by omega)
              clear hnm hjK
              have hbA : Below w2.heap.size w2 (w2.alloc (.cells #[.string ⟨kx.toArray⟩] 9)) := (Below.refl _ _).alloc (Nat.le_refl _) _
              go_wp2_with (at_builtin; refine wpList_append_key rfl _ _ rfl (w.heap.size + 1) _ K0 rfl (HS.out.2.1.stays hbA) _ 1 kx rfl ?k01 ?k02 ?k03 ?_)
              try (case k01 => simp [Addr.add])
              (case k02 => omega)
              (case k03 => have := lt_of_heap HS.out.1; first | omega | (simp; omega))
              intro v8 w8 hO8 hG8
              obtain ⟨hg8, hl8, a8, n8, c8, rfl⟩ := hG8
              have HS8 := hid ((HS.out.later hbA).key hO8 hg8 hl8)
              have HB8 := hid (((HBr.out.trans (hbA.mono HBr.out.size)).grown hg8 (by simp; have := HBr.out.size; omega) (fun k hk => by have := own_ge HS.out.2.1 k hk; omega)))
              clear hO8 hg8 hl8 HS HBr hbA HRK
              have HS := HS8
              have HBr := HB8
              clear HS8 HB8
              have hcS := HS.out.cellA
              go_wp2_with (at_builtin; refine wpList_append_int rfl _ _ rfl (w.heap.size + 1) _ _ rfl (HS.out.2.2.1.stays ((Below.refl _ _).alloc (Nat.le_refl _) _)) _ 1 j rfl ?p0b1 ?p0b2 ?p0b3 ?_)
              try (case p0b1 => simp [Addr.add])
              (case p0b2 => rw [In.nums_len, List.length_take, keys_length]; omega)
              (case p0b3 => have := lt_of_heap HS.out.1; first | omega | (simp; omega))
              intro v7 w7 hO7 hG7
              obtain ⟨hg7, hl7, a7, n7, c7, rfl⟩ := hG7
              have HS7 := hid (HS.out.later ((Below.refl _ _).alloc (Nat.le_refl _) (.cells #[.int .i64 j] 3)))
              have h17 := far_heap HS7.out.1 hg7 (own_ge (HS7.out.2.2.1))
              have hc7 : w7.cell? ⟨w.heap.size, 0, none⟩ = some vA := by simp [World.cell?, h17]
              have hf7 : w7.frozen? ⟨w.heap.size, 0, none⟩ = false := by simp [World.frozen?, h17]
              have HSE := hid (HS7.out.numA hO7 hg7 hl7)
              have HBE := hid (set_below (k := 0) (u := .slice a7 n7 c7) (HBr.out.alloc HBr.out.size (.cells #[.int .i64 j] 3)) hg7 (by simp; have := HBr.out.size; omega) (fun k hk => by have := own_ge (HS7.out.2.2.1) k hk; omega))
              clear hO7 hg7 hl7 h17 HS7 HS hcS HBr
              go_wp2
              go_roundw
              case rel =>
                refine ⟨?q0b_1, ?q0b_2, ?q0b_3, ?q0b_4, ?q0b_5, ?q0b_6, ?q0b_7, ?q0b_8, ?q0b_9, ?q0b_10, ?q0b_11, ?q0b_12, ?q0b_13, ?q0b_14, ?q0b_15, ?q0b_16, ?q0b_17, ?q0b_18, ?q0b_19, ?q0b_20, ?q0b_21, ?q0b_22, ?q0b_23, ?q0b_24, ?q0b_25, ?q0b_26, ?q0b_27, ?q0b_28, ?q0b_29, ?q0b_30, ?q0b_31, ?q0b_32, ?q0b_33, ?q0b_34, ?q0b_35, ?q0b_36, ?q0b_37, ?q0b_38, ?q0b_39, ?q0b_40, ?q0b_41, ?q0b_42, ?q0b_43, ?q0b_44, ?q0b_45, ?q0b_46, ⟨i + 1, by omega, by go_num, HBE.out, _, _, by rw [HME.out, HNE.out]; exact HSE.out⟩, ?r0b⟩
                case r0b => rfl
              case measure => simp [intOf]; omega
        · have HE : Hid (StI wr w.heap.size u9 vA vB (In.met [] (keys e xs)) (In.nums [] (keys e xs)) []) := hid (by
            have h := HSI.out
            rw [List.take_of_length_le (by rw [keys_length]; omega)] at h
            exact h)
          clear HSI
          go_wp2
          go_roundw
          case rel => exact ⟨1, by omega, by go_num, hbi, _, _, HE.out⟩
          case measure => simp [intOf]

    | 1, _ =>
      go_wp2
      go_loopw [9, 13] (fun t9 t13 wr => ∃ i : Nat, i ≤ ys.length ∧ t13 = .int .i64 i ∧ Below w.heap.size w wr ∧ ∃ vA vB, StI wr w.heap.size t9 vA vB (In.met (In.met [] (keys e xs)) ((keys e ys).take i)) (idsA e xs) (In.nums (In.met [] (keys e xs)) ((keys e ys).take i))) (fun _ t13 _ => ys.length - (intOf t13).toNat)
      case atStart => exact ⟨0, Nat.zero_le _, rfl, hbr, _, _, hst⟩
      case round =>
        obtain ⟨i, hi, rfl, hbi, vA, vB, hsi⟩ := hrel
        have HSI := hid hsi
        clear hst hsi hbr
        by_cases hlt : i < ys.length
        · obtain ⟨x, hx⟩ : ∃ x, ys[i]? = some x := ⟨_, List.getElem?_eq_getElem hlt⟩
          have hkey : (keys e ys)[i]? = some (In.keyI e x.data.toList) := by unfold keys; rw [List.getElem?_map, hx]; rfl
          have hsz := HSY.out x (List.mem_of_getElem? hx)
          obtain ⟨b, o, rfl, hcx⟩ : ∃ b o, a' = some ⟨b, o, none⟩ ∧ wr.cell? ⟨b, o + i, none⟩ = some (.string x) := by
            rcases (HQ.out.below hbi) with ⟨hz, _⟩ | ⟨b, o, c1, hv, _, _, hX⟩
            · rw [hz] at hlt; simp at hlt
            · injection hv with h1 _ _
              exact ⟨b, o, h1, hX i x hx⟩
          have HMS := hid (met_snoc (In.met [] (keys e xs)) (keys e ys) i _ hkey)
          have HNS := hid (nums_snoc (In.met [] (keys e xs)) (keys e ys) i _ hkey)
          have hml : (In.met (In.met [] (keys e xs)) ((keys e ys).take i)).length ≤ 2097152 := by
            have h1 := In.met_len (In.met [] (keys e xs)) ((keys e ys).take i)
            have h2 := In.met_len [] (keys e xs)
            rw [List.length_take, keys_length] at h1
            rw [keys_length] at h2
            simp only [List.length_nil] at h1 h2
            omega
          have HC := hid (refKey_any x e wr (by omega))
          generalize In.keyI e x.data.toList = kx at HMS HNS HC
          generalize hK0 : In.met (In.met [] (keys e xs)) ((keys e ys).take i) = K0 at HMS HNS HSI hml
          clear hkey hx
          go_wp2_with fail
          refine HC.out.mono ?_
          rintro r w2 ⟨rfl, hb2⟩
          have HS := hid (HSI.out.later hb2)
          have HBr := hid (hbi.trans (hb2.mono hbi.size))
          obtain ⟨a9, c9, rfl⟩ := HS.out.2.1.shape
          have HRK := hid (rd_own HS.out.2.1)
          clear HSI hb2 HC hcx
          go_wp2
          go_loopw [15] (fun t15 ws => ∃ j : Nat, j ≤ K0.length ∧ t15 = .int .i64 j ∧ ws = w2 ∧ Hid (kx ∉ K0.take j)) (fun t15 _ => K0.length - (intOf t15).toNat)
          case atStart => exact ⟨0, Nat.zero_le _, rfl, rfl, hid (by simp)⟩
          case round =>
            obtain ⟨j, hj, rfl, hws, HNJ⟩ := hrel
            obtain rfl : w2 = wr := hws.symm
            by_cases hjl : j < K0.length
            · obtain ⟨y, hy⟩ : ∃ y, K0[j]? = some y := ⟨_, List.getElem?_eq_getElem hjl⟩
              obtain ⟨b9, o9, rfl, hc9⟩ : ∃ b o, a9 = some ⟨b, o, none⟩ ∧ w2.cell? ⟨b, o + j, none⟩ = some (.string ⟨y.toArray⟩) := by
                rcases HRK.out with ⟨hz, _⟩ | ⟨b, o, c1, hv, _, _, hX⟩
                · have : K0 = [] := by
                    have h := congrArg List.length hz
                    rw [BL_length] at h
                    exact List.length_eq_zero_iff.1 h
                  rw [this] at hjl; simp at hjl
                · injection hv with h1 _ _
                  exact ⟨b, o, h1, hX j ⟨y.toArray⟩ (by unfold BL; rw [List.getElem?_map, hy]; rfl)⟩
              cases hyk : (y == kx) with
              | false =>
                have HNJ2 := hid (not_snoc HNJ.out hy hyk)
                clear hy
                go_wp2
                go_roundw
                case rel => exact ⟨j + 1, by omega, by go_num, by first | rfl | trivial, HNJ2⟩
                case measure => simp [intOf]; omega
              | true =>
                have hyk2 : y = kx := eq_of_beq hyk
                obtain ⟨hix, hmem⟩ := idx_hit HNJ.out (by rw [hy, hyk2])
                have HME : Hid (In.met (In.met [] (keys e xs)) ((keys e ys).take (i + 1)) = K0) := hid (by rw [HMS.out]; unfold In.stp; rw [if_pos hmem])
                have HNE : Hid (In.nums (In.met [] (keys e xs)) ((keys e ys).take (i + 1)) = In.nums (In.met [] (keys e xs)) ((keys e ys).take i) ++ [j]) := hid (by rw [HNS.out, hix])
                have hjn : ((j : Int) == (K0.length : Int)) = false := ine (by omega)
                clear hy hix hmem hyk2
                have hcS := HS.out.cellB
                go_wp2_with (at_builtin; refine wpList_append_int rfl _ _ rfl (w.heap.size + 1) _ _ rfl (HS.out.2.2.2.1.stays ((Below.refl _ _).alloc (Nat.le_refl _) _)) _ 1 j rfl ?p1a1 ?p1a2 ?p1a3 ?_)
                try (case p1a1 => simp [Addr.add])
                (case p1a2 => rw [In.nums_len, List.length_take, keys_length]; omega)
                (case p1a3 => have := lt_of_heap HS.out.1; first | omega | (simp; omega))
                intro v7 w7 hO7 hG7
                obtain ⟨hg7, hl7, a7, n7, c7, rfl⟩ := hG7
                have HS7 := hid (HS.out.later ((Below.refl _ _).alloc (Nat.le_refl _) (.cells #[.int .i64 j] 3)))
                have h17 := far_heap HS7.out.1 hg7 (own_ge (HS7.out.2.2.2.1))
                have hc7 : w7.cell? ⟨w.heap.size, 1, none⟩ = some vB := by simp [World.cell?, h17]
                have hf7 : w7.frozen? ⟨w.heap.size, 1, none⟩ = false := by simp [World.frozen?, h17]
                have HSE := hid (HS7.out.numB hO7 hg7 hl7)
                have HBE := hid (set_below (k := 1) (u := .slice a7 n7 c7) (HBr.out.alloc HBr.out.size (.cells #[.int .i64 j] 3)) hg7 (by simp; have := HBr.out.size; omega) (fun k hk => by have := own_ge (HS7.out.2.2.2.1) k hk; omega))
                clear hO7 hg7 hl7 h17 HS7 HS hcS HBr
                go_wp2
                go_roundw
                case rel =>
                  refine ⟨?q1a_1, ?q1a_2, ?q1a_3, ?q1a_4, ?q1a_5, ?q1a_6, ?q1a_7, ?q1a_8, ?q1a_9, ?q1a_10, ?q1a_11, ?q1a_12, ?q1a_13, ?q1a_14, ?q1a_15, ?q1a_16, ?q1a_17, ?q1a_18, ?q1a_19, ?q1a_20, ?q1a_21, ?q1a_22, ?q1a_23, ?q1a_24, ?q1a_25, ?q1a_26, ?q1a_27, ?q1a_28, ?q1a_29, ?q1a_30, ?q1a_31, ?q1a_32, ?q1a_33, ?q1a_34, ?q1a_35, ?q1a_36, ?q1a_37, ?q1a_38, ?q1a_39, ?q1a_40, ?q1a_41, ?q1a_42, ?q1a_43, ?q1a_44, ?q1a_45, ?q1a_46, ⟨i + 1, by omega, by go_num, HBE.out, _, _, by rw [HME.out, HNE.out]; exact HSE.out⟩, ?r1a⟩
                  case r1a => rfl
                case measure => simp [intOf]; omega
            · have hjK : j = K0.length := by omega
              have hnm : kx ∉ K0 := by
                have h := HNJ.out
                rwa [List.take_of_length_le (by omega)] at h
              have HME : Hid (In.met (In.met [] (keys e xs)) ((keys e ys).take (i + 1)) = K0 ++ [kx]) := hid (by rw [HMS.out]; unfold In.stp; rw [if_neg hnm])
              have HNE : Hid (In.nums (In.met [] (keys e xs)) ((keys e ys).take (i + 1)) = In.nums (In.met [] (keys e xs)) ((keys e ys).take i) ++ [j]) := hid (by rw [HNS.out, List.idxOf_eq_length hnm, hjK])
              have hjn : ((j : Int) == (K0.length : Int)) = true := ieq (by omega)
              clear hnm hjK
              have hbA : Below w2.heap.size w2 (w2.alloc (.cells #[.string ⟨kx.toArray⟩] 9)) := (Below.refl _ _).alloc (Nat.le_refl _) _
              go_wp2_with (at_builtin; refine wpList_append_key rfl _ _ rfl (w.heap.size + 1) _ K0 rfl (HS.out.2.1.stays hbA) _ 1 kx rfl ?k11 ?k12 ?k13 ?_)
              try (case k11 => simp [Addr.add])
              (case k12 => omega)
              (case k13 => have := lt_of_heap HS.out.1; first | omega | (simp; omega))
              intro v8 w8 hO8 hG8
              obtain ⟨hg8, hl8, a8, n8, c8, rfl⟩ := hG8
              have HS8 := hid ((HS.out.later hbA).key hO8 hg8 hl8)
              have HB8 := hid (((HBr.out.trans (hbA.mono HBr.out.size)).grown hg8 (by simp; have := HBr.out.size; omega) (fun k hk => by have := own_ge HS.out.2.1 k hk; omega)))
              clear hO8 hg8 hl8 HS HBr hbA HRK
              have HS := HS8
              have HBr := HB8
              clear HS8 HB8
              have hcS := HS.out.cellB
              go_wp2_with (at_builtin; refine wpList_append_int rfl _ _ rfl (w.heap.size + 1) _ _ rfl (HS.out.2.2.2.1.stays ((Below.refl _ _).alloc (Nat.le_refl _) _)) _ 1 j rfl ?p1b1 ?p1b2 ?p1b3 ?_)
              try (case p1b1 => simp [Addr.add])
              (case p1b2 => rw [In.nums_len, List.length_take, keys_length]; omega)
              (case p1b3 => have := lt_of_heap HS.out.1; first | omega | (simp; omega))
              intro v7 w7 hO7 hG7
              obtain ⟨hg7, hl7, a7, n7, c7, rfl⟩ := hG7
              have HS7 := hid (HS.out.later ((Below.refl _ _).alloc (Nat.le_refl _) (.cells #[.int .i64 j] 3)))
              have h17 := far_heap HS7.out.1 hg7 (own_ge (HS7.out.2.2.2.1))
              have hc7 : w7.cell? ⟨w.heap.size, 1, none⟩ = some vB := by simp [World.cell?, h17]
              have hf7 : w7.frozen? ⟨w.heap.size, 1, none⟩ = false := by simp [World.frozen?, h17]
              have HSE := hid (HS7.out.numB hO7 hg7 hl7)
              have HBE := hid (set_below (k := 1) (u := .slice a7 n7 c7) (HBr.out.alloc HBr.out.size (.cells #[.int .i64 j] 3)) hg7 (by simp; have := HBr.out.size; omega) (fun k hk => by have := own_ge (HS7.out.2.2.2.1) k hk; omega))
              clear hO7 hg7 hl7 h17 HS7 HS hcS HBr
              go_wp2
              go_roundw
              case rel =>
                refine ⟨?q1b_1, ?q1b_2, ?q1b_3, ?q1b_4, ?q1b_5, ?q1b_6, ?q1b_7, ?q1b_8, ?q1b_9, ?q1b_10, ?q1b_11, ?q1b_12, ?q1b_13, ?q1b_14, ?q1b_15, ?q1b_16, ?q1b_17, ?q1b_18, ?q1b_19, ?q1b_20, ?q1b_21, ?q1b_22, ?q1b_23, ?q1b_24, ?q1b_25, ?q1b_26, ?q1b_27, ?q1b_28, ?q1b_29, ?q1b_30, ?q1b_31, ?q1b_32, ?q1b_33, ?q1b_34, ?q1b_35, ?q1b_36, ?q1b_37, ?q1b_38, ?q1b_39, ?q1b_40, ?q1b_41, ?q1b_42, ?q1b_43, ?q1b_44, ?q1b_45, ?q1b_46, ⟨i + 1, by omega, by go_num, HBE.out, _, _, by rw [HME.out, HNE.out]; exact HSE.out⟩, ?r1b⟩
                case r1b => rfl
              case measure => simp [intOf]; omega
        · have HE : Hid (StI wr w.heap.size u9 vA vB (In.met (In.met [] (keys e xs)) (keys e ys)) (idsA e xs) (In.nums (In.met [] (keys e xs)) (keys e ys))) := hid (by
            have h := HSI.out
            rw [List.take_of_length_le (by rw [keys_length]; omega)] at h
            exact h)
          clear HSI
          go_wp2
          go_roundw
          case rel => exact ⟨2, by omega, by go_num, hbi, _, _, HE.out⟩
          case measure => simp [intOf]

    | 2, _ =>
      have HST := hid hst
      have hcA := hst.cellA
      have hcB := hst.cellB
      obtain ⟨aA, cA, rfl⟩ := hst.2.2.1.rd.shape
      obtain ⟨aB, cB, rfl⟩ := hst.2.2.2.1.rd.shape
      clear hst
      go_wp2
      go_quiet (fail)
      go_wp2
      go_ret3
      exact ⟨_, _, rfl, own_mono (HST.out.2.2.1.stays (below_drewN (Below.refl _ _) _)) (by omega), own_mono (HST.out.2.2.2.1.stays (below_drewN (Below.refl _ _) _)) (by omega), below_drewN hbr _⟩
end Go.Proofs.YtjjhidojialjoaaDoor
