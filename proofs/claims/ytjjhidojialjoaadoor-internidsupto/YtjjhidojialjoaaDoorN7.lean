/-
  The walks of numbering, numbers, Ids.
-/
import Derived.Test.YtjjhidojialjoaaDoorNr
namespace Go.Proofs.YtjjhidojialjoaaDoor
open Go.RowKit

/-- the keys of a list of strings -/
def keys (e : Int) (xs : List ByteArray) : List (List UInt8) := xs.map fun x => In.keyI e x.data.toList
theorem keys_length (e : Int) (xs : List ByteArray) : (keys e xs).length = xs.length := List.length_map _
/-- a function's value that numbers lines by these ways; where it keeps them -/
def NumV (be bg : Nat) : Value := .func (.func 16) #[] #[.pointer (some ⟨be, 0, none⟩), .pointer (some ⟨bg, 0, none⟩)]
/-- it stands there: keys met so far ks -/
def NumAt (w : World) (e : Int) (be bg M : Nat) (ks : List (List UInt8)) : Prop := w.cell? ⟨be, 0, none⟩ = some (.int .i64 e) ∧ w.cell? ⟨bg, 0, none⟩ = some (.map (some M)) ∧ MapAt w M ks
theorem NumAt.ne {w : World} {e : Int} {be bg M : Nat} {ks : List (List UInt8)} (h : NumAt w e be bg M ks) : be ≠ M ∧ bg ≠ M := by
  obtain ⟨h1, h2, D, ⟨es, clock, hb, _⟩, _⟩ := h
  refine ⟨fun e => ?_, fun e => ?_⟩
  · subst e; simp [World.cell?, hb] at h1
  · subst e; simp [World.cell?, hb] at h2
theorem NumAt.kept {w w' : World} {e : Int} {be bg M : Nat} {ks ks' : List (List UInt8)} (h : NumAt w e be bg M ks) (hg : w.grownBy w' (some M)) (hM : MapAt w' M ks') : NumAt w' e be bg M ks' := by
  obtain ⟨n1, n2⟩ := h.ne
  exact ⟨hg.cell h.1 (by simpa using n1), hg.cell h.2.1 (by simpa using n2), hM⟩
theorem NumAt.later {w w' : World} {e : Int} {be bg M : Nat} {ks : List (List UInt8)} (h : NumAt w e be bg M ks) (hb : Below w.heap.size w w') : NumAt w' e be bg M ks :=
  ⟨(hb.cell (p := ⟨be, 0, none⟩) (lt_of_cell h.1)).trans h.1, (hb.cell (p := ⟨bg, 0, none⟩) (lt_of_cell h.2.1)).trans h.2.1, h.2.2.stays hb⟩
theorem NumAt.far {w w' : World} {e : Int} {B be bg M : Nat} {ks : List (List UInt8)} (h : NumAt w e be bg M ks) (h1 : be < B) (h2 : bg < B) (h3 : M < B) (hb : Below B w w') : NumAt w' e be bg M ks := by
  obtain ⟨c1, c2, D, ⟨es, clock, hm, r⟩, hk⟩ := h
  exact ⟨(hb.cell (p := ⟨be, 0, none⟩) h1).trans c1, (hb.cell (p := ⟨bg, 0, none⟩) h2).trans c2, D, ⟨es, clock, (hb.block M h3).trans hm, r⟩, hk⟩
theorem rd_cell_ne {w : World} {M b o : Nat} {u : Value} {ks : List (List UInt8)} (h : MapAt w M ks) (hc : w.cell? ⟨b, o, none⟩ = some u) : b ≠ M := by
  obtain ⟨D, ⟨es, clock, hb, _⟩, _⟩ := h
  intro e
  subst e
  simp [World.cell?, hb] at hc

set_option maxHeartbeats 1000000 in
theorem numbering_any (e : Int) (w : World) :
    Calls Tryd.prog 10 #[.int .i64 e] w fun r w' => ∃ be bg M, r = .returned (NumV be bg) ∧ w.heap.size ≤ be ∧ w.heap.size ≤ bg ∧ w.heap.size ≤ M ∧ NumAt w' e be bg M [] ∧ Below w.heap.size w w' := by
  have hmm := @run_makeMap Tryd.prog
  go_enter Tryd.func10, Tryd.ntmps10
  go_wp2
  go_ret
  refine ⟨w.heap.size, w.heap.size + 1 + 1, w.heap.size + 1, rfl, Nat.le_refl _, by omega, by omega, ⟨?_, ?_, ?_⟩, (((Below.refl _ _).alloc (Nat.le_refl _) _).alloc (by simp) _).alloc (by simp; omega) _⟩
  · rw [(((Below.refl (w.heap.size + 1) (w.alloc (.cells #[.int .i64 e] 3))).alloc (by simp) _).alloc (by simp) _).cell (p := ⟨w.heap.size, 0, none⟩) (by simp)]
    exact cell_one_new w (.int .i64 e) 3 0 _ rfl
  · have h := cell_one_new ((w.alloc (.cells #[.int .i64 e] 3)).alloc (.map #[] 0)) (.map (some (w.heap.size + 1))) 44 0 _ rfl
    simpa [Addr.add] using h
  · have h := (MapAt.new (w.alloc (.cells #[.int .i64 e] 3))).stays ((Below.refl _ _).alloc (Nat.le_refl _) (.cells #[.map (some (w.heap.size + 1))] 44))
    simpa using h

/-- a row of numbers that was made -/
def IRow (w : World) (g : Nat) (L : List Nat) : Prop := w.heap[g]? = some (.cells (intC L).toArray 3 (0, 0))
theorem heap_set_same (w : World) (g k : Nat) (cs : Array Value) (t : TypeId) (u : Value) (h : w.heap[g]? = some (.cells cs t (0, 0))) : (w.setCell ⟨g, k, none⟩ u).heap[g]? = some (.cells (cs.setIfInBounds k u) t (0, 0)) := by
  have hl := lt_of_heap h
  have he : w.heap[g] = .cells cs t (0, 0) := by rw [Array.getElem?_eq_getElem hl] at h; exact Option.some.inj h
  simp [World.setCell, hl, Array.getElem_modify, he]
theorem IRow.set {w : World} {g : Nat} {L : List Nat} (h : IRow w g L) (k v : Nat) : IRow (w.setCell ⟨g, k, none⟩ (.int .i64 v)) g (L.set k v) := by
  unfold IRow
  rw [heap_set_same _ _ _ _ _ _ h]
  congr 2
  apply Array.ext'
  simp [intC, List.map_set]
theorem IRow.kept {w w' : World} {g : Nat} {L : List Nat} {row : Option Nat} (h : IRow w g L) (hg : w.grownBy w' row) (hne : some g ≠ row) : IRow w' g L := (hg.block g (lt_of_heap h) hne).trans h
theorem IRow.cell {w : World} {g : Nat} {L : List Nat} (h : IRow w g L) {k n : Nat} (hk : L[k]? = some n) : w.cell? ⟨g, k, none⟩ = some (.int .i64 n) := by
  have h' : w.heap[g]? = some (.cells (intC L).toArray 3 (0, 0)) := h
  simp [World.cell?, h', intC, hk]
theorem IRow.free {w : World} {g : Nat} {L : List Nat} (h : IRow w g L) (k : Nat) : w.frozen? ⟨g, k, none⟩ = false := by
  have h' : w.heap[g]? = some (.cells (intC L).toArray 3 (0, 0)) := h
  simp [World.frozen?, h']
theorem IRow.made {w : World} {B g n : Nat} (h : w.ownsRow B 3 1 (.slice (some ⟨g, 0, none⟩) n n) n (madeCells (Value.int .i64 0).cells (n * 1)).toList) : IRow w g (List.replicate n 0) := by
  rcases h.2 with ⟨hv, _⟩ | ⟨g', cap, cur, hv, hg, hh, hc, _, hsz, ht⟩
  · cases hv
  · cases hv
    have e : cur.toList = (madeCells (Value.int .i64 0).cells (n * 1)).toList := by
      rw [← ht, List.take_of_length_le]
      rw [Array.length_toList, hsz]
      exact Nat.le_refl _
    rw [show (Value.int .i64 0).cells = #[Value.int .i64 0] from rfl, toList_madeCells_one] at e
    have e2 : cur = (intC (List.replicate n 0)).toArray := by
      apply Array.ext'
      rw [e]
      simp [intC]
    rw [e2] at hh
    exact hh
theorem IRow.own {w : World} {B g n : Nat} {L : List Nat} (h : IRow w g L) (hl : L.length = n) (hB : B ≤ g) (hn : n ≤ maxLen) : OwnI w B (.slice (some ⟨g, 0, none⟩) n n) L := by
  subst hl
  exact ⟨by rw [intC_length, Nat.mul_one], .inr ⟨g, L.length, (intC L).toArray, rfl, hB, h, Nat.le_refl _, hn, by rw [List.size_toArray, intC_length, Nat.mul_one], by rw [List.toList_toArray, Nat.mul_one]; exact List.take_of_length_le (Nat.le_of_eq (intC_length L))⟩⟩
theorem grown_set {w wr : World} {M g k : Nat} {u : Value} (h : w.grownBy wr (some M)) (hg : w.heap.size ≤ g) : w.grownBy (wr.setCell ⟨g, k, none⟩ u) (some M) := by
  have hb := (Below.refl w.heap.size wr).setCell (p := ⟨g, k, none⟩) hg u
  exact ⟨hb.os.trans h.os, hb.tape.trans h.tape, hb.output.trans h.output, Nat.le_trans h.size hb.size, fun i hi hne => (hb.block i hi).trans (h.block i hi hne)⟩

/-- the numbers so far, the rest 0 -/
def rowN (A : List Nat) (k : Nat) : List Nat := A.take k ++ List.replicate (A.length - k) 0
theorem rowN_zero (A : List Nat) : rowN A 0 = List.replicate A.length 0 := by simp [rowN]
theorem rowN_all (A : List Nat) (k : Nat) (h : A.length ≤ k) : rowN A k = A := by
  unfold rowN
  rw [List.take_of_length_le h, Nat.sub_eq_zero_of_le h]; simp
theorem rowN_set (A : List Nat) (k : Nat) (n : Nat) (h : A[k]? = some n) : (rowN A k).set k n = rowN A (k + 1) := by
  have hl : k < A.length := by
    rcases Nat.lt_or_ge k A.length with q | q
    · exact q
    · rw [List.getElem?_eq_none q] at h; cases h
  unfold rowN
  have hk : (A.take k).length = k := by rw [List.length_take]; omega
  rw [List.set_append, if_neg (by omega), hk, Nat.sub_self]
  obtain ⟨m, hm⟩ : ∃ m, A.length - k = m + 1 := ⟨A.length - k - 1, by omega⟩
  have hm' : A.length - (k + 1) = m := by omega
  rw [hm, hm', List.replicate_succ, List.set_cons_zero, List.take_add_one, h]
  simp
theorem rowN_at (A : List Nat) (k : Nat) (h : k < A.length) : ∃ n, (rowN A k)[k]? = some n := by
  refine ⟨0, ?_⟩
  unfold rowN
  have hk : (A.take k).length = k := by rw [List.length_take]; omega
  rw [List.getElem?_append_right (by omega), hk, Nat.sub_self]
  obtain ⟨m, hm⟩ : ∃ m, A.length - k = m + 1 := ⟨A.length - k - 1, by omega⟩
  rw [hm]; rfl
theorem nums_at (ks l : List (List UInt8)) (k : Nat) (x : List UInt8) (h : l[k]? = some x) : (In.nums ks l)[k]? = some ((In.met ks (l.take k)).idxOf x) := by
  have hl : k < l.length := by
    rcases Nat.lt_or_ge k l.length with q | q
    · exact q
    · rw [List.getElem?_eq_none q] at h; cases h
  have e : l = l.take k ++ x :: l.drop (k + 1) := by
    rw [← List.getElem_eq_iff hl |>.2 h, List.getElem_cons_drop, List.take_append_drop]
  have hn := In.nums_append ks (l.take k) (x :: l.drop (k + 1))
  rw [← e] at hn
  rw [hn, List.getElem?_append_right (by rw [In.nums_len, List.length_take]; omega), In.nums_len, List.length_take, Nat.min_eq_left (by omega), Nat.sub_self]
  rfl
theorem met_snoc (ks l : List (List UInt8)) (k : Nat) (x : List UInt8) (h : l[k]? = some x) : In.met ks (l.take (k + 1)) = In.stp (In.met ks (l.take k)) x := by
  rw [List.take_add_one, h, In.met_append]; rfl

set_option maxHeartbeats 2000000 in
theorem numbers_any {v : Value} {xs : List ByteArray} {e : Int} {be bg M : Nat} {ks : List (List UInt8)} {w : World} (hr : Rd w v xs) (hsz : ∀ x ∈ xs, x.size ≤ 140737488355327) (hN : NumAt w e be bg M ks) (hn : ks.length + xs.length ≤ 100000000000) :
    Calls Tryd.prog 11 #[v, NumV be bg] w fun r w' => ∃ v', r = .returned v' ∧ OwnI w' w.heap.size v' (In.nums ks (keys e xs)) ∧ NumAt w' e be bg M (In.met ks (keys e xs)) ∧ w.grownBy w' (some M) := by
  obtain ⟨a, c, rfl⟩ := hr.shape
  obtain ⟨i0, hi, hz0, hz1, hz2⟩ := info_parts Tryd.infoInt
  have HR := hid hr
  have HN := hid hN
  have HSZ := hid hsz
  clear hr hN hsz
  unfold NumV
  go_enter Tryd.func11, Tryd.ntmps11
  go_wp2_with (at_make; refine wpList_make_full _ rfl _ _ 23 rfl w.heap.size 3 i0 (.int .i64 0) 1 Tryd.underlying23 hi hz0 hz1 .i64 .i64 _ _ xs.length rfl rfl (by omega) (by omega) (by rw [hz2]; omega) (by unfold maxLen; omega) (Nat.le_refl _) ?_; intro w1 hown hgrow; have HR1 := hid (IRow.made hown); have hb1 := (Below.refl w.heap.size w).grown hgrow (Nat.le_refl _) (fun k hk => by cases hk); clear hown hgrow)
  have HA := hid (nums_at ks (keys e xs))
  have HL : Hid ((In.nums ks (keys e xs)).length = xs.length) := hid (by rw [In.nums_len, keys_length])
  generalize hA : In.nums ks (keys e xs) = A at HA HL
  have HAA := hid hA
  have HN1 := hid (HN.out.later (by have := hb1; exact this))
  go_loopw [13] (fun i wr => ∃ k : Nat, k ≤ xs.length ∧ i = .int .i64 k ∧ IRow wr w.heap.size (rowN A k) ∧ NumAt wr e be bg M (In.met ks ((keys e xs).take k)) ∧ w.grownBy wr (some M)) (fun i _ => xs.length - (intOf i).toNat)
  case atStart => exact ⟨0, Nat.zero_le _, rfl, by rw [rowN_zero, HL.out]; exact HR1.out, HN1.out, grown_of_below hb1 _⟩
  case round =>
    obtain ⟨k, hk, rfl, hI, hNk, hg⟩ := hrel
    have HI := hid hI
    have HNk := hid hNk
    have HG := hid hg
    have hz := hg.size
    clear HR1 hb1 HN1 hI hNk hg hA
    by_cases hlt : k < xs.length
    · obtain ⟨x, hx⟩ : ∃ x, xs[k]? = some x := ⟨_, List.getElem?_eq_getElem hlt⟩
      have hsx := HSZ.out x (List.mem_of_getElem? hx)
      have hkey : (keys e xs)[k]? = some (In.keyI e x.data.toList) := by unfold keys; rw [List.getElem?_map, hx]; rfl
      have HAk := hid (HA.out k _ hkey)
      have HMk := hid (met_snoc ks (keys e xs) k _ hkey)
      have hml := In.met_len ks ((keys e xs).take k)
      rw [List.length_take, keys_length] at hml
      obtain ⟨b, o, rfl, hblt, hcell⟩ : ∃ b o, a = some ⟨b, o, none⟩ ∧ b < w.heap.size ∧ w.cell? ⟨b, o + k, none⟩ = some (.string x) := by
        rcases HR.out with ⟨rfl, _⟩ | ⟨b, o, c', hv, _, hb, hX⟩
        · simp at hlt
        · cases hv; exact ⟨b, o, rfl, hb, hX k x hx⟩
      have hcr : wr.cell? ⟨b, o + k, none⟩ = some (.string x) := HG.out.cell hcell (by
        have := rd_cell_ne HN.out.2.2 hcell
        simpa using this)
      have cN := number_any x e be bg M _ wr HNk.out.1 HNk.out.2.1 HNk.out.2.2 (by omega) hsx
      have HCN := hid cN
      clear cN hkey hml hcell hsx
      generalize In.met ks ((keys e xs).take k) = K0 at HCN HAk HMk HNk
      generalize In.keyI e x.data.toList = kx at HCN HAk HMk
      go_wp2_with fail
      refine HCN.out.mono ?_
      rintro r w2 ⟨rfl, hM2, hg2⟩
      have hMlt := HN.out.2.2.lt
      have HI2 := hid (HI.out.kept hg2 (fun h => by injection h with h; omega))
      have HN2 := hid (HNk.out.kept hg2 hM2)
      have HG2 := hid (HG.out.trans hg2)
      obtain ⟨n0, hn0⟩ := rowN_at A k (by rw [HL.out]; exact hlt)
      have hc2 := HI2.out.cell hn0
      have hf2 := HI2.out.free k
      clear hM2 hg2 hn0 HCN HNk HI
      go_wp2
      go_roundw
      case rel =>
        refine ⟨k + 1, by omega, by go_num, ?_, ?_, grown_set HG2.out (Nat.le_refl _)⟩
        · rw [← rowN_set A k _ HAk.out]; exact HI2.out.set k _
        · rw [HMk.out]; exact HN2.out.far (lt_of_cell HN.out.1) (lt_of_cell HN.out.2.1) hMlt ((Below.refl w.heap.size _).setCell (Nat.le_refl _) _)
      case measure => simp [intOf]; omega
    · have hkk : xs.length ≤ k := by omega
      have HE : Hid (OwnI wr w.heap.size (.slice (some ⟨w.heap.size, 0, none⟩) xs.length xs.length) (In.nums ks (keys e xs))) := hid (by
        have h := HI.out
        rw [rowN_all A k (by rw [HL.out]; exact hkk)] at h
        rw [HAA.out]
        exact h.own HL.out (Nat.le_refl _) (by unfold maxLen; omega))
      have HNE : Hid (NumAt wr e be bg M (In.met ks (keys e xs))) := hid (by
        have h := HNk.out
        rw [List.take_of_length_le (by rw [keys_length]; exact hkk)] at h
        exact h)
      clear HI HNk
      go_wp2
      go_ret
      exact ⟨_, rfl, HE.out, HNE.out, HG.out⟩

theorem own_lt {w : World} {base n : Nat} {e : TypeId} {size : Nat} {v : Value} {xs : List Value} (h : w.ownsRow base e size v n xs) : ∀ k, v.ownBlock = some k → k < w.heap.size := by
  intro k hk
  rcases h.2 with ⟨hv, _⟩ | ⟨g, cap, cur, hv, hg, hh, _⟩
  · subst hv; cases hk
  · subst hv; cases hk; exact lt_of_heap hh
theorem own_mono {w : World} {base base' n : Nat} {e : TypeId} {size : Nat} {v : Value} {xs : List Value} (h : w.ownsRow base e size v n xs) (hb : base' ≤ base) : w.ownsRow base' e size v n xs := by
  refine ⟨h.1, ?_⟩
  rcases h.2 with h | ⟨g, cap, cur, hv, hg, r⟩
  · exact .inl h
  · exact .inr ⟨g, cap, cur, hv, Nat.le_trans hb hg, r⟩
/-- the numbers of two lists, together -/
def idsA (e : Int) (xs : List ByteArray) : List Nat := In.nums [] (keys e xs)
def idsB (e : Int) (xs ys : List ByteArray) : List Nat := In.nums (In.met [] (keys e xs)) (keys e ys)
def sumB (e : Int) : Bool := decide (0 ≤ e) && decide (e ≤ 15)

set_option maxHeartbeats 2000000 in
theorem ids_any {v u : Value} {xs ys : List ByteArray} {e : Int} {w : World} (hr : Rd w v xs) (hq : Rd w u ys) (hsx : ∀ x ∈ xs, x.size ≤ 140737488355327) (hsy : ∀ x ∈ ys, x.size ≤ 140737488355327) (hn : xs.length + ys.length ≤ 100000000000) (he : sumB e = true) :
    Calls Tryd.prog 4 #[v, u, .int .i64 e] w fun r w' => ∃ v1 v2, r = .returned (.tuple #[v1, v2, .nilIface]) ∧ OwnI w' w.heap.size v1 (idsA e xs) ∧ OwnI w' w.heap.size v2 (idsB e xs ys) ∧ (∀ k, v1.ownBlock = some k → v2.ownBlock ≠ some k) ∧ Below w.heap.size w w' := by
  obtain ⟨a, c, rfl⟩ := hr.shape
  obtain ⟨a', c', rfl⟩ := hq.shape
  have HR := hid hr
  have HQ := hid hq
  have HSX := hid hsx
  have HSY := hid hsy
  unfold sumB at he
  clear hr hq hsx hsy
  go_enter Tryd.func4, Tryd.ntmps4
  go_wp2_with (go_at_call 9; refine (isSum_any _ _).mono ?_; rintro r w2 ⟨rfl, h2⟩; obtain rfl : w = w2 := h2.symm; rw [he])
  refine (numbering_any e w).mono ?_
  rintro r w1 ⟨be, bg, M, rfl, hbe, hbg, hM, hN, hb1⟩
  have HN := hid hN
  clear hN
  unfold NumV
  go_wp2_with fail
  refine (numbers_any (HR.out.below hb1) HSX.out HN.out (by simp; omega)).mono ?_
  rintro r w2 ⟨v1, rfl, hO1, hN2, hg2⟩
  have hM1 := HN.out.2.2.lt
  have hb2 : Below w.heap.size w w2 := hb1.grown hg2 hb1.size (fun k hk => by injection hk with hk; omega)
  have HO1 := hid hO1
  have HN2 := hid hN2
  have hml := In.met_len [] (keys e xs)
  rw [keys_length, List.length_nil, Nat.zero_add] at hml
  have hz2 := hg2.size
  clear hO1 hN2 hg2 HN
  go_wp2_with fail
  refine (numbers_any (HQ.out.below hb2) HSY.out HN2.out (by omega)).mono ?_
  rintro r w3 ⟨v2, rfl, hO2, hN3, hg3⟩
  have hb3 : Below w.heap.size w w3 := hb2.grown hg3 hb2.size (fun k hk => by injection hk with hk; omega)
  have hO1' : OwnI w3 w1.heap.size v1 (In.nums [] (keys e xs)) := World.ownsRow.kept HO1.out hg3 (by
    cases hv : v1.ownBlock with
    | none => exact .inl rfl
    | some k =>
      refine .inr (fun h => ?_)
      injection h with h
      have := own_ge HO1.out k hv
      omega)
  have HF : Hid (OwnI w3 w.heap.size v1 (idsA e xs) ∧ OwnI w3 w.heap.size v2 (idsB e xs ys) ∧ (∀ k, v1.ownBlock = some k → v2.ownBlock ≠ some k) ∧ Below w.heap.size w w3) := hid ⟨own_mono hO1' hb1.size, own_mono hO2 hb2.size, fun k h1 h2 => by
    have := own_lt HO1.out k h1
    have := own_ge hO2 k h2
    omega, hb3⟩
  clear hO1' hO2 hN3 hg3 HO1 HN2
  go_wp2
  go_ret3
  exact ⟨_, _, rfl, HF.out⟩
set_option maxHeartbeats 1000000 in
theorem ids_odd (v u : Value) (e : Int) (w : World) (he : sumB e = false) :
    Calls Tryd.prog 4 #[v, u, .int .i64 e] w fun r w' => r = .returned (.tuple #[.slice none 0 0, .slice none 0 0, .iface 35 (.int .i64 1)]) ∧ w' = w := by
  unfold sumB at he
  go_enter Tryd.func4, Tryd.ntmps4
  go_wp2_with (go_at_call 9; refine (isSum_any _ _).mono ?_; rintro r w2 ⟨rfl, h2⟩; obtain rfl : w = w2 := h2.symm; rw [he])
  go_ret3
  exact ⟨rfl, rfl⟩
end Go.Proofs.YtjjhidojialjoaaDoor
