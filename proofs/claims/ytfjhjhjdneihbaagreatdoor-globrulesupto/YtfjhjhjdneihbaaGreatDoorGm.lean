/-
  The walks of reach and step: the places of a rule's pieces.
-/
import Derived.Test.YtfjhjhjdneihbaaGreatDoorGj
import Derived.Test.YtfjhjhjdneihbaaGreatDoorPh
import Derived.Deep.AppendLies
namespace Go.Proofs.YtfjhjhjdneihbaaGreatDoor
open Go.RowKit

theorem Tryz.infoInt : (Tryz.prog.info? 3).map (fun i => (i.zero, i.size, i.bytes)) = some (some (.int .i64 0), 1, 8) := by kernel_rfl
/-- a row of numbers of the call's own -/
def intC (l : List Nat) : List Value := l.map fun (n : Nat) => Value.int .i64 n
def OwnI (w : World) (B : Nat) (v : Value) (l : List Nat) : Prop := w.ownsRow B 3 1 v l.length (intC l)
theorem OwnI.alloc {w : World} {B : Nat} {v : Value} {l : List Nat} (h : OwnI w B v l) (o : Obj) : OwnI (w.alloc o) B v l := World.ownsRow.alloc h o
theorem OwnI.nil (w : World) (B : Nat) : OwnI w B (.slice none 0 0) [] := World.ownsRow_nil _ _ _ _
theorem OwnI.stays {w w' : World} {B : Nat} {v : Value} {l : List Nat} (h : OwnI w B v l) (hb : Below w.heap.size w w') : OwnI w' B v l := own_stays h hb
/-- append of one number, at a plain region; where the new row lies -/
theorem wpList_append_int {w : World} {ops : Array Oper} {rest : List Oper} {o : Oper} {a : Act} {Q : Exit → Act → World → Prop} (hgd : o.guard = none) (s x : Operand)
    (ho : o.op = .call { callee := .builtin .append, args := #[s, x], argTypes := #[91, 91] }) (B : Nat) (v : Value) (l : List Nat) (hs : a.eval s = v) (hown : OwnI w B v l)
    (ad : Addr) (cp n : Nat) (hx : a.eval x = .slice (some ad) 1 cp) (hy : w.cell? (ad.add 0) = some (.int .i64 n)) (hfit : l.length ≤ 1000000000) (hB : B ≤ w.heap.size)
    (h : ∀ g cap w', OwnI w' B (.slice (some ⟨g, 0, none⟩) (l.length + 1) cap) (l ++ [n]) → w.grownBy w' v.ownBlock → (v.ownBlock = some g ∨ g = w.heap.size) → wpList Tryz.prog ops Q rest (a.put o.dst (.slice (some ⟨g, 0, none⟩) (l.length + 1) cap)) w') : wpList Tryz.prog ops Q (o :: rest) a w := by
  obtain ⟨i0, hi, hz0, hz1, hz2⟩ := info_parts Tryz.infoInt
  refine wpList_append_lies _ hgd s x 91 ho B 3 i0 (.int .i64 0) 1 8 Tryz.underlying91 hi hz0 hz1 hz2 rfl (by decide) v l.length (intC l) hs hown ad 1 cp [.int .i64 n] hx rfl ?_ ?_ (by decide) ?_ ?_ hB w.heap.size rfl ?_
  · intro j u hj
    match j, hj with
    | 0, hj => simp at hj; subst hj; exact hy
  · intro u hu; simp at hu; subst hu; rfl
  · unfold maxLen; omega
  · omega
  · intro g cap w' h2 h3 h4 _
    refine h g cap w' ?_ h3 h4
    unfold OwnI
    rw [List.length_append, show intC (l ++ [n]) = intC l ++ [.int .i64 n] by simp [intC]]
    exact h2
def slLen : Value → Nat
  | .slice _ n _ => n
  | _ => 0
theorem OwnI.shape {w : World} {B : Nat} {v : Value} {l : List Nat} (h : OwnI w B v l) : (l = [] ∧ ∃ a c, v = .slice a 0 c) ∨ ∃ g c, v = .slice (some ⟨g, 0, none⟩) l.length c ∧ ∀ (j n : Nat), l[j]? = some n → w.cell? ⟨g, j, none⟩ = some (.int .i64 n) := by
  have h' := h
  rcases h.2 with ⟨hv, hn⟩ | ⟨g, cap, cur, hv, hg, hh, hcp, _⟩
  · exact .inl ⟨List.length_eq_zero_iff.1 hn, none, 0, hv⟩
  · refine .inr ⟨g, cap, hv, fun j n hj => ?_⟩
    subst hv
    have hjl : j < l.length := by
      rcases Nat.lt_or_ge j l.length with k | k
      · exact k
      · rw [List.getElem?_eq_none k] at hj; cases hj
    have := World.ownsRow.cellAt h' j (by omega)
    rw [this]
    simp [intC, hj]
/-- the pieces of a rule lie there -/
def PcAt (w : World) (b : Nat) (ps : List Pg.Pi) : Prop := ∀ (j : Nat) (q : Pg.Pi), ps[j]? = some q → w.cell? ⟨b, j * 2 + 1, none⟩ = some (.bool q.isNone) ∧ ∀ P, q = some P → ∃ bg, w.cell? ⟨b, j * 2, none⟩ = some (.pointer (some ⟨bg, 0, none⟩)) ∧ GlobAt w bg P
theorem PcAt.later {w w' : World} {b : Nat} {ps : List Pg.Pi} (h : PcAt w b ps) (hl : b < w.heap.size) (hb : Below w.heap.size w w') : PcAt w' b ps := by
  intro j q hj
  obtain ⟨h1, h2⟩ := h j q hj
  refine ⟨(hb.cell (p := ⟨b, j * 2 + 1, none⟩) hl).trans h1, fun P hP => ?_⟩
  obtain ⟨bg, h3, h4⟩ := h2 P hP
  exact ⟨bg, (hb.cell (p := ⟨b, j * 2, none⟩) hl).trans h3, h4.later hb⟩
theorem own_ltI {w : World} {base n : Nat} {e : TypeId} {size : Nat} {v : Value} {xs : List Value} (h : w.ownsRow base e size v n xs) : ∀ k, v.ownBlock = some k → k < w.heap.size := by
  intro k hk
  rcases h.2 with ⟨hv, _⟩ | ⟨g, cap, cur, hv, hg, hh, _⟩
  · subst hv; cases hk
  · subst hv; cases hk; exact lt_of_heap hh
theorem far_box {W w5 : World} {o ob : Obj} {v : Value} {b : Nat} (hg : (W.alloc o).grownBy w5 v.ownBlock) (hB : W.heap[b]? = some ob) (hne : v.ownBlock ≠ some b) : w5.heap[b]? = some ob := by
  have hlt := lt_of_heap hB
  rw [hg.block b (by simp <;> omega) (fun e => hne e.symm)]
  exact (Below.heap_alloc _ _ _ hlt).trans hB
theorem own_max {w : World} {base n : Nat} {e : TypeId} {size : Nat} {v : Value} {xs : List Value} (h : w.ownsRow base e size v n xs) : n ≤ maxLen := by
  rcases h.2 with ⟨_, hn⟩ | ⟨g, cap, cur, hv, hg, hh, hc, hm, _⟩
  · rw [hn]; exact Nat.zero_le _
  · exact Nat.le_trans hc hm
theorem rising_len : ∀ (l : List Nat) (c a : Nat), l.Pairwise (· < ·) → (∀ x ∈ l, c ≤ x ∧ x < a) → c + l.length ≤ max c a
  | [], c, a, _, _ => by simp; omega
  | x :: l, c, a, hp, h => by
    obtain ⟨h1, h2⟩ := List.pairwise_cons.1 hp
    have hx := h x (by simp)
    have := rising_len l (x + 1) a h2 (fun y hy => ⟨h1 y hy, (h y (by simp [hy])).2⟩)
    simp only [List.length_cons]
    omega
theorem fine_room {ps : List Pg.Pi} {nx : List Nat} {c a : Nat} (h : Pg.Fine ps nx c) : nx.length ≤ a ∨ ∃ e, nx.getLast? = some e ∧ a ≤ e := by
  cases hl : nx.getLast? with
  | none => rw [List.getLast?_eq_none_iff] at hl; subst hl; exact .inl (Nat.zero_le _)
  | some e =>
    by_cases ha : a ≤ e
    · exact .inr ⟨e, rfl, ha⟩
    · obtain ⟨b, _, _, _, _, h5⟩ := h.last e hl
      have := rising_len nx 0 a h.rises (fun x hx => ⟨Nat.zero_le _, by have := h5 x hx; omega⟩)
      exact .inl (by omega)
/-- one round of reach -/
theorem reach_end {ps : List Pg.Pi} {pl : List Nat} {a e : Nat} (h : pl.getLast? = some e) (ha : a ≤ e) : Pg.reachL ps pl a = pl := by unfold Pg.reachL; rw [h]; simp [ha]
theorem reach_add {ps : List Pg.Pi} {pl : List Nat} {a : Nat} (h : ∀ e, pl.getLast? = some e → e < a) : Pg.reachL ps pl a = pl ++ Pg.run ps a := by
  unfold Pg.reachL
  cases hl : pl.getLast? with
  | none => rfl
  | some e => have := h e hl; simp; omega
theorem run_many {ps : List Pg.Pi} {a : Nat} (h : ps[a]? = some none) : Pg.run ps a = a :: Pg.run ps (a + 1) := by
  unfold Pg.run
  rw [Pg.drop_some h, Pg.nn, List.range_succ_eq_map, List.map_cons, List.map_map]
  congr 1
  apply List.map_congr_left
  intro x _
  show a + (x + 1) = a + 1 + x
  omega
theorem run_one {ps : List Pg.Pi} {a : Nat} (h : ps[a]? ≠ some none) : Pg.run ps a = [a] := by
  have e := Pg.up_stop h
  unfold Pg.up at e
  have : Pg.nn (ps.drop a) = 0 := by omega
  unfold Pg.run
  rw [this]; rfl
theorem reach_many {ps : List Pg.Pi} {pl : List Nat} {a : Nat} (h : ∀ e, pl.getLast? = some e → e < a) (hm : ps[a]? = some none) : Pg.reachL ps (pl ++ [a]) (a + 1) = Pg.reachL ps pl a := by
  rw [reach_add h, reach_add (fun e he => by simp at he; omega), run_many hm]; simp
theorem reach_one {ps : List Pg.Pi} {pl : List Nat} {a : Nat} (h : ∀ e, pl.getLast? = some e → e < a) (hm : ps[a]? ≠ some none) : Pg.reachL ps (pl ++ [a]) a = Pg.reachL ps pl a := by
  rw [reach_add h, reach_end (e := a) (by simp) (Nat.le_refl _), run_one hm]

set_option maxHeartbeats 4000000 in
set_option maxRecDepth 100000 in
theorem reach_any {b c B : Nat} {ps : List Pg.Pi} {dirs back : Bool} {v : Value} {pl : List Nat} (a : Nat) {w : World} (hP : PcAt w b ps) (hb : b < B) (hB : B ≤ w.heap.size) (hO : OwnI w B v pl) (ha : a ≤ ps.length) (hl : pl.length ≤ a ∨ ∃ e, pl.getLast? = some e ∧ a ≤ e) (hn : ps.length ≤ 100000000) :
    Calls Tryz.prog 42 #[.agg #[.slice (some ⟨b, 0, none⟩) ps.length c, .bool dirs, .bool back], v, .int .i64 a] w fun e w' => ∃ v', e = .returned v' ∧ OwnI w' B v' (Pg.reachL ps pl a) ∧ Below B w w' := by
  have HP := hid hP
  have HL0 := hid hl
  clear hP hl
  go_enter Tryz.func42, Tryz.ntmps42
  have HX0 : Hid ((w.alloc (.cells #[.slice (some ⟨b, 0, none⟩) ps.length c, .bool dirs, .bool back] 46)).heap[w.heap.size]? = some (.cells #[.slice (some ⟨b, 0, none⟩) ps.length c, .bool dirs, .bool back] 46 (0, 0))) := hid (heap_alloc_new _ _)
  have HO0 := hid (hO.alloc (.cells #[.slice (some ⟨b, 0, none⟩) ps.length c, .bool dirs, .bool back] 46))
  have hne0 : v.ownBlock ≠ some w.heap.size := fun e => Nat.lt_irrefl _ (own_ltI hO _ e)
  have hb0 : Below B w (w.alloc (.cells #[.slice (some ⟨b, 0, none⟩) ps.length c, .bool dirs, .bool back] 46)) := (Below.refl _ _).alloc hB _
  clear hO
  go_wp2
  go_loopw [1, 2] (fun t1 t2 wr => ∃ (pl' : List Nat) (a' : Nat), t2 = .int .i64 a' ∧ OwnI wr B t1 pl' ∧ Below B w wr ∧ wr.heap[w.heap.size]? = some (.cells #[.slice (some ⟨b, 0, none⟩) ps.length c, .bool dirs, .bool back] 46 (0, 0)) ∧ t1.ownBlock ≠ some w.heap.size ∧ a' ≤ ps.length ∧ (pl'.length ≤ a' ∨ ∃ e, pl'.getLast? = some e ∧ a' ≤ e) ∧ slLen t1 = pl'.length ∧ Hid (Pg.reachL ps pl' a' = Pg.reachL ps pl a)) (fun t1 _ _ => ps.length + 2 - slLen t1)
  case atStart => exact ⟨pl, a, rfl, HO0.out, hb0, HX0.out, hne0, ha, HL0.out, by obtain ⟨x, y, e, _⟩ := own_shape HO0.out; rw [e]; rfl, hid rfl⟩
  case round =>
    obtain ⟨pl', a', rfl, hO, hbw, hX, hne, ha', hlen, hsl, HE⟩ := hrel
    clear HL0
    have HO := hid hO
    have HX := hid hX
    have hz := hbw.size
    have hz' := Nat.le_trans hB hz
    clear HX0 HO0 hne0 hb0 hX
    by_cases h0 : pl' = []
    · subst h0
      obtain ⟨x, y, hv, _⟩ := own_shape hO
      obtain rfl : _ = Value.slice x 0 y := hv
      clear hO
      have HL : Hid (∀ e, ([] : List Nat).getLast? = some e → e < a') := hid (by simp)
      have hl2 : ([] : List Nat).length ≤ a' := by
        rcases hlen with h | ⟨e, h, h'⟩
        · exact h
        · exact absurd (HL.out _ h) (Nat.not_lt.2 h')
      have hl3 : ([] : List Nat).length ≤ 1000000000 := by omega
      have HY : Hid ((wr.alloc (.cells #[.int .i64 a'] 3)).cell? ((⟨wr.heap.size, 0, none⟩ : Addr).add 0) = some (.int .i64 a')) := hid (by simp [Addr.add])
      have hXl := lt_of_heap HX.out
      have hcb := cell_of_blk HX.out 0
      by_cases hap : a' < ps.length
      · obtain ⟨q, hq⟩ : ∃ q, ps[a']? = some q := ⟨_, List.getElem?_eq_getElem hap⟩
        cases q with
        | none =>
          have HC : Hid (w.cell? ⟨b, a' * 2 + 1, none⟩ = some (.bool true)) := hid (HP.out a' _ hq).1
          have HQ := hid hq
          clear hq
          go_wp2_with (at_builtin; refine wpList_append_int rfl _ _ rfl B _ [] rfl (HO.out.alloc _) ⟨wr.heap.size, 0, none⟩ 1 a' rfl HY.out hl3 (by simp <;> omega) ?_; intro g5 cap5 w5 hown5 hgrow5 hat5; have hX5 := hid (far_box hgrow5 HX.out hne); have hb5 := (hbw.alloc hz' _).grown hgrow5 (by simp <;> omega) (own_ge HO.out); have hcb5 := cell_of_blk hX5.out 0; have hcq5 := (hb5.cell (p := ⟨b, a' * 2 + 1, none⟩) hb).trans HC.out)
          have hne5 : g5 ≠ w.heap.size := by
            rcases hat5 with h | h
            · exact fun e => hne (h.trans (congrArg some e))
            · intro e; simp at h <;> omega
          go_roundw
          case rel => exact ⟨([] : List Nat) ++ [a'], a' + 1, by go_num, hown5, hb5, hX5.out, fun e => hne5 (by simpa [Value.ownBlock] using e), by omega, .inl (by simp <;> omega), by simp [slLen], hid ((reach_many HL.out HQ.out).trans HE.out)⟩
          case measure => simp [slLen] <;> omega
        | some P =>
          have HC : Hid (w.cell? ⟨b, a' * 2 + 1, none⟩ = some (.bool false)) := hid (HP.out a' _ hq).1
          have HQ := hid hq
          clear hq
          go_wp2_with (at_builtin; refine wpList_append_int rfl _ _ rfl B _ [] rfl (HO.out.alloc _) ⟨wr.heap.size, 0, none⟩ 1 a' rfl HY.out hl3 (by simp <;> omega) ?_; intro g5 cap5 w5 hown5 hgrow5 hat5; have hX5 := hid (far_box hgrow5 HX.out hne); have hb5 := (hbw.alloc hz' _).grown hgrow5 (by simp <;> omega) (own_ge HO.out); have hcb5 := cell_of_blk hX5.out 0; have hcq5 := (hb5.cell (p := ⟨b, a' * 2 + 1, none⟩) hb).trans HC.out)
          have hne5 : g5 ≠ w.heap.size := by
            rcases hat5 with h | h
            · exact fun e => hne (h.trans (congrArg some e))
            · intro e; simp at h <;> omega
          go_roundw
          case rel => exact ⟨([] : List Nat) ++ [a'], a', rfl, hown5, hb5, hX5.out, fun e => hne5 (by simpa [Value.ownBlock] using e), by omega, .inr ⟨a', by simp, Nat.le_refl _⟩, by simp [slLen], hid ((reach_one HL.out (by rw [HQ.out]; simp)).trans HE.out)⟩
          case measure => simp [slLen] <;> omega
      · have hno : ps[a']? ≠ some none := by rw [List.getElem?_eq_none (by omega)]; simp
        have HN := hid hno
        have hd : decide ((a' : Int) < (ps.length : Int)) = false := decide_eq_false (by omega)
        clear hno
        go_wp2_with (at_builtin; refine wpList_append_int rfl _ _ rfl B _ [] rfl (HO.out.alloc _) ⟨wr.heap.size, 0, none⟩ 1 a' rfl HY.out hl3 (by simp <;> omega) ?_; intro g5 cap5 w5 hown5 hgrow5 hat5; have hX5 := hid (far_box hgrow5 HX.out hne); have hb5 := (hbw.alloc hz' _).grown hgrow5 (by simp <;> omega) (own_ge HO.out); have hcb5 := cell_of_blk hX5.out 0; skip)
        have hne5 : g5 ≠ w.heap.size := by
          rcases hat5 with h | h
          · exact fun e => hne (h.trans (congrArg some e))
          · intro e; simp at h <;> omega
        go_roundw
        case rel => exact ⟨([] : List Nat) ++ [a'], a', rfl, hown5, hb5, hX5.out, fun e => hne5 (by simpa [Value.ownBlock] using e), by omega, .inr ⟨a', by simp, Nat.le_refl _⟩, by simp [slLen], hid ((reach_one HL.out HN.out).trans HE.out)⟩
        case measure => simp [slLen] <;> omega
    · obtain ⟨m, hm⟩ : ∃ m, pl'.length = m + 1 := ⟨pl'.length - 1, by have := List.length_pos_iff.2 h0; omega⟩
      obtain ⟨e, he⟩ : ∃ e, pl'[m]? = some e := ⟨_, List.getElem?_eq_getElem (by omega)⟩
      have hlast : pl'.getLast? = some e := by rw [List.getLast?_eq_getElem?, hm]; simpa using he
      rcases OwnI.shape hO with ⟨h, _⟩ | ⟨g, cp, hv, hcells⟩
      · exact absurd h h0
      · rw [hm] at hv
        subst hv
        have hce := hcells m e he
        have HLast := hid hlast
        have hmx : m + 1 ≤ 9223372036854775807 := by
          have := own_max HO.out
          rw [hm] at this
          unfold maxLen at this
          omega
        clear hcells he hlast h0 hO
        by_cases hea : a' ≤ e
        · have HR := hid ((reach_end (ps := ps) HLast.out hea).symm.trans HE.out)
          have hea' : ¬ (e : Int) < (a' : Int) := by omega
          clear hlen hsl
          go_wp2
          go_ret
          exact ⟨_, rfl, by rw [← HR.out]; exact HO.out, hbw⟩
        · have hea' : (e : Int) < (a' : Int) := by omega
          have HL : Hid (∀ e, pl'.getLast? = some e → e < a') := hid (fun x hx => by rw [HLast.out] at hx; cases hx; omega)
          have hl2 : pl'.length ≤ a' := by
            rcases hlen with h | ⟨e, h, h'⟩
            · exact h
            · exact absurd (HL.out _ h) (Nat.not_lt.2 h')
          have hl3 : pl'.length ≤ 1000000000 := by omega
          have HY : Hid ((wr.alloc (.cells #[.int .i64 a'] 3)).cell? ((⟨wr.heap.size, 0, none⟩ : Addr).add 0) = some (.int .i64 a')) := hid (by simp [Addr.add])
          have hXl := lt_of_heap HX.out
          have hcb := cell_of_blk HX.out 0
          by_cases hap : a' < ps.length
          · obtain ⟨q, hq⟩ : ∃ q, ps[a']? = some q := ⟨_, List.getElem?_eq_getElem hap⟩
            cases q with
            | none =>
              have HC : Hid (w.cell? ⟨b, a' * 2 + 1, none⟩ = some (.bool true)) := hid (HP.out a' _ hq).1
              have HQ := hid hq
              clear hq
              go_wp2_with (at_builtin; refine wpList_append_int rfl _ _ rfl B _ pl' rfl (HO.out.alloc _) ⟨wr.heap.size, 0, none⟩ 1 a' rfl HY.out hl3 (by simp <;> omega) ?_; intro g5 cap5 w5 hown5 hgrow5 hat5; have hX5 := hid (far_box hgrow5 HX.out hne); have hb5 := (hbw.alloc hz' _).grown hgrow5 (by simp <;> omega) (own_ge HO.out); have hcb5 := cell_of_blk hX5.out 0; have hcq5 := (hb5.cell (p := ⟨b, a' * 2 + 1, none⟩) hb).trans HC.out)
              have hne5 : g5 ≠ w.heap.size := by
                rcases hat5 with h | h
                · exact fun e => hne (h.trans (congrArg some e))
                · intro e; simp at h <;> omega
              go_roundw
              case rel => exact ⟨pl' ++ [a'], a' + 1, by go_num, (by rw [← hm]; exact hown5), hb5, hX5.out, fun e => hne5 (by simpa [Value.ownBlock] using e), by omega, .inl (by simp <;> omega), by simp [slLen, hm], hid ((reach_many HL.out HQ.out).trans HE.out)⟩
              case measure => simp [slLen] <;> omega
            | some P =>
              have HC : Hid (w.cell? ⟨b, a' * 2 + 1, none⟩ = some (.bool false)) := hid (HP.out a' _ hq).1
              have HQ := hid hq
              clear hq
              go_wp2_with (at_builtin; refine wpList_append_int rfl _ _ rfl B _ pl' rfl (HO.out.alloc _) ⟨wr.heap.size, 0, none⟩ 1 a' rfl HY.out hl3 (by simp <;> omega) ?_; intro g5 cap5 w5 hown5 hgrow5 hat5; have hX5 := hid (far_box hgrow5 HX.out hne); have hb5 := (hbw.alloc hz' _).grown hgrow5 (by simp <;> omega) (own_ge HO.out); have hcb5 := cell_of_blk hX5.out 0; have hcq5 := (hb5.cell (p := ⟨b, a' * 2 + 1, none⟩) hb).trans HC.out)
              have hne5 : g5 ≠ w.heap.size := by
                rcases hat5 with h | h
                · exact fun e => hne (h.trans (congrArg some e))
                · intro e; simp at h <;> omega
              go_roundw
              case rel => exact ⟨pl' ++ [a'], a', rfl, (by rw [← hm]; exact hown5), hb5, hX5.out, fun e => hne5 (by simpa [Value.ownBlock] using e), by omega, .inr ⟨a', by simp, Nat.le_refl _⟩, by simp [slLen, hm], hid ((reach_one HL.out (by rw [HQ.out]; simp)).trans HE.out)⟩
              case measure => simp [slLen] <;> omega
          · have hno : ps[a']? ≠ some none := by rw [List.getElem?_eq_none (by omega)]; simp
            have HN := hid hno
            have hd : decide ((a' : Int) < (ps.length : Int)) = false := decide_eq_false (by omega)
            clear hno
            go_wp2_with (at_builtin; refine wpList_append_int rfl _ _ rfl B _ pl' rfl (HO.out.alloc _) ⟨wr.heap.size, 0, none⟩ 1 a' rfl HY.out hl3 (by simp <;> omega) ?_; intro g5 cap5 w5 hown5 hgrow5 hat5; have hX5 := hid (far_box hgrow5 HX.out hne); have hb5 := (hbw.alloc hz' _).grown hgrow5 (by simp <;> omega) (own_ge HO.out); have hcb5 := cell_of_blk hX5.out 0; skip)
            have hne5 : g5 ≠ w.heap.size := by
              rcases hat5 with h | h
              · exact fun e => hne (h.trans (congrArg some e))
              · intro e; simp at h <;> omega
            go_roundw
            case rel => exact ⟨pl' ++ [a'], a', rfl, (by rw [← hm]; exact hown5), hb5, hX5.out, fun e => hne5 (by simpa [Value.ownBlock] using e), by omega, .inr ⟨a', by simp, Nat.le_refl _⟩, by simp [slLen, hm], hid ((reach_one HL.out HN.out).trans HE.out)⟩
            case measure => simp [slLen] <;> omega
end Go.Proofs.YtfjhjhjdneihbaaGreatDoor
