/-
  Several texts in one: Kv, Ky, Kz, Kw.
-/
import Derived.Test.YtkolgglllladfaaGreatDoorU4
import Derived.Test.YtkolgglllladfaaGreatDoorFs
import Derived.Test.YtkolgglllladfaaGreatDoorGrC
import Derived.Test.YtkolgglllladfaaGreatDoorGrJ3
import Derived.SizedLaws
import Derived.Test.YtkolgglllladfaaGreatDoorGrPv
/-
  Unified diffs, plain: how many hunks are read, how large they are. (For the laws that don't speak of the document's Parse.)
-/
namespace Go.Proofs.YtkolgglllladfaaGreatDoor.Ub
open Go.RowKit
open Hu (Rw Hk)

theorem bB_size (l : Un.Bs) : (bB l).size = l.length := by rw [← dsize, bB_data]
theorem pre_le {p s r : Un.Bs} (h : Un.pre p s = some r) : r.length ≤ s.length := by rw [Un.pre_some.1 h]; simp
section
open Un
theorem lns_le (s : Bs) : (lns s).length ≤ s.length := lns_len _ s (Nat.le_refl _)
theorem lns_ok {s x : Bs} (h : x ∈ lns s) : (∃ p, x = p ++ [10] ∧ (10 : UInt8) ∉ p) ∧ x.length ≤ s.length + 1 := lns_line _ s (Nat.le_refl _) x h
theorem flat_le : ∀ (n : Nat) (s : Bs), s.length ≤ n → (lns s).flatten.length ≤ s.length + 1
  | 0, s, h => by
    have : s = [] := List.length_eq_zero_iff.1 (by omega)
    subst this; exact Nat.zero_le _
  | n + 1, s, h => by
    by_cases e : s = []
    · subst e; exact Nat.zero_le _
    · rw [lns_cons e, List.flatten_cons, List.length_append]
      have h1 := adv_lt e
      by_cases e2 : adv s = []
      · have : lns (s.drop (Go.Proofs.YtkolgglllladfaaGreatDoor.Pl.fl s)) = [] := by show lns (adv s) = []; rw [e2]; rfl
        rw [this]
        have := nx_size s
        simp; omega
      · have h2 := flat_le n (adv s) (by omega)
        have h3 : (lns (s.drop (Go.Proofs.YtkolgglllladfaaGreatDoor.Pl.fl s))).flatten.length ≤ (adv s).length + 1 := h2
        have h4 : (nx s).length ≤ Go.Proofs.YtkolgglllladfaaGreatDoor.Pl.fl s := by
          have := nx_len s
          have h5 : Go.Proofs.YtkolgglllladfaaGreatDoor.Pl.fl s < s.length := by
            unfold adv at e2
            rcases Nat.lt_or_ge (Go.Proofs.YtkolgglllladfaaGreatDoor.Pl.fl s) s.length with h' | h'
            · exact h'
            · exact absurd (List.drop_of_length_le h') e2
          omega
        have h5 : (adv s).length = s.length - Go.Proofs.YtkolgglllladfaaGreatDoor.Pl.fl s := by unfold adv; rw [List.length_drop]
        have h6 := Go.Proofs.YtkolgglllladfaaGreatDoor.Pl.fl_le s
        omega
end
theorem hunksF_few : ∀ (f : Nat) (ls : List Un.Bs) (c : Nat) (acc hs : List Hk) (c' : Nat), Un.hunksF f ls c acc = .ok hs c' → hs.length ≤ acc.length + ls.length
  | 0, _, _, _, _, _, h => by rw [Un.hunksF] at h; cases h
  | _ + 1, [], c, acc, hs, c', h => by
    rw [Un.hunksF] at h
    rw [(Un.fin_ok h).1]
    exact Nat.le_add_right _ _
  | f + 1, x :: ls, c, acc, hs, c', h => by
    rw [Un.hunksF] at h
    rw [List.length_cons]
    split at h
    · split at h
      · cases h
      · rename_i p _
        split at h
        · cases h
        · rename_i rows ls' c2 hr
          split at h
          · split at h
            · have h2 := (Un.rowsP_drop _ _ _ _ _ _ _ _ (Nat.le_refl _) hr).2
              have h3 := hunksF_few f ls' c2 _ hs c' h
              rw [List.length_append, List.length_singleton] at h3
              have h4 : ls'.length ≤ ls.length := by rw [h2, List.length_drop]; omega
              omega
            · cases h
          · cases h
    · rw [(Un.fin_ok h).1]
      omega
theorem hunksF_sz : ∀ (f : Nat) (ls : List Un.Bs) (c : Nat) (acc hs : List Hk) (c' : Nat), (∀ x ∈ ls, x.length ≤ 4194305) → ls.length ≤ 4194305 → (∀ h ∈ acc, SzH h) → Un.hunksF f ls c acc = .ok hs c' → ∀ h ∈ hs, SzH h
  | 0, _, _, _, _, _, _, _, _, h => by rw [Un.hunksF] at h; cases h
  | _ + 1, [], c, acc, hs, c', _, _, ha, h => by
    rw [Un.hunksF] at h
    rw [← (Un.fin_ok h).1]
    exact ha
  | f + 1, x :: ls, c, acc, hs, c', hx, hl, ha, h => by
    rw [Un.hunksF] at h
    split at h
    · split at h
      · cases h
      · rename_i p hp
        split at h
        · cases h
        · rename_i rows ls' c2 hr
          split at h
          · split at h
            · have h2 := (Un.rowsP_drop _ _ _ _ _ _ _ _ (Nat.le_refl _) hr).2
              have h3 := rows_le _ _ _ _ _ _ _ _ 4194305 (Nat.le_refl _) (fun z hz => hx z (List.mem_cons_of_mem _ hz)) hr
              rw [List.length_cons] at hl
              have h4 := place_head hp
              have h5 := bare_le x
              have h6 := hx x List.mem_cons_self
              refine hunksF_sz f ls' c2 _ hs c' (fun z hz => hx z (List.mem_cons_of_mem _ (by rw [h2] at hz; exact List.mem_of_mem_drop hz))) (by rw [h2, List.length_drop]; omega) (fun g hg => ?_) h
              rcases List.mem_append.1 hg with hg | hg
              · exact ha g hg
              · rw [List.mem_singleton.1 hg]
                unfold SzH Un.mkHk
                refine ⟨?_, ?_, ?_⟩
                · show (rows.map Un.toR).length < _
                  rw [List.length_map]
                  omega
                · intro r hr'
                  obtain ⟨q, hq, rfl⟩ := List.mem_map.1 hr'
                  have := h3.2 q hq
                  show (bB q.2).size ≤ _
                  rw [← dsize, bB_data]
                  unfold maxLen
                  omega
                · show (bB p.head).size ≤ _
                  rw [← dsize, bB_data]
                  unfold maxLen
                  omega
            · cases h
          · cases h
    · rw [← (Un.fin_ok h).1]
      exact ha
theorem parse_hunks {s : Un.Bs} {o q : Un.Bs × Un.Bs} {hs : List Hk} {rest : Un.Bs} (h : Un.parse s = .ok o q hs rest) : s.length ≤ 4194304 ∧ ∃ c', Un.hunksF (s.length + 1) (Un.lns (Un.advN 2 s)) 3 [] = .ok hs c' := by
  unfold Un.parse at h
  split at h
  · cases h
  · rename_i hlen
    split at h
    · cases h
    · split at h
      · cases h
      · split at h
        · cases h
        · rename_i hs2 c2 he
          cases h
          exact ⟨by omega, c2, he⟩
theorem advN_le : ∀ (k : Nat) (s : Un.Bs), (Un.advN k s).length ≤ s.length
  | 0, _ => Nat.le_refl _
  | k + 1, s => Nat.le_trans (advN_le k (Un.adv s)) (Un.adv_len s)
theorem parse_few {s : Un.Bs} {o q : Un.Bs × Un.Bs} {hs : List Hk} {rest : Un.Bs} (h : Un.parse s = .ok o q hs rest) : hs.length ≤ 4194304 := by
  obtain ⟨h1, c', h2⟩ := parse_hunks h
  have h3 := hunksF_few _ _ _ _ _ _ h2
  have h4 := lns_le (Un.advN 2 s)
  have h5 := advN_le 2 s
  simp at h3
  omega
theorem parse_sz {s : Un.Bs} {o q : Un.Bs × Un.Bs} {hs : List Hk} {rest : Un.Bs} (h : Un.parse s = .ok o q hs rest) : ∀ h ∈ hs, SzH h := by
  obtain ⟨h1, c', h2⟩ := parse_hunks h
  have h4 := lns_le (Un.advN 2 s)
  have h5 := advN_le 2 s
  exact hunksF_sz _ _ _ _ _ _ (fun x hx => by have := (lns_ok hx).2; omega) (by omega) (fun h hh => by cases hh) h2
end Go.Proofs.YtkolgglllladfaaGreatDoor.Ub
/-
  A list of hunks as an argument, by its bulk: each byte of it counts. (Made by wip/genky.py out of Kk.)
-/
namespace Go.Proofs.YtkolgglllladfaaGreatDoor.Ub
open Go.RowKit Go.Deep Go.ChangeShapes Go.WideShapes Go.ChangeAt
open Hu (Rw Hk)

instance : Inhabited Rw := ⟨⟨0, .empty⟩⟩
instance : Inhabited (Hk × Value) := ⟨(⟨0, 0, 0, 0, .empty, []⟩, .int .i64 0)⟩
def ArgS (v : Value) : Prop := v = .slice none 0 0 ∨ ∃ ad n c, v = .slice (some ad) n c
def ArgH (w : World) (v : Value) (n : Nat) : Prop := ∀ b o m c, v = .slice (some ⟨b, o, none⟩) m c → ∀ k < n, ∀ u, w.cell? ⟨b, o + k * 6 + 5, none⟩ = some u → ArgS u
/-- the numbers of a hunk are ints -/
def WfH (h : Hk) : Prop := I64 h.a ∧ I64 h.n ∧ I64 h.b ∧ I64 h.m ∧ (∀ r ∈ h.rows, I64 r.k)
theorem rwsC_back {l : List Rw} {j : Nat} {u : Value} (h : (rwsC l)[j]? = some u) : ∃ k i c, j = k * 2 + i ∧ i < 2 ∧ l[k]? = some c ∧ (rwC c)[i]? = some u := by
  have hj : j < l.length * 2 := by
    rw [← rwsC_length]
    rcases Nat.lt_or_ge j (rwsC l).length with q | q
    · exact q
    · rw [List.getElem?_eq_none q] at h; cases h
  have hk : j / 2 < l.length := by omega
  obtain ⟨c, hc⟩ : ∃ c, l[j / 2]? = some c := ⟨_, List.getElem?_eq_getElem hk⟩
  refine ⟨j / 2, j % 2, c, by omega, by omega, hc, ?_⟩
  rw [← rwsC_get hc (j % 2) (by omega), show j / 2 * 2 + j % 2 = j by omega]
  exact h
theorem hksC_back {l : List (Hk × Value)} {j : Nat} {u : Value} (h : (hksC l)[j]? = some u) : ∃ k i c, j = k * 6 + i ∧ i < 6 ∧ l[k]? = some c ∧ (hkC c)[i]? = some u := by
  have hj : j < l.length * 6 := by
    rw [← hksC_length]
    rcases Nat.lt_or_ge j (hksC l).length with q | q
    · exact q
    · rw [List.getElem?_eq_none q] at h; cases h
  have hk : j / 6 < l.length := by omega
  obtain ⟨c, hc⟩ : ∃ c, l[j / 6]? = some c := ⟨_, List.getElem?_eq_getElem hk⟩
  refine ⟨j / 6, j % 6, c, by omega, by omega, hc, ?_⟩
  rw [← hksC_get hc (j % 6) (by omega), show j / 6 * 6 + j % 6 = j by omega]
  exact h
/-- how much rows are, byte by byte -/
def rwW : List Rw → Nat
  | [] => 0
  | r :: l => 1 + r.t.size + rwW l
def hkW : List Hk → Nat
  | [] => 0
  | h :: l => 1 + h.head.size + rwW h.rows + hkW l
theorem rwW_sum {H : Type} (f : Nat → Rw) (D : Nat → DataW H) : ∀ is : List Nat, (∀ i ∈ is, 1 + (f i).t.size ≤ Rows.uptoBulk (D i)) → rwW (is.map f) ≤ Rows.uptoBulkAll (is.map D)
  | [], _ => Nat.zero_le _
  | i :: is, h => by
    have h1 := h i List.mem_cons_self
    have h2 := rwW_sum f D is (fun k hk => h k (List.mem_cons_of_mem _ hk))
    show 1 + (f i).t.size + rwW (is.map f) ≤ Rows.uptoBulk (D i) + Rows.uptoBulkAll (is.map D)
    omega
theorem hkW_sum {H : Type} (f : Nat → Hk × Value) (D : Nat → DataW H) : ∀ is : List Nat, (∀ i ∈ is, 1 + (f i).1.head.size + rwW (f i).1.rows ≤ Rows.uptoBulk (D i)) → hkW ((is.map f).map Prod.fst) ≤ Rows.uptoBulkAll (is.map D)
  | [], _ => Nat.zero_le _
  | i :: is, h => by
    have h1 := h i List.mem_cons_self
    have h2 := hkW_sum f D is (fun k hk => h k (List.mem_cons_of_mem _ hk))
    show 1 + (f i).1.head.size + rwW (f i).1.rows + hkW ((is.map f).map Prod.fst) ≤ Rows.uptoBulk (D i) + Rows.uptoBulkAll (is.map D)
    omega
set_option maxRecDepth 100000 in
theorem open_rw {H : Type} {enc : TypeId × Value → H} {W : World} {n : Nat} {a : Addr} {D : DataW H} {Pl : List MemPlace} {cs : List Value} (h1 : W.cells? 0 a 2 = some cs) (h2 : DataW.trod enc Tryz.prog W 0 (fun _ => true) true n 57 cs = some (D, Pl)) :
    ∃ c : Rw, (I64 c.k ∧ c.t.size ≤ maxLen ∧ 1 + c.t.size ≤ Rows.uptoBulk D) ∧ W.cell? (a.add 0) = some (.int .i64 c.k) ∧ W.cell? (a.add 1) = some (.string c.t) := by
  obtain ⟨_, hlen, hcell⟩ := World.cells?_some h1
  obtain ⟨xs, k, hk, hxy, _, hxl, hf⟩ := DataW.trod_struct Tryz.underlying57 h2
  have hc1 : Tryz.prog.cellsOf 3 = 1 := by kernel_rfl
  have hc2 : Tryz.prog.cellsOf 9 = 1 := by kernel_rfl
  match cs, hlen with
  | [v0, v1], _ =>
    match xs, hxl with
    | [y0, y1], _ =>
      have g0 : DataW.trod enc Tryz.prog W 0 (fun _ => true) true k 3 (([v0, v1].drop 0).take (Tryz.prog.cellsOf 3)) = some y0 := hf 0 _ rfl
      rw [hc1] at g0
      have g1 : DataW.trod enc Tryz.prog W 0 (fun _ => true) true k 9 (([v0, v1].drop 1).take (Tryz.prog.cellsOf 9)) = some y1 := hf 1 _ rfl
      rw [hc2] at g1
      obtain ⟨x0, e0, _, w0⟩ := DataW.trod_int Tryz.underlying3 (show DataW.trod enc Tryz.prog W 0 (fun _ => true) true k 3 [v0] = some y0 from g0)
      obtain ⟨x1, e1, d1, w1⟩ := DataW.trod_string Tryz.underlying9 (show DataW.trod enc Tryz.prog W 0 (fun _ => true) true k 9 [v1] = some y1 from g1)
      cases e0
      cases e1
      have hD : D = _ := congrArg Prod.fst hxy
      refine ⟨⟨x0, x1⟩, ⟨wf_I64 w0, w1, ?_⟩, hcell 0 (by omega), hcell 1 (by omega)⟩
      subst d1
      rw [hD]
      have hl : x1.data.toList.length = x1.size := Array.length_toList
      simp only [List.map_cons, List.map_nil, Rows.uptoBulk, Rows.uptoBulkAll, hl]
      omega
theorem open_rws {H : Type} {enc : TypeId × Value → H} {W : World} {u : Value} {x : DataW H × List MemPlace} {fuel : Nat}
    (hf : DataW.trod enc Tryz.prog W 0 (fun _ => true) true fuel 35 [u] = some x) :
    ∃ l : List Rw, RdW W u l ∧ (∀ c ∈ l, I64 c.k ∧ c.t.size ≤ maxLen) ∧ ArgS u ∧ rwW l ≤ Rows.uptoBulk x.1 := by
  have hc4 : Tryz.prog.cellsOf 57 = 2 := by kernel_rfl
  rcases open_slice Tryz.underlying35 hf with ⟨hcs, hx⟩ | ⟨a, len0, cap0, m, n, D, Pl, hcs, _, hl, _, hmm, hx, hcl⟩
  · simp at hcs
    subst hcs
    subst hx
    exact ⟨[], .inl ⟨rfl, none, 0, rfl⟩, by simp, .inl rfl, Nat.zero_le _⟩
  · simp at hcs
    subst hcs
    have hd := congrArg Prod.fst hx
    have hlm : len0 ≤ m := by simp at hmm; omega
    rw [hc4] at hcl
    obtain ⟨f, hf'⟩ := choose_lt (n := len0) (p := fun i (c : Rw) => (I64 c.k ∧ c.t.size ≤ maxLen ∧ 1 + c.t.size ≤ Rows.uptoBulk (D i)) ∧ W.cell? ((a.add (i * 2)).add 0) = some (.int .i64 c.k) ∧ W.cell? ((a.add (i * 2)).add 1) = some (.string c.t)) (fun i hi => by
      obtain ⟨cs', h1, h2⟩ := hcl i (by omega)
      exact open_rw h1 h2)
    have hlen : ((List.range len0).map f).length = len0 := by simp
    refine ⟨(List.range len0).map f, ?_, ?_, .inr ⟨_, _, _, rfl⟩, ?_⟩
    · by_cases h0 : len0 = 0
      · subst h0
        exact .inl ⟨rfl, some a, cap0, rfl⟩
      · have hfirst := (hf' 0 (by omega)).2.1
        have e00 : (a.add (0 * 2)).add 0 = a := by simp [Addr.add]
        rw [e00] at hfirst
        obtain ⟨b, o, rfl, hb⟩ := addr_none4 hfirst
        refine .inr ⟨b, o, cap0, by rw [hlen], by rw [hlen]; exact hl, hb, fun j u hj => ?_⟩
        obtain ⟨k, i, c, rfl, hi, hk, hu⟩ := rwsC_back hj
        have hkl : k < len0 := by
          rcases Nat.lt_or_ge k len0 with q | q
          · exact q
          · rw [List.getElem?_eq_none (by rw [hlen]; exact q)] at hk; cases hk
        have hfk : c = f k := by
          rw [List.getElem?_map, List.getElem?_range hkl] at hk
          simpa using hk.symm
        subst hfk
        obtain ⟨_, c0, c1⟩ := hf' k hkl
        rw [Go.WideShapes.add_plain, Go.WideShapes.add_plain] at c0 c1
        match i, hi with
        | 0, _ => cases hu; exact c0
        | 1, _ => cases hu; rw [← Nat.add_assoc]; exact c1
    · intro c hc
      obtain ⟨i, hi, rfl⟩ := List.mem_map.1 hc
      exact ⟨(hf' i (List.mem_range.1 hi)).1.1, (hf' i (List.mem_range.1 hi)).1.2.1⟩
    · have h9 := rwW_sum f D (List.range len0) (fun i hi => (hf' i (List.mem_range.1 hi)).1.2.2)
      rw [hd]
      simp only [Rows.uptoBulk]
      omega

set_option maxRecDepth 100000 in
theorem open_hk {H : Type} {enc : TypeId × Value → H} {W : World} {n : Nat} {a : Addr} {D : DataW H} {Pl : List MemPlace} {cs : List Value} (h1 : W.cells? 0 a 6 = some cs) (h2 : DataW.trod enc Tryz.prog W 0 (fun _ => true) true n 37 cs = some (D, Pl)) :
    ∃ q : Hk × Value, (WfH q.1 ∧ (∀ r ∈ q.1.rows, r.t.size ≤ maxLen) ∧ q.1.head.size ≤ maxLen ∧ RdW W q.2 q.1.rows ∧ ArgS q.2 ∧ 1 + q.1.head.size + rwW q.1.rows ≤ Rows.uptoBulk D) ∧ W.cell? (a.add 0) = some (.int .i64 q.1.a) ∧ W.cell? (a.add 1) = some (.int .i64 q.1.n) ∧ W.cell? (a.add 2) = some (.int .i64 q.1.b) ∧ W.cell? (a.add 3) = some (.int .i64 q.1.m) ∧ W.cell? (a.add 4) = some (.string q.1.head) ∧ W.cell? (a.add 5) = some q.2 := by
  obtain ⟨_, hlen, hcell⟩ := World.cells?_some h1
  obtain ⟨xs, k, hk, hxy, _, hxl, hf⟩ := DataW.trod_struct Tryz.underlying37 h2
  have hc1 : Tryz.prog.cellsOf 3 = 1 := by kernel_rfl
  have hc2 : Tryz.prog.cellsOf 9 = 1 := by kernel_rfl
  have hc3 : Tryz.prog.cellsOf 35 = 1 := by kernel_rfl
  match cs, hlen with
  | [v0, v1, v2, v3, v4, v5], _ =>
    match xs, hxl with
    | [y0, y1, y2, y3, y4, y5], _ =>
      have g0 : DataW.trod enc Tryz.prog W 0 (fun _ => true) true k 3 (([v0, v1, v2, v3, v4, v5].drop 0).take (Tryz.prog.cellsOf 3)) = some y0 := hf 0 _ rfl
      rw [hc1] at g0
      have g1 : DataW.trod enc Tryz.prog W 0 (fun _ => true) true k 3 (([v0, v1, v2, v3, v4, v5].drop 1).take (Tryz.prog.cellsOf 3)) = some y1 := hf 1 _ rfl
      rw [hc1] at g1
      have g2 : DataW.trod enc Tryz.prog W 0 (fun _ => true) true k 3 (([v0, v1, v2, v3, v4, v5].drop 2).take (Tryz.prog.cellsOf 3)) = some y2 := hf 2 _ rfl
      rw [hc1] at g2
      have g3 : DataW.trod enc Tryz.prog W 0 (fun _ => true) true k 3 (([v0, v1, v2, v3, v4, v5].drop 3).take (Tryz.prog.cellsOf 3)) = some y3 := hf 3 _ rfl
      rw [hc1] at g3
      have g4 : DataW.trod enc Tryz.prog W 0 (fun _ => true) true k 9 (([v0, v1, v2, v3, v4, v5].drop 4).take (Tryz.prog.cellsOf 9)) = some y4 := hf 4 _ rfl
      rw [hc2] at g4
      have g5 : DataW.trod enc Tryz.prog W 0 (fun _ => true) true k 35 (([v0, v1, v2, v3, v4, v5].drop 5).take (Tryz.prog.cellsOf 35)) = some y5 := hf 5 _ rfl
      rw [hc3] at g5
      obtain ⟨x0, e0, _, w0⟩ := DataW.trod_int Tryz.underlying3 (show DataW.trod enc Tryz.prog W 0 (fun _ => true) true k 3 [v0] = some y0 from g0)
      obtain ⟨x1, e1, _, w1⟩ := DataW.trod_int Tryz.underlying3 (show DataW.trod enc Tryz.prog W 0 (fun _ => true) true k 3 [v1] = some y1 from g1)
      obtain ⟨x2, e2, _, w2⟩ := DataW.trod_int Tryz.underlying3 (show DataW.trod enc Tryz.prog W 0 (fun _ => true) true k 3 [v2] = some y2 from g2)
      obtain ⟨x3, e3, _, w3⟩ := DataW.trod_int Tryz.underlying3 (show DataW.trod enc Tryz.prog W 0 (fun _ => true) true k 3 [v3] = some y3 from g3)
      obtain ⟨x4, e4, d4, w4⟩ := DataW.trod_string Tryz.underlying9 (show DataW.trod enc Tryz.prog W 0 (fun _ => true) true k 9 [v4] = some y4 from g4)
      obtain ⟨l, hr, hw, hA, hd⟩ := open_rws (show DataW.trod enc Tryz.prog W 0 (fun _ => true) true k 35 [v5] = some y5 from g5)
      cases e0
      cases e1
      cases e2
      cases e3
      cases e4
      have hD : D = _ := congrArg Prod.fst hxy
      have hl : x4.data.toList.length = x4.size := Array.length_toList
      refine ⟨(⟨x0, x1, x2, x3, x4, l⟩, v5), ⟨⟨wf_I64 w0, wf_I64 w1, wf_I64 w2, wf_I64 w3, fun r hr => (hw r hr).1⟩, fun r hr => (hw r hr).2, w4, hr, hA, ?_⟩, hcell 0 (by omega), hcell 1 (by omega), hcell 2 (by omega), hcell 3 (by omega), hcell 4 (by omega), hcell 5 (by omega)⟩
      subst d4
      rw [hD]
      simp only [List.map_cons, List.map_nil, Rows.uptoBulk, Rows.uptoBulkAll, hl]
      show 1 + x4.size + rwW l ≤ _
      omega
theorem open_hks {H : Type} {enc : TypeId × Value → H} {W : World} {v : Value} {d : DataW H} {p : List MemPlace}
    (hv : ∃ a len cap, v = .slice a len cap) (h : DataW.Trod enc Tryz.prog W 0 (fun _ => true) true 24 v d p) :
    ∃ l : List Hk, RdH W v l ∧ (∀ c ∈ l, WfH c ∧ (∀ r ∈ c.rows, r.t.size ≤ maxLen) ∧ c.head.size ≤ maxLen) ∧ hkW l ≤ Rows.uptoBulk d ∧ ArgH W v l.length ∧ ArgS v := by
  obtain ⟨a0, len0, cap0, rfl⟩ := hv
  obtain ⟨fuel, hf⟩ := h
  have hc4 : Tryz.prog.cellsOf 37 = 6 := by kernel_rfl
  rcases open_slice Tryz.underlying24 hf with ⟨hcs, hx⟩ | ⟨a, len, cap, m, n, D, Pl, hcs, _, hl, _, hmm, hx, hcl⟩
  · simp [Value.cells] at hcs hx
    obtain ⟨rfl, rfl, rfl⟩ := hcs
    obtain ⟨rfl, rfl⟩ := hx
    exact ⟨[], ⟨[], rfl, .inl ⟨rfl, none, 0, rfl⟩, by simp⟩, by simp, Nat.zero_le _, (fun b o m c e => by cases e), .inl rfl⟩
  · simp [Value.cells] at hcs
    obtain ⟨rfl, rfl, rfl⟩ := hcs
    obtain ⟨hd, _⟩ := Prod.mk.inj hx
    have hlm : len0 ≤ m := by simp at hmm; omega
    rw [hc4] at hcl
    obtain ⟨f, hf'⟩ := choose_lt (n := len0) (p := fun i (q : Hk × Value) => (WfH q.1 ∧ (∀ r ∈ q.1.rows, r.t.size ≤ maxLen) ∧ q.1.head.size ≤ maxLen ∧ RdW W q.2 q.1.rows ∧ ArgS q.2 ∧ 1 + q.1.head.size + rwW q.1.rows ≤ Rows.uptoBulk (D i)) ∧ W.cell? ((a.add (i * 6)).add 0) = some (.int .i64 q.1.a) ∧ W.cell? ((a.add (i * 6)).add 1) = some (.int .i64 q.1.n) ∧ W.cell? ((a.add (i * 6)).add 2) = some (.int .i64 q.1.b) ∧ W.cell? ((a.add (i * 6)).add 3) = some (.int .i64 q.1.m) ∧ W.cell? ((a.add (i * 6)).add 4) = some (.string q.1.head) ∧ W.cell? ((a.add (i * 6)).add 5) = some q.2) (fun i hi => by
      obtain ⟨cs', h1, h2⟩ := hcl i (by omega)
      exact open_hk h1 h2)
    have hlen : ((List.range len0).map f).length = len0 := by simp
    have hlen2 : (((List.range len0).map f).map Prod.fst).length = len0 := by simp
    have hat : ∀ k q, ((List.range len0).map f)[k]? = some q → k < len0 ∧ q = f k := by
      intro k q hk
      have hkl : k < len0 := by
        rcases Nat.lt_or_ge k len0 with q | q
        · exact q
        · rw [List.getElem?_eq_none (by rw [hlen]; exact q)] at hk; cases hk
      rw [List.getElem?_map, List.getElem?_range hkl] at hk
      exact ⟨hkl, by simpa using hk.symm⟩
    refine ⟨((List.range len0).map f).map Prod.fst, ⟨(List.range len0).map f, rfl, ?_, ?_⟩, ?_, ?_, ?_, .inr ⟨_, _, _, rfl⟩⟩
    · rw [hlen2]
      by_cases h0 : len0 = 0
      · subst h0
        exact .inl ⟨rfl, some a, cap0, rfl⟩
      · have hfirst := (hf' 0 (by omega)).2.1
        have e00 : (a.add (0 * 6)).add 0 = a := by simp [Addr.add]
        rw [e00] at hfirst
        obtain ⟨b, o, rfl, hb⟩ := addr_none4 hfirst
        refine .inr ⟨b, o, cap0, rfl, hl, hb, fun j u hj => ?_⟩
        obtain ⟨k, i, c, rfl, hi, hk, hu⟩ := hksC_back hj
        obtain ⟨hkl, rfl⟩ := hat k c hk
        obtain ⟨_, c0, c1, c2, c3, c4, c5⟩ := hf' k hkl
        rw [Go.WideShapes.add_plain, Go.WideShapes.add_plain] at c0 c1 c2 c3 c4 c5
        match i, hi with
        | 0, _ => cases hu; exact c0
        | 1, _ => cases hu; rw [← Nat.add_assoc]; exact c1
        | 2, _ => cases hu; rw [← Nat.add_assoc]; exact c2
        | 3, _ => cases hu; rw [← Nat.add_assoc]; exact c3
        | 4, _ => cases hu; rw [← Nat.add_assoc]; exact c4
        | 5, _ => cases hu; rw [← Nat.add_assoc]; exact c5
    · intro q hq
      obtain ⟨i, hi, rfl⟩ := List.mem_map.1 hq
      exact (hf' i (List.mem_range.1 hi)).1.2.2.2.1
    · intro c hc
      obtain ⟨q, hq, rfl⟩ := List.mem_map.1 hc
      obtain ⟨i, hi, rfl⟩ := List.mem_map.1 hq
      have := (hf' i (List.mem_range.1 hi)).1
      exact ⟨this.1, this.2.1, this.2.2.1⟩
    · have h9 := hkW_sum f D (List.range len0) (fun i hi => (hf' i (List.mem_range.1 hi)).1.2.2.2.2.2)
      rw [hd]
      simp only [Rows.uptoBulk]
      omega
    · intro b o m c e k hk u hu
      rw [hlen2] at hk
      cases e
      obtain ⟨h6, _, _, _, _, _, c5⟩ := hf' k hk
      rw [Go.WideShapes.add_plain, Go.WideShapes.add_plain] at c5
      rw [c5] at hu
      cases hu
      exact h6.2.2.2.2.1
theorem hkW_len : ∀ l : List Hk, l.length ≤ hkW l
  | [] => Nat.le_refl _
  | h :: l => by
    have := hkW_len l
    show l.length + 1 ≤ 1 + h.head.size + rwW h.rows + hkW l
    omega
theorem rwW_len : ∀ l : List Rw, l.length ≤ rwW l
  | [] => Nat.le_refl _
  | r :: l => by
    have := rwW_len l
    show l.length + 1 ≤ 1 + r.t.size + rwW l
    omega
theorem hkW_mem : ∀ {l : List Hk} {h : Hk}, h ∈ l → 1 + h.head.size + rwW h.rows ≤ hkW l
  | g :: l, h, hm => by
    show _ ≤ 1 + g.head.size + rwW g.rows + hkW l
    rcases List.mem_cons.1 hm with rfl | hm
    · omega
    · have := hkW_mem hm; omega
theorem hkW_sz {l : List Hk} (hw : ∀ c ∈ l, WfH c ∧ (∀ r ∈ c.rows, r.t.size ≤ maxLen) ∧ c.head.size ≤ maxLen) (hb : hkW l ≤ 1048576) : ∀ h ∈ l, SzH h := fun h hh => by
  refine ⟨?_, (hw h hh).2.1, (hw h hh).2.2⟩
  have h1 := hkW_mem hh
  have h2 := rwW_len h.rows
  omega
end Go.Proofs.YtkolgglllladfaaGreatDoor.Ub
/-
  Unified diffs, plain: how long the text of hunks is, of those that came in and of those that were read; what is read may be printed.
-/
namespace Go.Proofs.YtkolgglllladfaaGreatDoor.Ub
open Go.RowKit
open Hu (Rw Hk)

/-! ### lengths -/
theorem dec_short : ∀ (k u : Nat), u < 10 ^ (k + 1) → (Lib.decDigits u).length ≤ k + 1
  | 0, u, h => by
    rw [Lib.decDigits_one (by omega)]
    exact Nat.le_refl _
  | k + 1, u, h => by
    by_cases hu : u < 10
    · rw [Lib.decDigits_one hu]
      simp
    · rw [Lib.decDigits, dif_neg hu, List.length_append]
      have h2 : u / 10 < 10 ^ (k + 1) := by
        rw [Nat.pow_succ] at h
        omega
      have := dec_short k (u / 10) h2
      simp
      omega
theorem dec10 {n : Int} (h0 : 0 ≤ n) (h1 : n ≤ 2147483647) : (Un.dec n).length ≤ 10 := by
  obtain ⟨u, rfl⟩ : ∃ u : Nat, n = u := ⟨n.toNat, by omega⟩
  rw [Un.dec_nat]
  exact dec_short 9 u (by have : (10 : Nat) ^ (9 + 1) = 10000000000 := by decide
                          omega)
theorem rng21 {a n : Int} (h0 : 0 ≤ a) (h1 : a ≤ 2147483647) (h2 : 0 ≤ n) (h3 : n ≤ 2147483647) : (Un.rngT a n).length ≤ 21 := by
  have e1 := dec10 h0 h1
  have e2 := dec10 h2 h3
  unfold Un.rngT
  split
  · omega
  · rw [List.length_append, List.length_cons]; omega
theorem tail_len (t : Un.Bs) : (Un.tailT t).length ≤ t.length + 29 := by
  unfold Un.tailT
  split
  · omega
  · rw [List.length_append, List.length_cons, List.length_append]
    show t.length + (27 + 1 + 1) ≤ _
    omega
theorem rows_len : ∀ l : List Rw, (l.flatMap Un.rowT).length ≤ 31 * rwW l
  | [] => Nat.zero_le _
  | r :: l => by
    have h1 := rows_len l
    have h2 := tail_len r.t.data.toList
    rw [dsize] at h2
    show (Un.rowT r ++ l.flatMap Un.rowT).length ≤ 31 * (1 + r.t.size + rwW l)
    rw [List.length_append]
    show (Un.tailT r.t.data.toList).length + 1 + _ ≤ _
    omega
theorem hunk_len {h : Hk} (hs : SmH h) : (Un.hunkT h).length ≤ 100 * (1 + h.head.size + rwW h.rows) := by
  obtain ⟨s1, s2, s3, s4, s5, s6, s7, s8⟩ := hs
  have h1 := rng21 s1 s2 s3 s4
  have h2 := rng21 s5 s6 s7 s8
  have h3 := rows_len h.rows
  have h4 : (Un.headT h.head.data.toList).length ≤ h.head.size + 1 := by
    unfold Un.headT
    split
    · simp
    · rw [List.length_cons, dsize]; omega
  have e : (Un.hunkT h).length = 4 + (Un.rngT h.a h.n).length + 2 + (Un.rngT h.b h.m).length + 3 + (Un.headT h.head.data.toList).length + 1 + (h.rows.flatMap Un.rowT).length := by
    unfold Un.hunkT Un.placeT
    simp only [List.length_append, List.length_cons]
    show 4 + (_ + (2 + (_ + (3 + _)))) + (_ + 1) = _
    omega
  omega
theorem hunks_len : ∀ l : List Hk, l.all Hu.vld = true → (l.flatMap Un.hunkT).length ≤ 100 * hkW l
  | [], _ => Nat.zero_le _
  | h :: l, hv => by
    rw [List.all_cons, Bool.and_eq_true] at hv
    have h1 := hunks_len l hv.2
    have h2 := hunk_len (vld_sm hv.1)
    show (Un.hunkT h ++ l.flatMap Un.hunkT).length ≤ 100 * (1 + h.head.size + rwW h.rows + hkW l)
    rw [List.length_append]
    omega
/-! ### what was read -/
def flatL (ls : List Un.Bs) : Nat := ls.flatten.length
theorem flatL_cons (x : Un.Bs) (ls : List Un.Bs) : flatL (x :: ls) = x.length + flatL ls := by unfold flatL; rw [List.flatten_cons, List.length_append]
def rdW : List (Int × Un.Bs) → Nat
  | [] => 0
  | r :: l => 1 + r.2.length + rdW l
theorem rdW_toR : ∀ l : List (Int × Un.Bs), rwW (l.map Un.toR) = rdW l
  | [] => rfl
  | r :: l => by
    show 1 + (bB r.2).size + rwW (l.map Un.toR) = 1 + r.2.length + rdW l
    rw [rdW_toR l, bB_size]
theorem bare_short (x : Un.Bs) : (Un.bare x).length ≤ x.length := bare_le x
theorem mark_ne {x : Un.Bs} {k : Int} {j : Nat} (h : Un.mark x = some (k, j)) : x ≠ [] := by
  rintro rfl
  cases h
theorem rowsP_w : ∀ (n : Nat) (ls : List Un.Bs) (x y c : Nat) (rows : List (Int × Un.Bs)) (ls' : List Un.Bs) (c' : Nat), ls.length ≤ n → Un.rowsP ls x y c = .ok rows ls' c' → rdW rows + 2 * flatL ls' ≤ 2 * flatL ls
  | _, [], x, y, c, rows, ls', c', _, h => by
    rw [Un.rowsP] at h
    split at h
    · cases h; exact Nat.le_refl _
    · cases h
  | _, [z], x, y, c, rows, ls', c', _, h => by
    rw [Un.rowsP] at h
    split at h
    · split at h
      · cases h
      · cases h; simp [rdW]
    · split at h
      · cases h
      · rename_i k j hm
        split at h
        · cases h
        · split at h
          · cases h
            have h1 := mark_ne hm
            have h2 : 0 < z.length := List.length_pos_iff.2 h1
            rw [flatL_cons]
            show 1 + (z.drop j).length + 0 + 2 * 0 ≤ 2 * (z.length + 0)
            rw [List.length_drop]
            omega
          · cases h
  | 0, _ :: _ :: _, _, _, _, _, _, _, hn, _ => by simp at hn
  | n + 1, z :: z2 :: ls, x, y, c, rows, ls', c', hn, h => by
    rw [Un.rowsP] at h
    split at h
    · split at h
      · cases h
      · cases h; simp [rdW]
    · split at h
      · cases h
      · rename_i k j hm
        have h1 := mark_ne hm
        have h2 : 0 < z.length := List.length_pos_iff.2 h1
        split at h
        · cases h
        · rename_i n' m' _
          split at h
          · cases hr : Un.rowsP ls n' m' (c + 2) with
            | bad q => rw [hr] at h; cases h
            | ok r2 l2 c2 =>
              rw [hr] at h
              cases h
              have h3 := rowsP_w n ls n' m' (c + 2) r2 ls' c' (by simp at hn; omega) hr
              have h4 := bare_short (z.drop j)
              rw [List.length_drop] at h4
              rw [flatL_cons, flatL_cons]
              show 1 + (Un.bare (z.drop j)).length + rdW r2 + _ ≤ _
              omega
          · cases hr : Un.rowsP (z2 :: ls) n' m' (c + 1) with
            | bad q => rw [hr] at h; cases h
            | ok r2 l2 c2 =>
              rw [hr] at h
              cases h
              have h3 := rowsP_w n (z2 :: ls) n' m' (c + 1) r2 ls' c' (by simp at hn ⊢; omega) hr
              rw [flatL_cons]
              show 1 + (z.drop j).length + rdW r2 + _ ≤ _
              rw [List.length_drop]
              omega
theorem hkW_app : ∀ l m : List Hk, hkW (l ++ m) = hkW l + hkW m
  | [], m => (Nat.zero_add _).symm
  | h :: l, m => by
    show 1 + h.head.size + rwW h.rows + hkW (l ++ m) = 1 + h.head.size + rwW h.rows + hkW l + hkW m
    rw [hkW_app l m]
    omega
theorem fin_ne {c c' : Nat} {acc hs : List Hk} (h : Un.Pr.fin c acc = .ok hs c') : acc = hs ∧ hs ≠ [] := by
  unfold Un.Pr.fin at h
  split at h
  · cases h
  · rename_i hne
    cases h
    exact ⟨rfl, hne⟩
theorem ordU_app : ∀ (l acc : List Hk) (h : Hk), Un.ordU acc (l ++ [h]) = (Un.ordU acc l && Un.okO (acc ++ l) h)
  | [], acc, h => by
    show (Un.okO acc h && Un.ordU (acc ++ [h]) []) = (true && Un.okO (acc ++ []) h)
    rw [List.append_nil, Bool.true_and]
    exact Bool.and_true _
  | g :: l, acc, h => by
    show (Un.okO acc g && Un.ordU (acc ++ [g]) (l ++ [h])) = ((Un.okO acc g && Un.ordU (acc ++ [g]) l) && Un.okO (acc ++ g :: l) h)
    rw [ordU_app l (acc ++ [g]) h, Bool.and_assoc]
    congr 2
    rw [List.append_assoc]
    rfl
theorem hunksF_good : ∀ (f : Nat) (ls : List Un.Bs) (c : Nat) (acc hs : List Hk) (c' : Nat), (∀ x ∈ ls, x ≠ []) → Un.hunksF f ls c acc = .ok hs c' → acc.all Hu.vld = true → Un.ordU [] acc = true → hs ≠ [] ∧ hs.all Hu.vld = true ∧ Un.ordU [] hs = true ∧ hkW hs ≤ hkW acc + 2 * flatL ls
  | 0, _, _, _, _, _, _, h, _, _ => by rw [Un.hunksF] at h; cases h
  | _ + 1, [], c, acc, hs, c', _, h, ha, ho => by
    rw [Un.hunksF] at h
    obtain ⟨rfl, hne⟩ := fin_ne h
    exact ⟨hne, ha, ho, Nat.le_add_right _ _⟩
  | f + 1, x :: ls, c, acc, hs, c', hx, h, ha, ho => by
    rw [Un.hunksF] at h
    split at h
    · split at h
      · cases h
      · rename_i p hp
        split at h
        · cases h
        · rename_i rows ls' c2 hr
          split at h
          · rename_i hv
            split at h
            · rename_i hok
              have h2 := (Un.rowsP_drop _ _ _ _ _ _ _ _ (Nat.le_refl _) hr).2
              have h3 := rowsP_w _ _ _ _ _ _ _ _ (Nat.le_refl _) hr
              have h4 := place_head hp
              have h5 := bare_le x
              have h6 : 0 < x.length := List.length_pos_iff.2 (hx x List.mem_cons_self)
              obtain ⟨g1, g2, g3, g4⟩ := hunksF_good f ls' c2 _ hs c' (fun z hz => hx z (List.mem_cons_of_mem _ (by rw [h2] at hz; exact List.mem_of_mem_drop hz))) h (by rw [List.all_append, ha, List.all_cons, hv]; rfl) (by rw [ordU_app, ho, List.nil_append, hok]; rfl)
              refine ⟨g1, g2, g3, ?_⟩
              rw [hkW_app] at g4
              rw [flatL_cons]
              have e : hkW [Un.mkHk p rows] = 1 + (bB p.head).size + rdW rows + 0 := by
                show 1 + (bB p.head).size + rwW (rows.map Un.toR) + 0 = _
                rw [rdW_toR]
              rw [e, bB_size] at g4
              omega
            · cases h
          · cases h
    · obtain ⟨rfl, hne⟩ := fin_ne h
      exact ⟨hne, ha, ho, Nat.le_add_right _ _⟩
theorem parse_good {s : Un.Bs} {o q : Un.Bs × Un.Bs} {hs : List Hk} {rest : Un.Bs} (h : Un.parse s = .ok o q hs rest) : hs ≠ [] ∧ hs.all Hu.vld = true ∧ Un.ordU [] hs = true ∧ hkW hs ≤ 2 * (s.length + 1) := by
  obtain ⟨h1, c', h2⟩ := parse_hunks h
  have h3 := hunksF_good _ _ _ _ _ _ (fun x hx => by
    obtain ⟨p, rfl, _⟩ := (lns_ok hx).1
    simp) h2 rfl rfl
  have h4 := flat_le _ (Un.advN 2 s) (Nat.le_refl _)
  have h5 := advN_le 2 s
  refine ⟨h3.1, h3.2.1, h3.2.2.1, ?_⟩
  have h6 := h3.2.2.2
  unfold flatL at h6
  show hkW hs ≤ _
  have h7 : hkW ([] : List Hk) = 0 := rfl
  omega
theorem chk_good {hs : List Hk} (h1 : hs.all Hu.vld = true) (h2 : Un.ordU [] hs = true) : chkN hs = 0 := by
  unfold chkN
  rw [if_pos h1, if_pos h2]
theorem chk_yes {hs : List Hk} (h : chkN hs = 0) : hs.all Hu.vld = true ∧ Un.ordU [] hs = true := by
  unfold chkN at h
  split at h
  · rename_i h1
    split at h
    · rename_i h2; exact ⟨h1, h2⟩
    · cases h
  · cases h
theorem flt_yes {o q : Un.Bs × Un.Bs} {hs : List Hk} (h : fltN o q hs = 0) : Un.nameOk o = true ∧ Un.nameOk q = true ∧ chkN hs = 0 := by
  unfold fltN at h
  split at h
  · rename_i h1
    rw [Bool.and_eq_true] at h1
    exact ⟨h1.1, h1.2, h⟩
  · cases h
/-- what was read may be printed, but for its names -/
theorem flt_read {s : Un.Bs} {o q : Un.Bs × Un.Bs} {hs : List Hk} {rest : Un.Bs} (h : Un.parse s = .ok o q hs rest) : fltN o q hs = 0 ∨ fltN o q hs = 110 := by
  obtain ⟨_, h1, h2, _⟩ := parse_good h
  unfold fltN
  split
  · exact .inl (chk_good h1 h2)
  · exact .inr rfl
end Go.Proofs.YtkolgglllladfaaGreatDoor.Ub
/-
  The struct Case of layer 11 as an argument, by its bulk; how long names are that are read. (Made by wip/genluback.py.)
-/
namespace Go.Proofs.YtkolgglllladfaaGreatDoor.Ub
open Go.RowKit Go.Deep Go.ChangeShapes Go.WideShapes Go.ChangeAt
open Hu (Rw Hk)

theorem stmp_le {a r : Un.Bs} {p : Un.Bs × Un.Bs} (h : Un.stmp a r = some p) : p.1 = a ∧ p.2.length ≤ r.length := by
  unfold Un.stmp at h
  split at h
  · cases h; exact ⟨rfl, Nat.le_refl _⟩
  · split at h
    · cases h; exact ⟨rfl, by simp⟩
    · cases h
theorem hdrP_le {mark x : Un.Bs} {p : Un.Bs × Un.Bs} (h : Un.hdrP mark x = some p) : p.1.length ≤ x.length ∧ p.2.length ≤ x.length := by
  unfold Un.hdrP at h
  split at h
  · cases h
  · rename_i t ht
    split at h
    · cases h
    · rename_i a r hu
      obtain ⟨h1, h2⟩ := stmp_le h
      obtain ⟨y, h3, h4⟩ := Pq.unq_rest _ _ _ hu
      have h5 := bare_le t
      have h6 := pre_le ht
      have h7 := congrArg List.length h3
      rw [List.length_append] at h7
      rw [h1]
      omega
theorem parse_names {s : Un.Bs} {o q : Un.Bs × Un.Bs} {hs : List Hk} {rest : Un.Bs} (h : Un.parse s = .ok o q hs rest) : (o.1.length ≤ s.length + 1 ∧ o.2.length ≤ s.length + 1) ∧ q.1.length ≤ s.length + 1 ∧ q.2.length ≤ s.length + 1 := by
  unfold Un.parse at h
  split at h
  · cases h
  · split at h
    · cases h
    · rename_i o' ho
      split at h
      · cases h
      · rename_i q' hq
        split at h
        · cases h
        · cases h
          have h1 := hdrP_le ho
          have h2 := hdrP_le hq
          have h3 := Un.nx_size s
          have h4 := Un.nx_size (Un.adv s)
          have h5 := Un.adv_len s
          omega
theorem one_slice {H : Type} {enc : TypeId × Value → H} {W : World} {n : Nat} {t e : TypeId} {v : Value} {y : DataW H × List MemPlace} (hu : Tryz.prog.underlying t = some (.slice e)) (h : DataW.trod enc Tryz.prog W 0 (fun _ => true) true n t [v] = some y) :
    (∃ a len cap, v = .slice a len cap) ∧ DataW.Trod enc Tryz.prog W 0 (fun _ => true) true t v y.1 y.2 := by
  have hs : ∃ a len cap, v = .slice a len cap := by
    rcases open_slice hu h with ⟨hcs, _⟩ | ⟨a, len, cap, m, n', D, Pl, hcs, _⟩
    · simp at hcs; exact ⟨_, _, _, hcs⟩
    · simp at hcs; exact ⟨_, _, _, hcs⟩
  refine ⟨hs, n, ?_⟩
  obtain ⟨a, len, cap, rfl⟩ := hs
  exact h
theorem agg_of {v : Value} {k : Nat} (hk : 1 < k) (hl : v.cells.toList.length = k) : ∃ l : List Value, v = .agg l.toArray ∧ v.cells.toList = l := by
  cases v with
  | agg cs => exact ⟨cs.toList, by simp, rfl⟩
  | _ => simp [Value.cells] at hl; omega
set_option maxRecDepth 100000 in
theorem open_name {H : Type} {enc : TypeId × Value → H} {W : World} {n : Nat} {v0 v1 : Value} {y : DataW H × List MemPlace} (h : DataW.trod enc Tryz.prog W 0 (fun _ => true) true n 23 [v0, v1] = some y) :
    ∃ a b : ByteArray, v0 = .string a ∧ v1 = .string b ∧ a.size + b.size ≤ Rows.uptoBulk y.1 := by
  obtain ⟨xs, k, hk, hxy, _, hxl, hf⟩ := DataW.trod_struct Tryz.underlying23 h
  have hc2 : Tryz.prog.cellsOf 9 = 1 := by kernel_rfl
  match xs, hxl with
  | [y0, y1], _ =>
    have g0 : DataW.trod enc Tryz.prog W 0 (fun _ => true) true k 9 (([v0, v1].drop 0).take (Tryz.prog.cellsOf 9)) = some y0 := hf 0 _ rfl
    rw [hc2] at g0
    have g1 : DataW.trod enc Tryz.prog W 0 (fun _ => true) true k 9 (([v0, v1].drop 1).take (Tryz.prog.cellsOf 9)) = some y1 := hf 1 _ rfl
    rw [hc2] at g1
    obtain ⟨x0, e0, d0, _⟩ := DataW.trod_string Tryz.underlying9 (show DataW.trod enc Tryz.prog W 0 (fun _ => true) true k 9 [v0] = some y0 from g0)
    obtain ⟨x1, e1, d1, _⟩ := DataW.trod_string Tryz.underlying9 (show DataW.trod enc Tryz.prog W 0 (fun _ => true) true k 9 [v1] = some y1 from g1)
    cases e0
    cases e1
    refine ⟨x0, x1, rfl, rfl, ?_⟩
    subst d0
    subst d1
    have l0 : x0.data.toList.length = x0.size := Array.length_toList
    have l1 : x1.data.toList.length = x1.size := Array.length_toList
    rw [hxy]
    simp only [List.map_cons, List.map_nil, Rows.uptoBulk, Rows.uptoBulkAll, l0, l1]
    omega
end Go.Proofs.YtkolgglllladfaaGreatDoor.Ub
