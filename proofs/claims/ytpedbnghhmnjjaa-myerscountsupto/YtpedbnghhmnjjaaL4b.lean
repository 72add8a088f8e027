/-
  Plain: a box that is halved.
-/
import Derived.Test.YtpedbnghhmnjjaaL4
namespace Go.Proofs.Ytpedbnghhmnjjaa
open Go.RowKit
open Ed (Ch)

theorem split_box {N M a b ca cc : List Int} {s : List Ch} {m1 m2 GA GB : Nat → Bool} {x y X Y H T E1 E2 la lb x1 y1 : Nat}
    (ha : a = My.cut N x X) (hb : b = My.cut M y Y) (hal : a.length = X - x) (hbl : b.length = Y - y) (hH : H = My.hd a b) (hT : T = My.tl a b H) (hE1 : E1 = X - x - T) (hE2 : E2 = Y - y - T) (hla : la + H = E1) (hlb : lb + H = E2) (hx1 : x1 = x + H) (hy1 : y1 = y + H)
    (hca : ca = My.cm a b a) (hcc : cc = My.cm a b b) (hcal : ca.length = la) (hccl : cc.length = lb) (hz : ¬ (la = 0 ∨ lb = 0))
    (hG1 : My.orAt (My.goA N M s m1) x (My.mkF a b).1 = GA) (hG2 : My.orAt (My.goB N M s m2) y (My.mkF a b).2 = GB) :
    ∃ u v : Nat, (My.midP ca cc).1 = (u : Int) ∧ (My.midP ca cc).2 = (v : Int) ∧ u ≤ la ∧ v ≤ lb ∧ 0 < u + v ∧ u + v < la + lb ∧
      My.goA N M (s ++ [⟨x1, y1, ((x1 + u : Nat) : Int), ((y1 + v : Nat) : Int)⟩, ⟨((x1 + u : Nat) : Int), ((y1 + v : Nat) : Int), ((x1 + la : Nat) : Int), ((y1 + lb : Nat) : Int)⟩]) m1 = GA ∧
      My.goB N M (s ++ [⟨x1, y1, ((x1 + u : Nat) : Int), ((y1 + v : Nat) : Int)⟩, ⟨((x1 + u : Nat) : Int), ((y1 + v : Nat) : Int), ((x1 + la : Nat) : Int), ((y1 + lb : Nat) : Int)⟩]) m2 = GB := by
  have hZ : ¬ ((My.cm a b a).length = 0 ∨ (My.cm a b b).length = 0) := by rw [← hca, ← hcc, hcal, hccl]; exact hz
  have hha := My.midP_half ca cc
  have hcan : ca ≠ [] := fun e => hz (.inl (by rw [← hcal, e]; rfl))
  have hccn : cc ≠ [] := fun e => hz (.inr (by rw [← hccl, e]; rfl))
  have hun := My.cm_unlike a b (by rw [← hca]; exact hcan) (by rw [← hcc]; exact hccn)
  rw [← hca, ← hcc] at hun
  obtain ⟨z1, z2⟩ := My.half_in hha hcan hccn hun
  obtain ⟨v1, v2, v3, v4, _⟩ := hha
  rw [hcal] at v2 z2
  rw [hccl] at v4 z2
  have hmore1 := (My.mkF_more hZ (My.goA N M s m1) x).1
  have hmore2 := (My.mkF_more hZ (My.goB N M s m2) y).2
  rw [← hca, ← hcc, ← hH, hG1, ← hx1] at hmore1
  rw [← hca, ← hcc, ← hH, hG2, ← hy1] at hmore2
  have h1 := My.hd_le a b
  have h2 := My.tl_le a b (My.hd a b)
  have hTA := cm_cut ha hb hal hbl (by omega) (by omega)
  rw [← hH, ← hT, ← hE1, ← hE2, ← hx1, ← hy1, ← hca, ← hcc, show x + E1 = x1 + la by omega, show y + E2 = y1 + lb by omega] at hTA
  have hu : (My.midP ca cc).1.toNat ≤ la := by omega
  have hv : (My.midP ca cc).2.toNat ≤ lb := by omega
  refine ⟨(My.midP ca cc).1.toNat, (My.midP ca cc).2.toNat, by omega, by omega, by omega, by omega, by omega, by omega, ?_, ?_⟩
  · generalize (My.midP ca cc).1.toNat = u at hmore1 hu ⊢
    generalize (My.midP ca cc).2.toNat = v at hmore1 hv ⊢
    rw [hTA.1, hTA.2, cut_take N (by omega), cut_take M (by omega), cut_drop, cut_drop] at hmore1
    rw [goA_two]
    exact hmore1.symm
  · generalize (My.midP ca cc).1.toNat = u at hmore2 hu ⊢
    generalize (My.midP ca cc).2.toNat = v at hmore2 hv ⊢
    rw [hTA.1, hTA.2, cut_take N (by omega), cut_take M (by omega), cut_drop, cut_drop] at hmore2
    rw [goB_two]
    exact hmore2.symm
end Go.Proofs.Ytpedbnghhmnjjaa
