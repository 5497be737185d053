/- Memory that came in: it is only read. -/
import Derived.Test.YteeanpfhngoobaaGreatZXrn
set_option linter.all false
namespace Go.Proofs.YteeanpfhngoobaaGreat.Xk
open Go.RowKit

section
variable {B : Nat} {w0 w : World} {m : Nat → MB} {h : HP}
/-- A block that is only read: live, and its elements said to take no cell. -/
theorem WR.layRo (hw : WR B w0 m h w) {cells : List Value} {x : MB} (hok : ∀ v ∈ cells, okC m h.nb v ∧ isCell v = true) (hlo : x.blk < B) (hsz : x.sh + cells.length ≤ x.sz)
    (hat : ∀ (i : Nat) (v : Value), cells[i]? = some v → w.cell? ⟨x.blk, x.sh + i, none⟩ = some (cv m v)) :
    Ext m (upd m h.nb x) h.nb ∧ WR B w0 (upd m h.nb x) (h.push ⟨cells, 0, true⟩) w := by
  have he : Ext m (upd m h.nb x) h.nb := upd_ext _
  refine ⟨he, ?_⟩
  have hnb : (h.push ⟨cells, 0, true⟩).nb = h.nb + 1 := rfl
  have old : ∀ k r, k ≠ h.nb → (h.push ⟨cells, 0, true⟩).get k = some r → h.get k = some r ∧ upd m h.nb x k = m k := fun k r hk hg => ⟨(get_push_old _ hk).symm.trans hg, upd_ne _ hk⟩
  have new : ∀ r, (h.push ⟨cells, 0, true⟩).get h.nb = some r → r = ⟨cells, 0, true⟩ := fun r hg => by rw [get_push_new] at hg; exact (Option.some.inj hg).symm
  have new2 : upd m h.nb x h.nb = x := upd_same _ _
  have hsB := hw.sB
  refine { ln := by simp [HP.push, hw.ln], es := fun k r hg hz => ?_, ok := fun k r hg hl v hv => ?_, bel := hw.bel, sB := hw.sB, lo := fun k r hg hl => ?_, fr := fun k r hg hl hz o ho => ?_, at_ := fun k r hg hl i v hv => ?_, inj := fun j k r s hg hg2 hl hl2 hz hz2 e => ?_, mp := fun k r hg hl he0 => ?_, mi := fun j k r s hg hg2 hl hl2 e1 e2 e => ?_ }
  · by_cases hk : k = h.nb
    · subst hk; rw [new r hg] at hz; exact absurd rfl hz
    · obtain ⟨h1, h2⟩ := old k r hk hg
      rw [h2]; exact hw.es k r h1 hz
  · by_cases hk : k = h.nb
    · subst hk
      rw [new r hg] at hv
      obtain ⟨k1, k2⟩ := hok v hv
      exact ⟨(okC_ext he (by rw [hnb]; omega) k1).1, k2⟩
    · obtain ⟨h1, h2⟩ := old k r hk hg
      obtain ⟨k1, k2⟩ := hw.ok k r h1 hl v hv
      exact ⟨(okC_ext he (by rw [hnb]; omega) k1).1, k2⟩
  · by_cases hk : k = h.nb
    · subst hk
      rw [new2, new r hg]
      exact ⟨fun e => absurd rfl e, fun _ => hlo, by omega, hsz⟩
    · obtain ⟨h1, h2⟩ := old k r hk hg
      rw [h2]
      exact hw.lo k r h1 hl
  · by_cases hk : k = h.nb
    · subst hk; rw [new r hg] at hz; exact absurd rfl hz
    · obtain ⟨h1, h2⟩ := old k r hk hg
      rw [h2] at ho ⊢
      exact hw.fr k r h1 hl hz o ho
  · by_cases hk : k = h.nb
    · subst hk
      rw [new r hg] at hv
      rw [new2, (okC_ext he (Nat.le_refl _) (hok v (List.mem_of_getElem? hv)).1).2]
      exact hat i v hv
    · obtain ⟨h1, h2⟩ := old k r hk hg
      rw [h2, (okC_ext he (Nat.le_refl _) (hw.ok k r h1 hl v (List.mem_of_getElem? hv)).1).2]
      exact hw.at_ k r h1 hl i v hv
  · by_cases hj : j = h.nb
    · subst hj; rw [new r hg] at hz; exact absurd rfl hz
    · by_cases hk : k = h.nb
      · subst hk; rw [new s hg2] at hz2; exact absurd rfl hz2
      · obtain ⟨h1, h2⟩ := old j r hj hg
        obtain ⟨h3, h4⟩ := old k s hk hg2
        rw [h2, h4] at e
        exact hw.inj j k r s h1 h3 hl hl2 hz hz2 e
  · by_cases hk : k = h.nb
    · subst hk; rw [new r hg] at hl; cases hl
    · obtain ⟨h1, h2⟩ := old k r hk hg
      rw [h2]
      exact hw.mp k r h1 hl he0
  · by_cases hj : j = h.nb
    · subst hj; rw [new r hg] at hl; cases hl
    · by_cases hk : k = h.nb
      · subst hk; rw [new s hg2] at hl2; cases hl2
      · obtain ⟨h1, h2⟩ := old j r hj hg
        obtain ⟨h3, h4⟩ := old k s hk hg2
        rw [h2, h4] at e
        exact hw.mi j k r s h1 h3 hl hl2 e1 e2 e
end
end Go.Proofs.YteeanpfhngoobaaGreat.Xk
