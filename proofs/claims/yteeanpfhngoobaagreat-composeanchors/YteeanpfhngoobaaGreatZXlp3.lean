/- What only looks is the same in the world. -/
import Derived.Test.YteeanpfhngoobaaGreatZXrel
import Derived.Deep.Upon
import Derived.MapKept
set_option linter.all false
namespace Go.Proofs.YteeanpfhngoobaaGreat.Xk
open Go.RowKit

section
variable {m : Nat → MB} {tm : List Value} {a : Act} {P : Program} {h : HP} {w : World}
theorem cT_bool (b : Bool) : cT m (.bool b) = .bool b := rfl
theorem cT_int (k : IntKind) (n : Int) : cT m (.int k n) = .int k n := rfl
theorem cT_str (s : ByteArray) : cT m (.string s) = .string s := rfl
theorem cT_ptr (b o : Nat) (sp : Option Nat) : cT m (.pointer (some ⟨b, o, sp⟩)) = .pointer (some (ca m b o)) := rfl
theorem cT_sl (b o : Nat) (sp : Option Nat) (n c : Nat) : cT m (.slice (some ⟨b, o, sp⟩) n c) = cs0 m b o sp n := rfl
theorem cT_agg (cs : Array Value) : cT m (.agg cs) = .agg (cs.map (cv m)) := rfl
theorem cT_tup (cs : Array Value) : cT m (.tuple cs) = .tuple (cs.map (cA m)) := rfl
/-- What the cells looked at hold. -/
def Looks (m : Nat → MB) (h : HP) (w : World) (D : List (Nat × Nat)) : Prop := ∀ p ∈ D, ∃ u, h.read p.1 p.2 1 = some [u] ∧ w.cell? (ca m p.1 p.2) = some (cv m u)
theorem looks_read {b o n : Nat} {cs : List Value} (hr : h.read b o n = some cs) (hL : Looks m h w (rng b o n)) : ∀ j v, (cs.map (cv m))[j]? = some v → w.cell? ((ca m b o).add j) = some v := by
  intro j v hv
  have hj : j < n := by
    have := (List.getElem?_eq_some_iff.1 hv).1
    rw [List.length_map, read_len hr] at this
    exact this
  obtain ⟨u, hu, hr1⟩ := read_one hr hj
  obtain ⟨u2, hr2, hc⟩ := hL (b, o + j) (List.mem_map.2 ⟨j, by simpa using hj, rfl⟩)
  dsimp only at hr2 hc
  rw [hr1] at hr2
  obtain rfl : u = u2 := by simpa using hr2
  rw [List.getElem?_map, hu] at hv
  cases hv
  unfold ca at hc ⊢
  rw [Addr.add_lit, Nat.add_assoc]
  exact hc
theorem aggD_run (d : TypeDesc) : (match d with | .struct _ | .array _ _ => true | _ => false) = aggD d := by cases d <;> rfl
theorem run_isAgg {t : TypeId} {d : TypeDesc} (hu : P.underlying t = some d) : (isAgg t).run P w = .ok (aggD d) w := by
  unfold isAgg
  simp only [Sem.run_bind, run_underlying hu, Result.andThen]
  cases d <;> rfl
theorem loadVar_ok (hh : HR m h) {t : TypeId} {d : TypeDesc} {i : TypeInfo} {b o : Nat} {v : Value} {D : List (Nat × Nat)} (hu : P.underlying t = some d) (hi : P.info? t = some i)
    (hl : (if aggD d then (match h.read b o i.size with | some cs => some (Value.agg cs.toArray, rng b o i.size) | none => none) else (match h.read b o 1 with | some [v] => some (v, [(b, o)]) | _ => none)) = some (v, D)) (hL : Looks m h w D) :
    (loadVar t (ca m b o)).run P w = .ok (cA m v) w := by
  unfold loadVar
  simp only [Sem.run_bind, run_isAgg hu, Result.andThen]
  split at hl
  · rename_i hd
    rw [hd, if_pos rfl]
    split at hl
    · rename_i cs hr
      cases hl
      have := run_loadCells_list (P := P) w (ca m b o) (cs.map (cv m)) (looks_read hr hL)
      rw [List.length_map, read_len hr] at this
      simp [sizeOf, typeInfo, hi, this, cA]
    · cases hl
  · rename_i hd
    rw [if_neg hd]
    split at hl
    · rename_i u hr
      cases hl
      obtain ⟨u2, hr2, hc⟩ := hL (b, o) (by simp)
      dsimp only at hr2 hc
      rw [hr] at hr2
      obtain rfl : v = u2 := by simpa using hr2
      rw [run_load, hc, (isCell_cA (m := m) (nb := h.nb) (read_mem hh hr (v := v) (by simp)).2).2.1]
    · cases hl
theorem loadVar_okA (hh : HR m h) {d : TypeDesc} {n b o : Nat} {v : Value} {D : List (Nat × Nat)}
    (hl : (if aggD d then (match h.read b o n with | some cs => some (Value.agg cs.toArray, rng b o n) | none => none) else (match h.read b o 1 with | some [v] => some (v, [(b, o)]) | _ => none)) = some (v, D)) :
    okT m h.nb v ∧ cT m v = cA m v := by
  split at hl
  · split at hl
    · rename_i cs hr
      cases hl
      exact ⟨fun v hv => (read_mem hh hr (by simpa using hv)).1, rfl⟩
    · cases hl
  · split at hl
    · rename_i u hr
      cases hl
      obtain ⟨h1, h2⟩ := read_mem hh hr (v := v) (by simp)
      obtain ⟨e1, e2, e3⟩ := isCell_cA (m := m) (nb := h.nb) h2
      exact ⟨e3.2 h1, by rw [e1, e2]⟩
    · cases hl

theorem slc_ok (hh : HR m h) {inf : TypeInfo} {p : Option Addr} {len cap l hi : Nat} {v : Value} (hok : okT m h.nb (.slice p len cap)) (hv : slc h p len cap inf.size l hi = some v) :
    okT m h.nb v ∧ ∃ q c, cT m (.slice p len cap) = .slice q len c ∧ hi ≤ c ∧ l ≤ hi ∧ cT m v = .slice (if c = l then q else q.map (·.add (l * inf.size))) (hi - l) (c - l) := by
  unfold slc at hv
  split at hv
  · rename_i hb
    obtain ⟨hb1, hb2⟩ := hb
    split at hv
    · split at hv
      · rename_i h0
        obtain ⟨rfl, rfl⟩ := h0
        cases hv
        obtain ⟨rfl, rfl⟩ : len = 0 ∧ cap = 0 := hok
        exact ⟨⟨rfl, rfl⟩, none, 0, rfl, by omega, by omega, rfl⟩
      · cases hv
    · rename_i b off
      split at hv
      · rename_i r hg
        split at hv
        · rename_i hes
          obtain ⟨hes, hz0⟩ := hes
          obtain ⟨k1, k2, k3, k4⟩ : b < h.nb ∧ 0 < (m b).es ∧ len ≤ cap ∧ (m b).sh + off + cap * (m b).es ≤ (m b).sz := hok
          have hes2 := hh.es b r hg (by rw [hes]; exact hz0)
          rw [hes] at hes2
          have hroom : cap ≤ room (m b) off := by
            unfold room
            rw [Nat.le_div_iff_mul_le k2]
            omega
          split at hv
          · rename_i hlt
            cases hv
            refine ⟨⟨k1, k2, show hi - l ≤ cap - l by omega, ?_⟩, some (ca m b off), room (m b) off, rfl, by omega, by omega, ?_⟩
            · show (m b).sh + (off + l * inf.size) + (cap - l) * (m b).es ≤ (m b).sz
              rw [hes2] at k4 ⊢
              rw [Nat.sub_mul]
              have : l * inf.size ≤ cap * inf.size := Nat.mul_le_mul_right _ (by omega)
              omega
            · rw [if_neg (by omega)]
              show Value.slice (some (ca m b (off + l * inf.size))) (hi - l) (room (m b) (off + l * inf.size)) = _
              have e1 : room (m b) (off + l * inf.size) = room (m b) off - l := by
                unfold room
                rw [hes2, show (m b).sz - ((m b).sh + (off + l * inf.size)) = (m b).sz - ((m b).sh + off) - inf.size * l by rw [Nat.mul_comm inf.size l]; omega, Nat.sub_mul_div]
              rw [e1]
              show _ = Value.slice ((some (ca m b off)).map (·.add (l * inf.size))) _ _
              simp only [Option.map_some, ca, Addr.add_lit, Nat.add_assoc]
          · cases hv
            have e1 : cap = l := by omega
            have e2 : hi = l := by omega
            subst e1
            subst e2
            refine ⟨⟨k1, k2, Nat.le_refl _, rfl, k4⟩, some (ca m b off), room (m b) off, rfl, by omega, by omega, ?_⟩
            rw [Nat.sub_self]
            show cs0 m b off (some _) 0 = _
            unfold cs0
            dsimp only
            split
            · rename_i e
              rw [e, Nat.sub_self]
            · simp only [Option.map_some, ca, Addr.add_lit, Nat.add_assoc, hes2]
        · cases hv
      · cases hv
    · rename_i b off d
      split at hv
      · rename_i h0
        obtain ⟨rfl, rfl⟩ := h0
        cases hv
        obtain ⟨k1, k2, k3, k4, k5⟩ : b < h.nb ∧ 0 < (m b).es ∧ len ≤ cap ∧ cap = 0 ∧ (m b).sh + off + d * (m b).es ≤ (m b).sz := hok
        obtain rfl : cap = 0 := k4
        obtain rfl : len = 0 := by omega
        refine ⟨⟨k1, k2, Nat.le_refl _, rfl, k5⟩, ?_⟩
        show ∃ q c, cs0 m b off (some d) 0 = _ ∧ _ ∧ _ ∧ cs0 m b off (some d) 0 = _
        unfold cs0
        dsimp only
        split
        · exact ⟨_, _, rfl, by omega, by omega, by simp⟩
        · refine ⟨_, _, rfl, by omega, by omega, ?_⟩
          simp [ca, Addr.add_lit]
      · cases hv
  · cases hv
end
end Go.Proofs.YteeanpfhngoobaaGreat.Xk
namespace Go.Proofs.YteeanpfhngoobaaGreat.Xk
open Go.RowKit

section
variable {m : Nat → MB} {tm : List Value} {a : Act} {P : Program} {h : HP} {w : World}
theorem fold_map (f : Value → Value) : ∀ (l : List Value) (k off : Nat) (cs : Array Value),
    ((l.zipIdx k).foldl (fun (cs : Array Value) (x : Value × Nat) => cs.setIfInBounds (off + x.2) x.1) cs).map f = ((l.map f).zipIdx k).foldl (fun (cs : Array Value) (x : Value × Nat) => cs.setIfInBounds (off + x.2) x.1) (cs.map f)
  | [], _, _, _ => rfl
  | v :: l, k, off, cs => by
    simp only [List.zipIdx_cons, List.foldl_cons, List.map_cons]
    rw [fold_map f l (k + 1) off]
    congr 1
    simp
theorem fill_map (f g : Value → Value) (place : Nat → Option (Nat × Nat)) : ∀ (ps : List (Nat × Value)) (cells r : Array Value), (∀ p ∈ ps, (g p.2).cells = p.2.cells.map f) →
    Instr.fill place cells ps = some r → Instr.fill place (cells.map f) (ps.map fun p => (p.1, g p.2)) = some (r.map f)
  | [], cells, r, _, h => by
    simp only [Instr.fill, Option.some.injEq] at h
    subst h
    rfl
  | (i, v) :: ps, cells, r, hp, h => by
    have h1 := hp (i, v) (by simp)
    simp only [Instr.fill, List.map_cons] at h ⊢
    cases hpl : place i with
    | none => rw [hpl] at h; cases h
    | some x =>
      obtain ⟨off, size⟩ := x
      rw [hpl] at h
      dsimp only at h h1 ⊢
      rw [h1]
      simp only [Array.size_map]
      split at h
      · cases h
      · rename_i hc
        rw [if_neg hc]
        have := fill_map f g place ps _ r (fun p hp' => hp p (by simp [hp'])) h
        rw [← this]
        congr 1
        rw [← Array.foldl_toList, ← Array.foldl_toList, Array.toList_zipIdx, Array.toList_zipIdx, Array.toList_map]
        exact (fold_map f v.cells.toList 0 off cells).symm
theorem cells_map {v : Value} (hc : (cellsOf v).isSome = true) : (cT m v).cells = v.cells.map (cv m) := by
  by_cases hv : ∃ cs, v = .agg cs
  · obtain ⟨cs, rfl⟩ := hv; rfl
  · have hcell : isCell v = true := by
      cases v <;> first | rfl | (simp [cellsOf, isCell] at hc; done) | exact absurd ⟨_, rfl⟩ hv
    rw [(isCell_cA (m := m) (nb := 0) hcell).1, (isCell_cv hcell).2.2]
    cases v <;> first | (simp [isCell] at hcell; done) | simp [Value.cells]
theorem cellsOf_cells {v : Value} {cs : List Value} (hc : cellsOf v = some cs) : v.cells.toList = cs := by
  by_cases hv : ∃ cs, v = .agg cs
  · obtain ⟨xs, rfl⟩ := hv; simpa [cellsOf, Value.cells] using hc
  · have hcell : isCell v = true := by
      cases v <;> first | rfl | (simp [cellsOf, isCell] at hc; done) | exact absurd ⟨_, rfl⟩ hv
    cases v <;> first | (simp [cellsOf, isCell] at hc; rw [← hc]; rfl) | (simp [isCell] at hcell)
theorem evps_ok (hf : FR m h.nb tm a) : ∀ (ps : List (Nat × Operand)) (vs : List (Nat × Value)), evps tm ps = some vs →
    (ps.map fun p => (p.1, a.eval p.2)) = (vs.map fun p => (p.1, cT m p.2)) ∧ ∀ p ∈ vs, okT m h.nb p.2 ∧ (cellsOf p.2).isSome = true
  | [], vs, he => by simp only [evps, Option.some.injEq] at he; subst he; exact ⟨rfl, by simp⟩
  | (i, x) :: ps, vs, he => by
    simp only [evps] at he
    split at he
    · rename_i v us hv hus
      split at he
      · rename_i hc
        cases he
        obtain ⟨e, k⟩ := evl_eval hf hv
        obtain ⟨e2, k2⟩ := evps_ok hf ps us hus
        exact ⟨by simp only [List.map_cons, e, e2], fun p hp => by
          rcases List.mem_cons.1 hp with rfl | hp
          · exact ⟨k, hc⟩
          · exact k2 p hp⟩
      · cases he
    · cases he
theorem zeroC_ok {t : TypeId} (hz : zeroC P t = true) : ∃ i z, P.info? t = some i ∧ i.zero = some z ∧ z.cells.map (cv m) = z.cells ∧ ∀ v ∈ z.cells.toList, flat0 v = true := by
  unfold zeroC at hz
  split at hz
  · rename_i i hi
    split at hz
    · rename_i z hz2
      simp only [List.all_eq_true] at hz
      refine ⟨i, z, hi, hz2, ?_, hz⟩
      conv => rhs; rw [← Array.map_id z.cells]
      exact Array.map_congr_left fun v hv => (cv_flat0 (nb := 0) (hz v (by simpa using hv))).1
    · cases hz
  · cases hz
theorem fold_mem : ∀ (l : List Value) (k off : Nat) (cs : Array Value) (v : Value), v ∈ ((l.zipIdx k).foldl (fun (cs : Array Value) (x : Value × Nat) => cs.setIfInBounds (off + x.2) x.1) cs).toList → v ∈ cs.toList ∨ v ∈ l
  | [], _, _, _, _, h => .inl h
  | u :: l, k, off, cs, v, h => by
    simp only [List.zipIdx_cons, List.foldl_cons] at h
    rcases fold_mem l (k + 1) off _ v h with h | h
    · rw [Array.toList_setIfInBounds] at h
      rcases List.mem_or_eq_of_mem_set h with h | rfl
      · exact .inl h
      · exact .inr (by simp)
    · exact .inr (by simp [h])
theorem fill_mem (place : Nat → Option (Nat × Nat)) : ∀ (ps : List (Nat × Value)) (cells r : Array Value), Instr.fill place cells ps = some r → ∀ v ∈ r.toList, v ∈ cells.toList ∨ ∃ p ∈ ps, v ∈ p.2.cells.toList
  | [], cells, r, h, v, hv => by
    simp only [Instr.fill, Option.some.injEq] at h
    subst h
    exact .inl hv
  | (i, u) :: ps, cells, r, h, v, hv => by
    simp only [Instr.fill] at h
    cases hpl : place i with
    | none => rw [hpl] at h; cases h
    | some x =>
      obtain ⟨off, size⟩ := x
      rw [hpl] at h
      dsimp only at h
      split at h
      · cases h
      · rcases fill_mem place ps _ r h v hv with h1 | ⟨p, hp, h1⟩
        · rw [← Array.foldl_toList, Array.toList_zipIdx] at h1
          rcases fold_mem u.cells.toList 0 off cells v h1 with h1 | h1
          · exact .inl h1
          · exact .inr ⟨(i, u), by simp, h1⟩
        · exact .inr ⟨p, by simp [hp], h1⟩
theorem cells_ok {nb : Nat} {v u : Value} (hk : okT m nb v) (hc : (cellsOf v).isSome = true) (hu : u ∈ v.cells.toList) : okC m nb u := by
  by_cases hv : ∃ cs, v = .agg cs
  · obtain ⟨cs, rfl⟩ := hv; exact hk u hu
  · have hcell : isCell v = true := by
      cases v <;> first | rfl | (simp [cellsOf, isCell] at hc; done) | exact absurd ⟨_, rfl⟩ hv
    have : u = v := by cases v <;> first | (simp [isCell] at hcell; done) | simpa [Value.cells] using hu
    subst this
    exact ((isCell_cA (m := m) (nb := nb) hcell).2.2).1 hk
theorem build_ok {t : TypeId} {ps : Array (Nat × Value)} {cs : Array Value} (hz : zeroC P t = true) (hp : ∀ p ∈ ps.toList, (cellsOf p.2).isSome = true) (hr : (Instr.build t ps).run P w = .ok (.agg cs) w) :
    (Instr.build t (ps.map fun p => (p.1, cT m p.2))).run P w = .ok (.agg (cs.map (cv m))) w ∧ ∀ v ∈ cs.toList, flat0 v = true ∨ ∃ p ∈ ps.toList, v ∈ p.2.cells.toList := by
  obtain ⟨i, z, hi, hz1, hz2, hz3⟩ := zeroC_ok (m := m) hz
  have hmem : ∀ place r, Instr.fill place z.cells ps.toList = some r → ∀ v ∈ r.toList, flat0 v = true ∨ ∃ p ∈ ps.toList, v ∈ p.2.cells.toList := fun place r h v hv => by
    rcases fill_mem place _ _ _ h v hv with h | h
    · exact .inl (hz3 v h)
    · exact .inr h
  have hzv : ∀ w, (zeroValue t).run P w = .ok z w := fun w => by simp [zeroValue, typeInfo, hi, hz1]
  have hfill : ∀ place r, Instr.fill place z.cells ps.toList = some r → Instr.fill place z.cells (ps.map fun p => (p.1, cT m p.2)).toList = some (r.map (cv m)) := fun place r h => by
    have := fill_map (cv m) (cT m) place ps.toList z.cells r (fun p hp' => cells_map (hp p hp')) h
    rwa [hz2, ← Array.toList_map] at this
  unfold Instr.build at hr ⊢
  simp only [Sem.run_bind, hzv, Result.andThen] at hr ⊢
  cases hu : (underlying t).run P w with
  | halt x w1 => rw [hu] at hr; cases hr
  | ok d w1 =>
    rw [hu] at hr
    dsimp only at hr ⊢
    cases d with
    | struct fields =>
      dsimp only at hr ⊢
      simp only [Sem.run_bind, Result.andThen] at hr ⊢
      generalize hM : (Array.mapM (m := Sem) (β := Nat × Nat) _ fields).run P w1 = R at hr ⊢
      cases R with
      | halt x w2 => cases hr
      | ok places w2 =>
        dsimp only at hr ⊢
        split at hr
        · rename_i cells hfl
          rw [hfill _ _ hfl]
          simp only [Sem.run_pure, Result.ok.injEq, Value.agg.injEq] at hr ⊢
          refine ⟨⟨by rw [hr.1], hr.2⟩, ?_⟩
          have := hmem _ _ hfl
          rwa [hr.1] at this
        · cases hr
    | array n elem =>
      dsimp only at hr ⊢
      simp only [Sem.run_bind, Result.andThen] at hr ⊢
      cases hs : (sizeOf elem).run P w1 with
      | halt x w2 => rw [hs] at hr; cases hr
      | ok size w2 =>
        rw [hs] at hr
        dsimp only at hr ⊢
        split at hr
        · rename_i cells hfl
          rw [hfill _ _ hfl]
          simp only [Sem.run_pure, Result.ok.injEq, Value.agg.injEq] at hr ⊢
          refine ⟨⟨by rw [hr.1], hr.2⟩, ?_⟩
          have := hmem _ _ hfl
          rwa [hr.1] at this
        · cases hr
    | _ => cases hr
end
end Go.Proofs.YteeanpfhngoobaaGreat.Xk
namespace Go.Proofs.YteeanpfhngoobaaGreat.Xk
open Go.RowKit

section
variable {m : Nat → MB} {h : HP} {w w0 : World} {B : Nat}
def upd (m : Nat → MB) (k : Nat) (x : MB) : Nat → MB := fun j => if j = k then x else m j
theorem upd_same (k : Nat) (x : MB) : upd m k x k = x := if_pos rfl
theorem upd_ne {j k : Nat} (x : MB) (hj : j ≠ k) : upd m k x j = m j := if_neg hj
theorem upd_ext (x : MB) : Ext m (upd m h.nb x) h.nb := fun k hk => upd_ne x (by omega)
theorem get_push_new (r : RB) : (h.push r).get h.nb = some r := by
  unfold HP.get HP.push
  dsimp only
  rw [if_pos (by omega), show h.nb + 1 - 1 - h.nb = 0 by omega]
  rfl
theorem get_push_old (r : RB) {k : Nat} (hk : k ≠ h.nb) : (h.push r).get k = h.get k := by
  unfold HP.get HP.push
  dsimp only
  by_cases h1 : k < h.nb
  · rw [if_pos (by omega), if_pos h1, show h.nb + 1 - 1 - k = (h.nb - 1 - k) + 1 by omega]
    rfl
  · rw [if_neg (by omega), if_neg h1]
theorem get_put_same {b : Nat} {r0 : RB} (hg : h.get b = some r0) (r : RB) : (h.put b r).get b = some r := by
  unfold HP.get at hg ⊢
  unfold HP.put
  dsimp only
  split at hg
  · rename_i hlt
    rw [if_pos hlt]
    obtain ⟨h1, -⟩ := List.getElem?_eq_some_iff.1 hg
    simp [h1]
  · cases hg
theorem get_put_ne {b k : Nat} {r0 : RB} (hg : h.get b = some r0) (r : RB) (hk : k ≠ b) : (h.put b r).get k = h.get k := by
  have hb := get_lt hg
  unfold HP.get HP.put
  dsimp only
  by_cases h1 : k < h.nb
  · rw [if_pos h1, if_pos h1, List.getElem?_set_ne (by omega)]
  · rw [if_neg h1, if_neg h1]
theorem put_nb (b : Nat) (r : RB) : (h.put b r).nb = h.nb := rfl
theorem WR.drew (hw : WR B w0 m h w) : WR B w0 m h w.drew := { hw with bel := hw.bel.drew, lo := hw.lo, fr := hw.fr, at_ := hw.at_, mp := hw.mp }
theorem alloc_cell (w : World) (c : Array Value) (t : TypeId) (j : Nat) : (w.alloc (.cells c t)).cell? ⟨w.heap.size, j, none⟩ = c[j]? := World.cell?_alloc_new w c t j
theorem alloc_frozen (w : World) (c : Array Value) (t : TypeId) (j : Nat) : (w.alloc (.cells c t)).frozen? ⟨w.heap.size, j, none⟩ = false := by
  have : (w.alloc (.cells c t)).heap[w.heap.size]? = some (.cells c t) := by
    show (w.heap.push _)[w.heap.size]? = _
    simp
  unfold World.frozen?
  rw [this]
  simp
theorem alloc_old (w : World) (o : Obj) {a : Addr} (ha : a.block < w.heap.size) : (w.alloc o).cell? a = w.cell? a ∧ (w.alloc o).frozen? a = w.frozen? a :=
  ⟨World.cell?_of_block (Below.heap_alloc w o _ ha), World.frozen?_of_block (Below.heap_alloc w o _ ha)⟩
/-- A block more, wherever it lies, if no other that is looked at lies there. -/
theorem WR.lay (hw : WR B w0 m h w) {cells : List Value} {x : MB} {w' : World} (hx : x.es ≠ 0) (hok : ∀ v ∈ cells, okC m h.nb v ∧ isCell v = true) (hlo : B ≤ x.blk ∧ x.blk < w'.heap.size ∧ x.sh + cells.length ≤ x.sz)
    (hat : ∀ (i : Nat) (v : Value), cells[i]? = some v → w'.cell? ⟨x.blk, x.sh + i, none⟩ = some (cv m v)) (hfr : ∀ i, i < x.sz → (w'.cell? ⟨x.blk, i, none⟩).isSome = true ∧ w'.frozen? ⟨x.blk, i, none⟩ = false)
    (hold : ∀ k r, h.get k = some r → r.live = true → (m k).blk ≠ x.blk ∧ ∀ o, w'.cell? ⟨(m k).blk, o, none⟩ = w.cell? ⟨(m k).blk, o, none⟩ ∧ w'.frozen? ⟨(m k).blk, o, none⟩ = w.frozen? ⟨(m k).blk, o, none⟩)
    (hmap : ∀ k r, h.get k = some r → r.live = false → r.es = 0 → w'.heap[(m k).blk]? = w.heap[(m k).blk]?) (hb : Below B w0 w') (hs : w.heap.size ≤ w'.heap.size) :
    Ext m (upd m h.nb x) h.nb ∧ WR B w0 (upd m h.nb x) (h.push ⟨cells, x.es, true⟩) w' := by
  have he : Ext m (upd m h.nb x) h.nb := upd_ext _
  refine ⟨he, ?_⟩
  have hnb : (h.push ⟨cells, x.es, true⟩).nb = h.nb + 1 := rfl
  have old : ∀ k r, k ≠ h.nb → (h.push ⟨cells, x.es, true⟩).get k = some r → h.get k = some r ∧ upd m h.nb x k = m k := fun k r hk hg => ⟨(get_push_old _ hk).symm.trans hg, upd_ne _ hk⟩
  have new : ∀ r, (h.push ⟨cells, x.es, true⟩).get h.nb = some r → r = ⟨cells, x.es, true⟩ := fun r hg => by rw [get_push_new] at hg; exact (Option.some.inj hg).symm
  have new2 : upd m h.nb x h.nb = x := upd_same _ _
  refine { ln := by simp [HP.push, hw.ln], es := fun k r hg hz => ?_, ok := fun k r hg hl v hv => ?_, bel := hb, sB := by have := hw.sB; omega, lo := fun k r hg hl => ?_, fr := fun k r hg hl hz o ho => ?_, at_ := fun k r hg hl i v hv => ?_, inj := fun j k r s hg hg2 hl hl2 hz hz2 e => ?_, mp := fun k r hg hl he0 => ?_, mi := fun j k r s hg hg2 hl hl2 e1 e2 e => ?_ }
  · by_cases hk : k = h.nb
    · subst hk; rw [new2, new r hg]
    · obtain ⟨h1, h2⟩ := old k r hk hg
      rw [h2]; exact hw.es k r h1 hz
  · by_cases hk : k = h.nb
    · subst hk
      rw [new r hg] at hv
      obtain ⟨k1, k2⟩ := hok v hv
      exact ⟨(okC_ext he (by rw [hnb]; omega) k1).1, k2⟩
    · obtain ⟨h1, h2⟩ := old k r hk hg
      obtain ⟨k1, k2⟩ := hw.ok k r h1 hl v hv
      exact ⟨(okC_ext he (by rw [hnb]; omega) k1).1, k2⟩
  · by_cases hk : k = h.nb
    · subst hk
      rw [new2, new r hg]
      exact ⟨fun _ => hlo.1, fun e => absurd e hx, hlo.2.1, hlo.2.2⟩
    · obtain ⟨h1, h2⟩ := old k r hk hg
      obtain ⟨k1, k0, k2, k3⟩ := hw.lo k r h1 hl
      rw [h2]
      exact ⟨k1, k0, by omega, k3⟩
  · by_cases hk : k = h.nb
    · subst hk
      rw [new2] at ho ⊢
      exact hfr o ho
    · obtain ⟨h1, h2⟩ := old k r hk hg
      rw [h2] at ho ⊢
      obtain ⟨e1, e2⟩ := (hold k r h1 hl).2 o
      rw [e1, e2]
      exact hw.fr k r h1 hl hz o ho
  · by_cases hk : k = h.nb
    · subst hk
      rw [new r hg] at hv
      rw [new2, (okC_ext he (Nat.le_refl _) (hok v (List.mem_of_getElem? hv)).1).2]
      exact hat i v hv
    · obtain ⟨h1, h2⟩ := old k r hk hg
      rw [h2, ((hold k r h1 hl).2 ((m k).sh + i)).1, (okC_ext he (Nat.le_refl _) (hw.ok k r h1 hl v (List.mem_of_getElem? hv)).1).2]
      exact hw.at_ k r h1 hl i v hv
  · by_cases hj : j = h.nb <;> by_cases hk : k = h.nb
    · rw [hj, hk]
    · obtain ⟨h1, h2⟩ := old k s hk hg2
      rw [hj, new2, h2] at e
      exact absurd e.symm (hold k s h1 hl2).1
    · obtain ⟨h1, h2⟩ := old j r hj hg
      rw [hk, new2, h2] at e
      exact absurd e (hold j r h1 hl).1
    · obtain ⟨h1, h2⟩ := old j r hj hg
      obtain ⟨h3, h4⟩ := old k s hk hg2
      rw [h2, h4] at e
      exact hw.inj j k r s h1 h3 hl hl2 hz hz2 e
  · by_cases hk : k = h.nb
    · subst hk; rw [new r hg] at hl; cases hl
    · obtain ⟨h1, h2⟩ := old k r hk hg
      obtain ⟨q1, E, c, q2, q3⟩ := hw.mp k r h1 hl he0
      rw [h2]
      exact ⟨q1, E, c, (hmap k r h1 hl he0).trans q2, q3⟩
  · by_cases hj : j = h.nb
    · subst hj; rw [new r hg] at hl; cases hl
    · by_cases hk : k = h.nb
      · subst hk; rw [new s hg2] at hl2; cases hl2
      · obtain ⟨h1, h2⟩ := old j r hj hg
        obtain ⟨h3, h4⟩ := old k s hk hg2
        rw [h2, h4] at e
        exact hw.mi j k r s h1 h3 hl hl2 e1 e2 e
/-- A new block; w' may be the world behind the alloc, its frozen cells behind the row's end. -/
theorem WR.new (hw : WR B w0 m h w) {cells : List Value} {n es : Nat} {w' : World} (hx : es ≠ 0) (hok : ∀ v ∈ cells, okC m h.nb v ∧ isCell v = true) (hlen : cells.length ≤ n)
    (hat : ∀ (i : Nat) (v : Value), cells[i]? = some v → w'.cell? ⟨w.heap.size, i, none⟩ = some (cv m v)) (hfr : ∀ i, i < n → (w'.cell? ⟨w.heap.size, i, none⟩).isSome = true ∧ w'.frozen? ⟨w.heap.size, i, none⟩ = false)
    (hold : ∀ a : Addr, a.block < w.heap.size → w'.cell? a = w.cell? a ∧ w'.frozen? a = w.frozen? a) (hb : Below w.heap.size w w') (hs : w.heap.size < w'.heap.size) :
    Ext m (upd m h.nb ⟨w.heap.size, 0, n, es⟩) h.nb ∧ WR B w0 (upd m h.nb ⟨w.heap.size, 0, n, es⟩) (h.push ⟨cells, es, true⟩) w' :=
  hw.lay (x := ⟨w.heap.size, 0, n, es⟩) hx hok ⟨hw.sB, hs, by simpa using hlen⟩ (fun i v hv => by show w'.cell? ⟨w.heap.size, 0 + i, none⟩ = _; rw [Nat.zero_add]; exact hat i v hv) hfr
    (fun k r hg hl => by
      have := (hw.lo k r hg hl).2.2.1
      exact ⟨by show _ ≠ w.heap.size; omega, fun o => hold ⟨(m k).blk, o, none⟩ this⟩) (fun k r hg hl h0 => by
      obtain ⟨-, E, c, q2, -⟩ := hw.mp k r hg hl h0
      exact hb.block _ (Array.getElem?_eq_some_iff.1 q2).1) (hw.bel.trans (hb.mono hw.sB)) (by omega)
theorem WR.alloc (hw : WR B w0 m h w) {cells : List Value} {es : Nat} {cs : Array Value} (ty : TypeId) (hx : es ≠ 0) (hok : ∀ v ∈ cells, okC m h.nb v ∧ isCell v = true) (hlen : cells.length ≤ cs.size)
    (hat : ∀ (i : Nat) (v : Value), cells[i]? = some v → cs[i]? = some (cv m v)) :
    Ext m (upd m h.nb ⟨w.heap.size, 0, cs.size, es⟩) h.nb ∧ WR B w0 (upd m h.nb ⟨w.heap.size, 0, cs.size, es⟩) (h.push ⟨cells, es, true⟩) (w.alloc (.cells cs ty)) :=
  hw.new hx hok hlen (fun i v hv => by rw [alloc_cell]; exact hat i v hv) (fun i hi => ⟨by rw [alloc_cell]; simp [hi], alloc_frozen w cs ty i⟩) (fun a ha => alloc_old w _ ha) ((Below.refl _ w).alloc (Nat.le_refl _) _) (by simp)
theorem setAt_get : ∀ (vs : List Value) (l : List Value) (o i : Nat), o + vs.length ≤ l.length → (setAt l o vs)[i]? = if o ≤ i ∧ i < o + vs.length then vs[i - o]? else l[i]?
  | [], l, o, i, _ => by
    rw [if_neg (by simp only [List.length_nil]; omega)]
    rfl
  | v :: vs, l, o, i, hl => by
    simp only [List.length_cons] at hl
    rw [setAt, setAt_get vs (l.set o v) (o + 1) i (by simp; omega)]
    by_cases h1 : i = o
    · subst h1
      rw [if_neg (by omega), if_pos ⟨by omega, by simp⟩, List.getElem?_set_self (by omega), Nat.sub_self]
      rfl
    · rw [List.getElem?_set_ne (by omega)]
      by_cases h2 : o + 1 ≤ i ∧ i < o + 1 + vs.length
      · rw [if_pos h2, if_pos ⟨by omega, by simp; omega⟩, show i - o = (i - (o + 1)) + 1 by omega]
        rfl
      · rw [if_neg h2, if_neg (by simp; omega)]
theorem setAt_len : ∀ (vs : List Value) (l : List Value) (o : Nat), (setAt l o vs).length = l.length
  | [], l, o => rfl
  | v :: vs, l, o => by rw [setAt, setAt_len vs]; simp
theorem setAt_mem : ∀ (vs : List Value) (l : List Value) (o : Nat) (v : Value), v ∈ setAt l o vs → v ∈ l ∨ v ∈ vs
  | [], l, o, v, h => .inl h
  | u :: vs, l, o, v, h => by
    rcases setAt_mem vs _ _ v h with h | h
    · rcases List.mem_or_eq_of_mem_set h with h | rfl
      · exact .inl h
      · exact .inr (by simp)
    · exact .inr (by simp [h])
theorem Below.setCells (g : Nat) {B : Nat} {a : World} : ∀ (vs : List Value) (o : Nat) (w : World), Below B a w → B ≤ g → Below B a (w.setCells g o vs)
  | [], _, _, h, _ => h
  | v :: r, o, w, h, hb => Below.setCells g r (o + 1) _ (h.setCell (p := ⟨g, o, none⟩) hb v) hb
theorem size_setCells (g : Nat) : ∀ (vs : List Value) (o : Nat) (w : World), (w.setCells g o vs).heap.size = w.heap.size
  | [], _, _ => rfl
  | v :: r, o, w => by rw [World.setCells, size_setCells g r (o + 1)]; simp [World.setCell]
theorem cell_out (g : Nat) (vs : List Value) (o : Nat) (w : World) {a : Addr} (ha : a.block ≠ g) : (w.setCells g o vs).cell? a = w.cell? a :=
  World.cell?_setCells_out g vs o w a (fun e => absurd e ha)
/-- Cells are there behind a write where they were there ahead of it. -/
theorem cell_there (g : Nat) (vs : List Value) (o : Nat) (w : World) (hc : ∀ j, j < vs.length → (w.cell? ⟨g, o + j, none⟩).isSome = true) (i : Nat) (hi : (w.cell? ⟨g, i, none⟩).isSome = true) : ((w.setCells g o vs).cell? ⟨g, i, none⟩).isSome = true := by
  by_cases h1 : o ≤ i ∧ i < o + vs.length
  · have := World.cell?_setCells_in g vs o w hc (i - o) (by omega)
    rw [show o + (i - o) = i by omega] at this
    rw [this]; rfl
  · rw [World.cell?_setCells_out g vs o w ⟨g, i, none⟩ (fun _ _ => by dsimp only; omega)]
    exact hi
/-- Maps stay where cells are written. -/
theorem map_setCells {g o : Nat} {vs : List Value} {w : World} (hc : ∀ j, j < vs.length → (w.cell? ⟨g, o + j, none⟩).isSome = true) {k : Nat} {E : Array MapEntry} {c : Nat} (hk : w.heap[k]? = some (.map E c)) : (w.setCells g o vs).heap[k]? = w.heap[k]? := by
  cases vs with
  | nil => rfl
  | cons v vs =>
    refine World.heap_setCells_other w g o _ (Array.getElem?_eq_some_iff.1 hk).1 fun e => ?_
    subst e
    have := hc 0 (by simp)
    simp [World.cell?, hk] at this
/-- A write. -/
theorem WR.write (hw : WR B w0 m h w) {b o : Nat} {vs : List Value} {h1 : HP} (hwr : h.write b o vs = some h1) (hok : ∀ v ∈ vs, okC m h.nb v ∧ isCell v = true) :
    h1.nb = h.nb ∧ (∀ j, j < vs.length → (w.cell? ⟨(m b).blk, (m b).sh + o + j, none⟩).isSome = true ∧ w.frozen? ⟨(m b).blk, (m b).sh + o + j, none⟩ = false) ∧ WR B w0 m h1 (w.setCells (m b).blk ((m b).sh + o) (vs.map (cv m))) := by
  unfold HP.write at hwr
  split at hwr
  · rename_i r hg
    split at hwr
    · rename_i hc
      obtain ⟨hl, hz0, hle⟩ := hc
      cases hwr
      obtain ⟨k1, -, k2, k3⟩ := hw.lo b r hg hl
      have k1 := k1 hz0
      have hthere : ∀ j, j < vs.length → (w.cell? ⟨(m b).blk, (m b).sh + o + j, none⟩).isSome = true ∧ w.frozen? ⟨(m b).blk, (m b).sh + o + j, none⟩ = false := fun j hj => by
        have := hw.fr b r hg hl hz0 ((m b).sh + o + j) (by omega)
        exact this
      refine ⟨rfl, hthere, ?_⟩
      have hth : ∀ j, j < (vs.map (cv m)).length → (w.cell? ⟨(m b).blk, (m b).sh + o + j, none⟩).isSome = true := fun j hj => (hthere j (by simpa using hj)).1
      have old : ∀ k s, k ≠ b → (h.put b { r with cells := setAt r.cells o vs }).get k = some s → h.get k = some s := fun k s hk hg2 => (get_put_ne hg _ hk).symm.trans hg2
      have new : ∀ s, (h.put b { r with cells := setAt r.cells o vs }).get b = some s → s = { r with cells := setAt r.cells o vs } := fun s hg2 => by rw [get_put_same hg] at hg2; exact (Option.some.inj hg2).symm
      have alive : ∀ k s, (h.put b { r with cells := setAt r.cells o vs }).get k = some s → s.live = true → ∃ s', h.get k = some s' ∧ s'.live = true ∧ s'.cells.length = s.cells.length ∧ s'.es = s.es := fun k s hg2 hl2 => by
        by_cases hk : k = b
        · subst hk
          rw [new s hg2]
          exact ⟨r, hg, hl, (setAt_len _ _ _).symm, rfl⟩
        · exact ⟨s, old k s hk hg2, hl2, rfl, rfl⟩
      refine { ln := by show (h.l.set _ _).length = h.nb; rw [List.length_set]; exact hw.ln, es := fun k s hg2 hz => ?_, ok := fun k s hg2 hl2 v hv => ?_, bel := Below.setCells _ _ _ _ hw.bel k1, sB := by rw [size_setCells]; exact hw.sB, lo := fun k s hg2 hl2 => ?_, fr := fun k s hg2 hl2 hz i hi => ?_, at_ := fun k s hg2 hl2 i v hv => ?_, inj := fun j k s s2 hg2 hg3 hl2 hl3 hz hz2 e => ?_, mp := fun k s hg2 hl2 he0 => ?_, mi := fun j k s s2 hg2 hg3 hl2 hl3 e1 e2 e => ?_ }
      · by_cases hk : k = b
        · subst hk; rw [new s hg2]; exact hw.es k r hg hz0
        · exact hw.es k s (old k s hk hg2) hz
      · by_cases hk : k = b
        · subst hk
          rw [new s hg2] at hv
          rcases setAt_mem _ _ _ _ hv with hv | hv
          · exact hw.ok k r hg hl v hv
          · exact hok v hv
        · exact hw.ok k s (old k s hk hg2) hl2 v hv
      · obtain ⟨s', g1, g2, g3, g4⟩ := alive k s hg2 hl2
        obtain ⟨q1, q0, q2, q3⟩ := hw.lo k s' g1 g2
        rw [size_setCells, ← g4]
        exact ⟨q1, q0, q2, by omega⟩
      · obtain ⟨s', g1, g2, g3, g4⟩ := alive k s hg2 hl2
        obtain ⟨q1, q2⟩ := hw.fr k s' g1 g2 (by rw [g4]; exact hz) i hi
        rw [World.frozen?_setCells]
        refine ⟨?_, q2⟩
        by_cases hk : (m k).blk = (m b).blk
        · rw [hk] at q1 ⊢
          exact cell_there _ _ _ _ hth i q1
        · rw [cell_out _ _ _ _ (by exact hk)]
          exact q1
      · by_cases hk : k = b
        · subst hk
          rw [new s hg2] at hv
          dsimp only at hv
          rw [setAt_get _ _ _ _ hle] at hv
          split at hv
          · rename_i hin
            have hlt := (List.getElem?_eq_some_iff.1 hv).1
            have := World.cell?_setCells_in (m k).blk (vs.map (cv m)) ((m k).sh + o) w hth (i - o) (by simpa using hlt)
            rw [show (m k).sh + o + (i - o) = (m k).sh + i by omega] at this
            rw [this, List.getElem_map, (List.getElem?_eq_some_iff.1 hv).2]
          · rename_i hin
            rw [World.cell?_setCells_out _ _ _ _ _ (fun _ _ => by simp; omega)]
            exact hw.at_ k r hg hl i v hv
        · have g1 := old k s hk hg2
          rw [cell_out _ _ _ _ (fun e => hk (hw.sep hg g1 hl hl2 hz0 e.symm).symm)]
          exact hw.at_ k s g1 hl2 i v hv
      · obtain ⟨s', g1, g2, -, g5⟩ := alive j s hg2 hl2
        obtain ⟨s'', g3, g4, -, g6⟩ := alive k s2 hg3 hl3
        exact hw.inj j k s' s'' g1 g3 g2 g4 (by rw [g5]; exact hz) (by rw [g6]; exact hz2) e
      · by_cases hk : k = b
        · subst hk; rw [new s hg2] at hl2; rw [show ({ r with cells := setAt r.cells o vs } : RB).live = r.live from rfl, hl] at hl2; cases hl2
        · obtain ⟨q1, E, c, q2, q3⟩ := hw.mp k s (old k s hk hg2) hl2 he0
          exact ⟨q1, E, c, (map_setCells hth q2).trans q2, q3⟩
      · have nb : ∀ k s, (h.put b { r with cells := setAt r.cells o vs }).get k = some s → s.live = false → h.get k = some s := fun k s hg2 hl2 => by
          by_cases hk : k = b
          · subst hk; rw [new s hg2] at hl2; rw [show ({ r with cells := setAt r.cells o vs } : RB).live = r.live from rfl, hl] at hl2; cases hl2
          · exact old k s hk hg2
        exact hw.mi j k s s2 (nb j s hg2 hl2) (nb k s2 hg3 hl3) hl2 hl3 e1 e2 e
    · cases hwr
  · cases hwr
/-- A block that nobody looks at any more. -/
theorem WR.kill (hw : WR B w0 m h w) {b : Nat} {r : RB} (hg : h.get b = some r) (hne : r.es ≠ 0) : WR B w0 m (h.put b { r with live := false }) w := by
  have old : ∀ k s, k ≠ b → (h.put b { r with live := false }).get k = some s → h.get k = some s := fun k s hk hg2 => (get_put_ne hg _ hk).symm.trans hg2
  have alive : ∀ k s, (h.put b { r with live := false }).get k = some s → s.live = true → h.get k = some s := fun k s hg2 hl2 => by
    by_cases hk : k = b
    · subst hk
      rw [get_put_same hg] at hg2
      cases hg2
      cases hl2
    · exact old k s hk hg2
  have dead : ∀ k s, (h.put b { r with live := false }).get k = some s → s.live = false → s.es = 0 → h.get k = some s := fun k s hg2 hl2 he0 => by
    by_cases hk : k = b
    · subst hk
      rw [get_put_same hg] at hg2
      cases hg2
      exact absurd he0 hne
    · exact old k s hk hg2
  refine { ln := by show (h.l.set _ _).length = h.nb; rw [List.length_set]; exact hw.ln, es := fun k s hg2 hz => ?_, ok := fun k s hg2 hl2 => hw.ok k s (alive k s hg2 hl2) hl2, bel := hw.bel, sB := hw.sB, lo := fun k s hg2 hl2 => hw.lo k s (alive k s hg2 hl2) hl2, fr := fun k s hg2 hl2 => hw.fr k s (alive k s hg2 hl2) hl2, at_ := fun k s hg2 hl2 => hw.at_ k s (alive k s hg2 hl2) hl2, inj := fun j k s s2 hg2 hg3 hl2 hl3 => hw.inj j k s s2 (alive j s hg2 hl2) (alive k s2 hg3 hl3) hl2 hl3, mp := fun k s hg2 hl2 he0 => hw.mp k s (dead k s hg2 hl2 he0) hl2 he0, mi := fun j k s s2 hg2 hg3 hl2 hl3 e1 e2 e => hw.mi j k s s2 (dead j s hg2 hl2 e1) (dead k s2 hg3 hl3 e2) hl2 hl3 e1 e2 e }
  by_cases hk : k = b
  · subst hk
    rw [get_put_same hg] at hg2
    cases hg2
    exact hw.es k r hg hz
  · exact hw.es k s (old k s hk hg2) hz
/-- Where a map lies there are no cells. -/
theorem map_no_cell {g : Nat} {E : Array MapEntry} {c : Nat} (hm : w.heap[g]? = some (.map E c)) (o : Nat) : w.cell? ⟨g, o, none⟩ = none := by simp [World.cell?, hm]
theorem live_ne_map (hw : WR B w0 m h w) {k : Nat} {r : RB} (hg : h.get k = some r) (hl : r.live = true) (hz : r.es ≠ 0) {g : Nat} {E : Array MapEntry} {c : Nat} (hm : w.heap[g]? = some (.map E c)) {o : Nat} (ho : o < (m k).sz) : (m k).blk ≠ g := fun e => by
  have := (hw.fr k r hg hl hz o ho).1
  rw [e, map_no_cell hm] at this
  cases this
theorem cell_ne_map (hw : WR B w0 m h w) {k : Nat} {r : RB} (hg : h.get k = some r) (hl : r.live = true) {g : Nat} {E : Array MapEntry} {c : Nat} (hm : w.heap[g]? = some (.map E c)) {i : Nat} {v : Value} (hv : r.cells[i]? = some v) : (m k).blk ≠ g := fun e => by
  have := hw.at_ k r hg hl i v hv
  rw [e, map_no_cell hm] at this
  cases this
/-- A new map. -/
theorem WR.mnew (hw : WR B w0 m h w) : Ext m (upd m h.nb ⟨w.heap.size, 0, 0, 0⟩) h.nb ∧ WR B w0 (upd m h.nb ⟨w.heap.size, 0, 0, 0⟩) (h.push ⟨[], 0, false⟩) (w.alloc (.map #[] 0)) := by
  have he : Ext m (upd m h.nb ⟨w.heap.size, 0, 0, 0⟩) h.nb := upd_ext _
  refine ⟨he, ?_⟩
  have hnb : (h.push ⟨[], 0, false⟩).nb = h.nb + 1 := rfl
  have old : ∀ k r, k ≠ h.nb → (h.push ⟨[], 0, false⟩).get k = some r → h.get k = some r ∧ upd m h.nb ⟨w.heap.size, 0, 0, 0⟩ k = m k := fun k r hk hg => ⟨(get_push_old _ hk).symm.trans hg, upd_ne _ hk⟩
  have new : ∀ r, (h.push ⟨[], 0, false⟩).get h.nb = some r → r = ⟨[], 0, false⟩ := fun r hg => by rw [get_push_new] at hg; exact (Option.some.inj hg).symm
  have new2 : upd m h.nb ⟨w.heap.size, 0, 0, 0⟩ h.nb = ⟨w.heap.size, 0, 0, 0⟩ := upd_same _ _
  have alive : ∀ k r, (h.push ⟨[], 0, false⟩).get k = some r → r.live = true → h.get k = some r ∧ upd m h.nb ⟨w.heap.size, 0, 0, 0⟩ k = m k := fun k r hg hl => by
    by_cases hk : k = h.nb
    · subst hk; rw [new r hg] at hl; cases hl
    · exact old k r hk hg
  refine { ln := by simp [HP.push, hw.ln], es := fun k r hg hz => ?_, ok := fun k r hg hl v hv => ?_, bel := hw.bel.alloc hw.sB _, sB := by have := hw.sB; simp; omega, lo := fun k r hg hl => ?_, fr := fun k r hg hl hz o ho => ?_, at_ := fun k r hg hl i v hv => ?_, inj := fun j k r s hg hg2 hl hl2 hz hz2 e => ?_, mp := fun k r hg hl he0 => ?_, mi := fun j k r s hg hg2 hl hl2 e1 e2 e => ?_ }
  · by_cases hk : k = h.nb
    · subst hk; rw [new2, new r hg]
    · obtain ⟨h1, h2⟩ := old k r hk hg
      rw [h2]; exact hw.es k r h1 hz
  · obtain ⟨k1, k2⟩ := hw.ok k r (alive k r hg hl).1 hl v hv
    exact ⟨(okC_ext he (by rw [hnb]; omega) k1).1, k2⟩
  · obtain ⟨h1, h2⟩ := alive k r hg hl
    obtain ⟨k1, k0, k2, k3⟩ := hw.lo k r h1 hl
    rw [h2]
    exact ⟨k1, k0, by simp; omega, k3⟩
  · obtain ⟨h1, h2⟩ := alive k r hg hl
    rw [h2] at ho ⊢
    obtain ⟨e1, e2⟩ := alloc_old w (.map #[] 0) (a := ⟨(m k).blk, o, none⟩) (hw.lo k r h1 hl).2.2.1
    rw [e1, e2]
    exact hw.fr k r h1 hl hz o ho
  · obtain ⟨h1, h2⟩ := alive k r hg hl
    rw [h2, (alloc_old w (.map #[] 0) (a := ⟨(m k).blk, (m k).sh + i, none⟩) (hw.lo k r h1 hl).2.2.1).1, (okC_ext he (Nat.le_refl _) (hw.ok k r h1 hl v (List.mem_of_getElem? hv)).1).2]
    exact hw.at_ k r h1 hl i v hv
  · obtain ⟨h1, h2⟩ := alive j r hg hl
    obtain ⟨h3, h4⟩ := alive k s hg2 hl2
    rw [h2, h4] at e
    exact hw.inj j k r s h1 h3 hl hl2 hz hz2 e
  · by_cases hk : k = h.nb
    · subst hk
      rw [new2, new r hg]
      exact ⟨hw.sB, #[], 0, by show (w.heap.push _)[w.heap.size]? = _; simp, rfl, by simp⟩
    · obtain ⟨h1, h2⟩ := old k r hk hg
      obtain ⟨q1, E, c, q2, q3⟩ := hw.mp k r h1 hl he0
      rw [h2]
      exact ⟨q1, E, c, (Below.heap_alloc w _ _ (Array.getElem?_eq_some_iff.1 q2).1).trans q2, q3⟩
  · have lt : ∀ k r, h.get k = some r → r.live = false → r.es = 0 → (m k).blk < w.heap.size := fun k r hg hl h0 => by
      obtain ⟨-, E, c, q2, -⟩ := hw.mp k r hg hl h0
      exact (Array.getElem?_eq_some_iff.1 q2).1
    by_cases hj : j = h.nb <;> by_cases hk : k = h.nb
    · rw [hj, hk]
    · obtain ⟨h1, h2⟩ := old k s hk hg2
      have := lt k s h1 hl2 e2
      rw [hj, new2, h2] at e
      dsimp only at e
      omega
    · obtain ⟨h1, h2⟩ := old j r hj hg
      have := lt j r h1 hl e1
      rw [hk, new2, h2] at e
      dsimp only at e
      omega
    · obtain ⟨h1, h2⟩ := old j r hj hg
      obtain ⟨h3, h4⟩ := old k s hk hg2
      rw [h2, h4] at e
      exact hw.mi j k r s h1 h3 hl hl2 e1 e2 e
/-- A map's entries turned. -/
theorem WR.mput (hw : WR B w0 m h w) {b : Nat} {r : RB} (hg : h.get b = some r) (hl : r.live = false) (h0 : r.es = 0) {es : List Value} {E : Array MapEntry} {c : Nat} (he : E.toList.map (fun e => Value.tuple #[e.key, e.val]) = es) (hs : ∀ e ∈ E.toList, ∃ s, e.key = .string s) :
    WR B w0 m (h.put b ⟨es, 0, false⟩) { w with heap := w.heap.setIfInBounds (m b).blk (.map E c) } := by
  obtain ⟨b1, E0, c0, b2, -⟩ := hw.mp b r hg hl h0
  have hlt := (Array.getElem?_eq_some_iff.1 b2).1
  have other : ∀ k, k ≠ (m b).blk → ({ w with heap := w.heap.setIfInBounds (m b).blk (.map E c) } : World).heap[k]? = w.heap[k]? := fun k hk => by
    show (w.heap.setIfInBounds _ _)[k]? = _
    rw [Array.getElem?_setIfInBounds, if_neg (fun e => hk e.symm)]
  have old : ∀ k s, k ≠ b → (h.put b ⟨es, 0, false⟩).get k = some s → h.get k = some s := fun k s hk hg2 => (get_put_ne hg _ hk).symm.trans hg2
  have new : ∀ s, (h.put b ⟨es, 0, false⟩).get b = some s → s = ⟨es, 0, false⟩ := fun s hg2 => by rw [get_put_same hg] at hg2; exact (Option.some.inj hg2).symm
  have alive : ∀ k s, (h.put b ⟨es, 0, false⟩).get k = some s → s.live = true → h.get k = some s := fun k s hg2 hl2 => by
    by_cases hk : k = b
    · subst hk; rw [new s hg2] at hl2; cases hl2
    · exact old k s hk hg2
  have dead : ∀ k s, (h.put b ⟨es, 0, false⟩).get k = some s → s.live = false → s.es = 0 → ∃ s', h.get k = some s' ∧ s'.live = false ∧ s'.es = 0 := fun k s hg2 hl2 he0 => by
    by_cases hk : k = b
    · subst hk; exact ⟨r, hg, hl, h0⟩
    · exact ⟨s, old k s hk hg2, hl2, he0⟩
  refine { ln := by show (h.l.set _ _).length = h.nb; rw [List.length_set]; exact hw.ln, es := fun k s hg2 hz => ?_, ok := fun k s hg2 hl2 => hw.ok k s (alive k s hg2 hl2) hl2, bel := hw.bel.trans ⟨rfl, rfl, rfl, by simp, fun k hk => other k (by omega)⟩, sB := by have := hw.sB; simpa using this, lo := fun k s hg2 hl2 => by simpa using hw.lo k s (alive k s hg2 hl2) hl2, fr := fun k s hg2 hl2 hz o ho => ?_, at_ := fun k s hg2 hl2 i v hv => ?_, inj := fun j k s s2 hg2 hg3 hl2 hl3 => hw.inj j k s s2 (alive j s hg2 hl2) (alive k s2 hg3 hl3) hl2 hl3, mp := fun k s hg2 hl2 he0 => ?_, mi := fun j k s s2 hg2 hg3 hl2 hl3 e1 e2 e => ?_ }
  · by_cases hk : k = b
    · subst hk; rw [new s hg2] at hz; exact absurd rfl hz
    · exact hw.es k s (old k s hk hg2) hz
  · have hne := live_ne_map hw (alive k s hg2 hl2) hl2 hz b2 ho
    rw [World.cell?_of_block (other _ hne), World.frozen?_of_block (other _ hne)]
    exact hw.fr k s (alive k s hg2 hl2) hl2 hz o ho
  · have hg3 := alive k s hg2 hl2
    have hne := cell_ne_map hw hg3 hl2 b2 hv
    rw [World.cell?_of_block (other _ hne)]
    exact hw.at_ k s hg3 hl2 i v hv
  · by_cases hk : k = b
    · subst hk
      rw [new s hg2]
      exact ⟨b1, E, c, by show (w.heap.setIfInBounds _ _)[_]? = _; rw [Array.getElem?_setIfInBounds, if_pos rfl, if_pos hlt], he, hs⟩
    · have hg3 := old k s hk hg2
      obtain ⟨q1, E', c', q2, q3⟩ := hw.mp k s hg3 hl2 he0
      exact ⟨q1, E', c', (other _ (fun e => hk (hw.mi k b s r hg3 hg hl2 hl he0 h0 e))).trans q2, q3⟩
  · obtain ⟨s', g1, g2, g3⟩ := dead j s hg2 hl2 e1
    obtain ⟨s'', g4, g5, g6⟩ := dead k s2 hg3 hl3 e2
    exact hw.mi j k s' s'' g1 g4 g2 g5 g3 g6 e
end
end Go.Proofs.YteeanpfhngoobaaGreat.Xk
namespace Go.Proofs.YteeanpfhngoobaaGreat.Xk
open Go.RowKit Go.MapKept

section
variable {m : Nat → MB} {P : Program} {h : HP} {w w0 : World} {B : Nat}
theorem nilEq_run {op : BinOp} {t : TypeId} {x y : Operand} {a b : Value} {z : Bool} (hz : nilEq P op t a b = some z) (w : World) :
    (do eqGuard op t x y (cT m a) (cT m b); binOp op t (cT m a) (cT m b) : Sem Value).run P w = .ok (.bool z) w := by
  unfold nilEq at hz
  split at hz
  · rename_i p
    have ep : ∃ q, cT m (.map p) = .map q ∧ q.isNone = p.isNone ∧ q.isSome = p.isSome := by
      cases p with
      | none => exact ⟨none, rfl, rfl, rfl⟩
      | some r => exact ⟨_, rfl, rfl, rfl⟩
    obtain ⟨q, e1, e2, e3⟩ := ep
    rw [e1, show cT m (.map none) = .map none from rfl]
    have hq : ∀ {k e : TypeId}, P.underlying t = some (.map k e) → ∀ d, (Op.equalIn (d + 1) t (.map q) (.map none)).run P w = .ok q.isNone w := fun hu d => by
      cases q <;> simp [Op.equalIn, run_underlying hu]
    split at hz
    · rename_i k e hu
      cases hz
      rw [← e2]
      simp [eqGuard, binOp, Op.equal, Op.maxDepth, hq hu 9999, Result.andThen]
    · rename_i k e hu
      cases hz
      rw [← e3]
      simp [eqGuard, binOp, Op.equal, Op.maxDepth, hq hu 9999, Result.andThen]
    · cases hz
  · rename_i p
    have ep : ∃ q, cT m (.pointer p) = .pointer q ∧ q.isNone = p.isNone ∧ q.isSome = p.isSome := by
      cases p with
      | none => exact ⟨none, rfl, rfl, rfl⟩
      | some r => exact ⟨_, rfl, rfl, rfl⟩
    obtain ⟨q, e1, e2, e3⟩ := ep
    rw [e1, show cT m (.pointer none) = .pointer none from rfl]
    have hq : ∀ {e : TypeId}, P.underlying t = some (.pointer e) → ∀ d, (Op.equalIn (d + 1) t (.pointer q) (.pointer none)).run P w = .ok q.isNone w := fun hu d => by
      cases q <;> simp [Op.equalIn, run_underlying hu]
    split at hz
    · rename_i e hu
      cases hz
      rw [← e2]
      simp [eqGuard, binOp, Op.equal, Op.maxDepth, hq hu 9999, Result.andThen]
    · rename_i e hu
      cases hz
      rw [← e3]
      simp [eqGuard, binOp, Op.equal, Op.maxDepth, hq hu 9999, Result.andThen]
    · cases hz
  · rename_i p n c n' c'
    have ep : ∃ q n2 c2, cT m (.slice p n c) = .slice q n2 c2 ∧ q.isNone = p.isNone ∧ q.isSome = p.isSome := by
      cases p with
      | none => exact ⟨none, _, _, rfl, rfl, rfl⟩
      | some a =>
        obtain ⟨b, o, sp⟩ := a
        rw [cT_sl]
        unfold cs0
        split
        · exact ⟨_, _, _, rfl, rfl, rfl⟩
        · split <;> exact ⟨_, _, _, rfl, rfl, rfl⟩
    obtain ⟨q, n2, c2, e1, e2, e3⟩ := ep
    rw [e1, show cT m (.slice none n' c') = .slice none n' c' from rfl]
    have hq : ∀ {e : TypeId}, P.underlying t = some (.slice e) → ∀ d, (Op.equalIn (d + 1) t (.slice q n2 c2) (.slice none n' c')).run P w = .ok q.isNone w := fun hu d => by
      cases q <;> simp [Op.equalIn, run_underlying hu]
    split at hz
    · rename_i e hu
      cases hz
      rw [← e2]
      simp [eqGuard, binOp, Op.equal, Op.maxDepth, hq hu 9999, Result.andThen]
    · rename_i e hu
      cases hz
      rw [← e3]
      simp [eqGuard, binOp, Op.equal, Op.maxDepth, hq hu 9999, Result.andThen]
    · cases hz
  · cases hz
theorem mread_ok (hw : WR B w0 m h w) {p : Option Nat} {es : List Value} (hr : mread h p = some es) :
    (p = none ∧ es = []) ∨ ∃ k r, p = some k ∧ h.get k = some r ∧ r.live = false ∧ r.es = 0 ∧ r.cells = es ∧ MapAt w (m k).blk es := by
  unfold mread at hr
  split at hr
  · cases hr; exact .inl ⟨rfl, rfl⟩
  · rename_i k
    split at hr
    · rename_i r hg
      split at hr
      · rename_i hc
        cases hr
        exact .inr ⟨k, r, rfl, hg, hc.1, hc.2, rfl, (hw.mp k r hg hc.1 hc.2).2⟩
      · cases hr
    · cases hr
theorem mfind_find {s : ByteArray} : ∀ (E : List MapEntry) (i : Nat), (∀ e ∈ E, ∃ s, e.key = .string s) → Instr.findNow .string (.string s) E i = some (mfind s (E.map fun e => Value.tuple #[e.key, e.val]) i)
  | [], _, _ => rfl
  | e :: E, i, hE => by
    obtain ⟨s', hs⟩ := hE e (by simp)
    have ih := mfind_find (s := s) E (i + 1) (fun e he => hE e (by simp [he]))
    simp only [List.map_cons, mfind, keyOf, Instr.findNow, hs, Instr.sameNow]
    by_cases hb : (s == s') = true
    · simp [hb]
    · rw [Bool.not_eq_true] at hb
      simp [hb, ih]
theorem mfind_at {s : ByteArray} : ∀ (l : List Value) (i j : Nat) (v : Value), mfind s l i = some (j, v) → ∃ k x, j = i + k ∧ l[k]? = some x ∧ keyOf x = some (s, v)
  | [], _, _, _, hf => by cases hf
  | x :: l, i, j, v, hf => by
    unfold mfind at hf
    split at hf
    · rename_i s' u hk
      split at hf
      · rename_i hb
        cases hf
        exact ⟨0, x, by omega, rfl, by rw [hk, (bytes_beq _ _).1 hb]⟩
      · obtain ⟨k, y, h1, h2, h3⟩ := mfind_at l (i + 1) j v hf
        exact ⟨k + 1, y, by omega, by simpa using h2, h3⟩
    · cases hf
theorem lookup_run (hw : WR B w0 m h w) {t kt et : TypeId} {p : Option Nat} {s : ByteArray} {es : List Value} {z : Value} {ok : Bool} (ht : P.underlying t = some (.map kt et)) (hk : P.underlying kt = some .string) (hz : (P.info? et).bind (·.zero) = some z) (hr : mread h p = some es) :
    (Instr.lookup t (cT m (.map p)) (.string s) ok).run P w = .ok (match mfind s es 0 with | some (_, u) => if ok then .tuple #[u, .bool true] else u | none => if ok then .tuple #[z, .bool false] else z) w := by
  obtain ⟨i, hi, hz⟩ := Option.bind_eq_some_iff.1 hz
  have hck : ∀ e, (Instr.checkKey e (9999 + 1) kt (.string s)).run P w = .ok () w := fun e => run_checkKey (k := .string s) hk trivial e 9999
  rcases mread_ok hw hr with ⟨rfl, rfl⟩ | ⟨k, r, rfl, hg, -, -, -, E, c, hE, rfl, hs⟩
  · have hf := run_findKey (w := w) hk (show Instr.findNow .string (.string s) [] 0 = some none from rfl)
    simp [Instr.lookup, cT, cA, cv, run_underlying ht, hck, hf, mfind, zeroValue, typeInfo, hi, hz, Result.andThen]
  · have hf := run_findKey (w := w) hk (mfind_find E.toList 0 hs (s := s))
    have hg2 := Go.MapKept.run_getObj_map (P := P) hE
    simp only [Instr.lookup, cT, cA, cv, Sem.run_bind, run_underlying ht, Result.andThen]
    simp only [Sem.run_bind, Sem.run_pure, Result.andThen, hg2, hck, hf]
    cases hm : mfind s (E.toList.map fun e => Value.tuple #[e.key, e.val]) 0 <;> cases ok <;> simp [zeroValue, typeInfo, hi, hz, Result.andThen]
theorem update_run (hw : WR B w0 m h w) {t kt et : TypeId} {k : Nat} {s : ByteArray} {u : Value} {es : List Value} (ht : P.underlying t = some (.map kt et)) (hk : P.underlying kt = some .string) (hu : scal u = true) (hr : mread h (some k) = some es) :
    ∃ w1, (Instr.mapUpdate t (cT m (.map (some k))) (.string s) u).run P w = .ok () w1 ∧ WR B w0 m (h.put k ⟨mset s u es, 0, false⟩) w1 := by
  rcases mread_ok hw hr with ⟨h0, -⟩ | ⟨k', r, hkk, hg, hl, h0, -, E, c, hE, rfl, hs⟩
  · cases h0
  · cases hkk
    have hck : ∀ e, (Instr.checkKey e (9999 + 1) kt (.string s)).run P w = .ok () w := fun e => run_checkKey (k := .string s) hk trivial e 9999
    have hf := run_findKey (w := w) hk (mfind_find E.toList 0 hs (s := s))
    have hg2 := Go.MapKept.run_getObj_map (P := P) hE
    cases hm : mfind s (E.toList.map fun e => Value.tuple #[e.key, e.val]) 0 with
    | none =>
      refine ⟨_, ?_, hw.mput hg hl h0 (E := E.push ⟨.string s, u, c⟩) (c := c + 1) (by simp [mset, hm]) (fun e he => ?_)⟩
      · simp only [Instr.mapUpdate, cT, cA, cv, Sem.run_bind, run_underlying ht, Result.andThen]
        simp only [Sem.run_bind, Sem.run_pure, Result.andThen, hg2, hck, hf, hm, run_setObj_map _ hE]
      · simp only [Array.toList_push, List.mem_append, List.mem_singleton] at he
        rcases he with he | rfl
        · exact hs e he
        · exact ⟨s, rfl⟩
    | some q =>
      obtain ⟨i, v⟩ := q
      obtain ⟨i', x, e1, e2, e3⟩ := mfind_at _ _ _ _ hm
      obtain rfl : i = i' := by omega
      rw [List.getElem?_map] at e2
      obtain ⟨e, he, rfl⟩ := Option.map_eq_some_iff.1 e2
      obtain ⟨s', hs'⟩ := hs e (List.mem_of_getElem? he)
      have hkey : e.key = .string s := by
        rw [hs'] at e3 ⊢
        simp [keyOf] at e3
        rw [e3.1]
      rw [Array.getElem?_toList] at he
      refine ⟨_, ?_, hw.mput hg hl h0 (E := E.modify i fun e => { e with key := .string s, val := u }) (c := c) ?_ (fun e he => ?_)⟩
      · simp only [Instr.mapUpdate, cT, cA, cv, Sem.run_bind, run_underlying ht, Result.andThen]
        simp only [Sem.run_bind, Sem.run_pure, Result.andThen, hg2, hck, hf, hm, he, Option.map_some, Option.getD_some, hkey, run_keyThatStays (d := .string) (k := .string s) trivial, run_setObj_map _ hE]
      · simp only [mset, hm]
        apply List.ext_getElem?
        intro j
        simp only [List.getElem?_map, Array.getElem?_toList, Array.getElem?_modify, List.getElem?_set, List.length_map, Array.length_toList]
        by_cases hij : i = j
        · subst hij
          have hlt := (Array.getElem?_eq_some_iff.1 he).1
          simp [he, hlt]
        · simp [hij]
      · obtain ⟨j, hj⟩ := List.getElem?_of_mem he
        rw [Array.getElem?_toList, Array.getElem?_modify] at hj
        split at hj
        · obtain ⟨e', -, rfl⟩ := Option.map_eq_some_iff.1 hj
          exact ⟨s, rfl⟩
        · rw [← Array.getElem?_toList] at hj
          exact hs e (List.mem_of_getElem? hj)
end
end Go.Proofs.YteeanpfhngoobaaGreat.Xk
namespace Go.Proofs.YteeanpfhngoobaaGreat.Xk
open Go.RowKit

section
variable {m : Nat → MB} {tm : List Value} {a : Act} {P : Program} {h : HP} {w : World}
theorem bnd_ok (hf : FR m h.nb tm a) {x : Option Operand} {d k : Nat} (hb : bnd tm x d = some k) : (x = none ∧ k = d) ∨ ∃ y K, x = some y ∧ a.eval y = .int K k := by
  cases x with
  | none => simp only [bnd, Option.some.injEq] at hb; exact .inl ⟨rfl, hb.symm⟩
  | some y =>
    simp only [bnd] at hb
    split at hb
    · rename_i K n hy
      split at hb
      · rename_i h0
        cases hb
        refine .inr ⟨y, K, rfl, ?_⟩
        rw [(evl_eval hf hy).1]
        show Value.int K n = .int K n.toNat
        rw [Int.toNat_of_nonneg h0]
      · cases hb
    · cases hb
theorem sliceBounds_ok (hf : FR m h.nb tm a) {lo hi : Option Operand} {len c l k : Nat} (hl : bnd tm lo 0 = some l) (hk : bnd tm hi len = some k) (h1 : l ≤ k) (h2 : k ≤ c) :
    (Instr.sliceBounds true len c (lo.map a.eval) (hi.map a.eval) none).run P w = .ok (l, k, c) w := by
  have e1 : (0 : Int) ≤ l ∧ (l : Int) ≤ k := by omega
  have e2 : (0 : Int) ≤ k ∧ (k : Int) ≤ c := by omega
  rcases bnd_ok hf hl with ⟨rfl, rfl⟩ | ⟨y, K, rfl, hy⟩ <;> rcases bnd_ok hf hk with ⟨rfl, rfl⟩ | ⟨y2, K2, rfl, hy2⟩ <;>
    simp_all [Instr.sliceBounds, Instr.sliceBound, asIntOf, Result.andThen]
theorem isLen_spec {c : Call} {x : Operand} {t : TypeId} (hc : isLen c = some (x, t)) : c.callee = .builtin .len ∧ c.args = #[x] ∧ c.argTypes = #[t] := by
  unfold isLen at hc
  split at hc
  · rename_i h1 h2 h3
    simp only [Option.some.injEq, Prod.mk.injEq] at hc
    obtain ⟨rfl, rfl⟩ := hc
    exact ⟨h1, Array.ext' (by simpa using h2), Array.ext' (by simpa using h3)⟩
  · cases hc
set_option maxHeartbeats 1600000 in
theorem lop_ok {o : Oper} {v : Value} {D : List (Nat × Nat)} (hh : HR m h) (hf : FR m h.nb tm a) (hl : lop P tm h o = some (v, D)) :
    okT m h.nb v ∧ (loadK o = false → D = []) ∧ ∀ w, Looks m h w D → (execOp a.eval o).run P w = .ok (.value (cT m v)) w := by
  have lp : ∀ {o : Oper}, lpure P tm o = some (v, D) → okT m h.nb v ∧ (loadK o = false → D = []) ∧ ∀ w, Looks m h w D → (execOp a.eval o).run P w = .ok (.value (cT m v)) w := fun hp =>
    let ⟨h1, h2, h3⟩ := lpure_ok hf hp
    ⟨h2, fun _ => h1, fun w _ => h3 w⟩
  unfold lop at hl
  split at hl
  · -- move
    rename_i x ho
    split at hl
    · rename_i u hx
      cases hl
      obtain ⟨e, k⟩ := evl_eval hf hx
      exact ⟨k, fun _ => rfl, fun w _ => by simp [execOp, ho, e]⟩
    · cases hl
  · rename_i x ho
    split at hl
    · rename_i u hx
      cases hl
      obtain ⟨e, k⟩ := evl_eval hf hx
      exact ⟨k, fun _ => rfl, fun w _ => by simp [execOp, ho, e]⟩
    · cases hl
  · -- pick
    rename_i c x y ho
    split at hl
    · rename_i t u u2 hc hx hy
      cases hl
      obtain ⟨ec, -⟩ := evl_eval hf hc
      obtain ⟨ex, kx⟩ := evl_eval hf hx
      obtain ⟨ey, ky⟩ := evl_eval hf hy
      rw [cT_bool] at ec
      refine ⟨by cases t <;> assumption, fun _ => rfl, fun w _ => ?_⟩
      cases t <;> simp [execOp, ho, ec, ex, ey, asBool, Result.andThen]
    · cases hl
  · -- fieldAddr
    rename_i s x f ho
    split at hl
    · rename_i fs b off hs hx
      split at hl
      · rename_i fd hfd
        split at hl
        · rename_i i hi
          split at hl
          · cases hl
          · rename_i hsz
            cases hl
            obtain ⟨ex, kx⟩ := evl_eval hf hx
            refine ⟨kx, fun _ => rfl, fun w _ => ?_⟩
            rw [cT_ptr] at ex ⊢
            simp [execOp, ho, ex, Instr.fieldAt, run_underlying hs, hfd, Instr.sureAddr, fieldPlace, sizeOf, typeInfo, hi, hsz, ca, Addr.add_lit, Result.andThen, Nat.add_assoc]
        · cases hl
      · cases hl
    · cases hl
  · -- load
    rename_i t x ho
    split at hl
    · rename_i d i b off hu hi hx
      obtain ⟨ex, kx⟩ := evl_eval hf hx
      obtain ⟨k1, k2⟩ := loadVar_okA hh (b := b) (o := off) (n := i.size) hl
      refine ⟨k1, fun h0 => by simp [loadK, ho] at h0, fun w hL => ?_⟩
      rw [cT_ptr] at ex
      have := loadVar_ok (P := P) (w := w) hh hu hi hl hL
      simp [execOp, ho, ex, Instr.loadAt, Instr.sureAddr, this, Result.andThen, k2]
    · cases hl
  · -- nilCheck
    rename_i x ho
    split at hl
    · rename_i b hx
      cases hl
      obtain ⟨ex, kx⟩ := evl_eval hf hx
      refine ⟨kx, fun _ => rfl, fun w _ => ?_⟩
      obtain ⟨b, o, sp⟩ := b
      rw [cT_ptr] at ex ⊢
      simp [execOp, ho, ex]
    · cases hl
  · -- field
    rename_i t x f ho
    split at hl
    · rename_i fs cs ht hx
      split at hl
      · rename_i fd hfd
        split at hl
        · rename_i d i hu hi
          obtain ⟨ex, kx⟩ := evl_eval hf hx
          rw [cT_agg] at ex
          split at hl
          · rename_i hd
            cases hl
            refine ⟨fun v hv => kx v ?_, fun _ => rfl, fun w _ => ?_⟩
            · rw [Array.toList_extract] at hv
              exact List.mem_of_mem_drop (List.mem_of_mem_take hv)
            · simp [execOp, ho, ex, Instr.field, run_underlying ht, hfd, asAgg, part, run_isAgg hu, hd, sizeOf, typeInfo, hi, Result.andThen, cT_agg]
          · rename_i hd
            split at hl
            · rename_i u hcs
              split at hl
              · rename_i hcl
                cases hl
                have hmem : v ∈ cs.toList := by
                  obtain ⟨hlt, rfl⟩ := Array.getElem?_eq_some_iff.1 hcs
                  simp
                have hkc := kx v hmem
                obtain ⟨e1, e2, e3⟩ := isCell_cA (m := m) (nb := h.nb) hcl
                refine ⟨e3.2 hkc, fun _ => rfl, fun w _ => ?_⟩
                simp [execOp, ho, ex, Instr.field, run_underlying ht, hfd, asAgg, part, run_isAgg hu, hd, hcs, Result.andThen, e1]
              · cases hl
            · cases hl
        · cases hl
      · cases hl
    · cases hl
  · -- extract
    rename_i x i ho
    split at hl
    · rename_i vs hx
      split at hl
      · rename_i u hvs
        split at hl
        · rename_i hn
          cases hl
          obtain ⟨ex, kx⟩ := evl_eval hf hx
          rw [cT_tup] at ex
          have hmem : v ∈ vs.toList := by
            obtain ⟨hlt, rfl⟩ := Array.getElem?_eq_some_iff.1 hvs
            simp
          have hk := kx v hmem
          obtain ⟨e1, e2⟩ := okT_cell m h.nb (v := v) (fun cs e => by rw [e] at hn; cases hn)
          refine ⟨by rw [e1]; exact hk, fun _ => rfl, fun w _ => ?_⟩
          simp [execOp, ho, ex, Instr.extract, hvs, e2, Result.andThen]
        · cases hl
      · cases hl
    · cases hl
  · -- indexAddr
    rename_i t x i ho
    split at hl
    · rename_i e b off len cap K j hu hx hi
      split at hl
      · rename_i inf hinf
        split at hl
        · rename_i hj
          cases hl
          obtain ⟨ex, kx⟩ := evl_eval hf hx
          obtain ⟨ei, -⟩ := evl_eval hf hi
          rw [cT_sl] at ex
          rw [cT_int] at ei
          refine ⟨⟨rfl, kx.1⟩, fun _ => rfl, fun w _ => ?_⟩
          rw [cT_ptr]
          simp [execOp, ho, ex, ei, Instr.indexAt, cs0, asIntOf, run_underlying hu, hj, sizeOf, typeInfo, hinf, ca, Addr.add_lit, Result.andThen, Nat.add_assoc]
        · cases hl
      · cases hl
    · rename_i n e b off K j hu hx hi
      split at hl
      · rename_i inf hinf
        split at hl
        · rename_i hj
          cases hl
          obtain ⟨ex, kx⟩ := evl_eval hf hx
          obtain ⟨ei, -⟩ := evl_eval hf hi
          rw [cT_ptr] at ex
          rw [cT_int] at ei
          obtain ⟨hj1, hj2, hj3⟩ := hj
          refine ⟨kx, fun _ => rfl, fun w _ => ?_⟩
          rw [cT_ptr]
          simp [execOp, ho, ex, ei, Instr.indexAt, asIntOf, run_underlying hu, hj1, hj2, Instr.sureAddr, sizeOf, typeInfo, hinf, ca, Addr.add_lit, Result.andThen, Nat.add_assoc]
        · cases hl
      · cases hl
    · cases hl
  · -- binOp
    rename_i op t x y yt ho
    split at hl
    · rename_i z hz
      cases hl
      obtain ⟨a', ha, hz⟩ := Option.bind_eq_some_iff.1 hz
      obtain ⟨b', hb, hz⟩ := Option.bind_eq_some_iff.1 hz
      obtain ⟨ea, -⟩ := evl_eval hf ha
      obtain ⟨eb, -⟩ := evl_eval hf hb
      refine ⟨trivial, fun _ => rfl, fun w _ => ?_⟩
      have hr := nilEq_run (m := m) (x := x) (y := y) hz w
      simp only [execOp, ho, ea, eb]
      rw [Sem.run_bind, hr]
      rfl
    · exact lp hl
  · -- slice
    rename_i t x lo hi mx ho
    split at hl
    · rename_i e p len cap hu hx
      split at hl
      · rename_i inf l k hinf hlo hhi
        split at hl
        · rename_i u hs
          cases hl
          obtain ⟨ex, kx⟩ := evl_eval hf hx
          obtain ⟨k1, q, c, e1, e2, e3, e4⟩ := slc_ok hh kx hs
          refine ⟨k1, fun _ => rfl, fun w _ => ?_⟩
          rw [e1] at ex
          rw [e4]
          have sb := sliceBounds_ok (P := P) (w := w) hf hlo hhi e3 e2
          simp [execOp, ho, ex, Instr.sliceAt, Instr.slice, run_underlying hu, sb, sizeOf, typeInfo, hinf, Result.andThen]
        · cases hl
      · cases hl
    · exact lp hl
  · -- build
    rename_i t ps ho
    split at hl
    · rename_i vs hps hz
      split at hl
      · rename_i cs hp
        split at hl
        · rename_i hall
          cases hl
          obtain ⟨e1, e2⟩ := evps_ok hf _ _ hps
          have hb := fun w => build_ok (m := m) (P := P) (w := w) (t := t) (ps := vs.toArray) (cs := cs) hz (fun p hp => (e2 p (by simpa using hp)).2) (pur_run hp w)
          refine ⟨fun u hu => ?_, fun _ => rfl, fun w _ => ?_⟩
          · rcases (hb default).2 u hu with h1 | ⟨p, hp2, h1⟩
            · exact (cv_flat0 h1).2.1
            · obtain ⟨k1, k2⟩ := e2 p (by simpa using hp2)
              exact cells_ok k1 k2 h1
          · have e3 : (ps.map fun p => (p.1, a.eval p.2)) = vs.toArray.map fun p => (p.1, cT m p.2) := by
              apply Array.ext'
              rw [Array.toList_map, Array.toList_map]
              exact e1
            have := (hb w).1
            rw [← e3] at this
            simp [execOp, ho, this, Result.andThen, cT_agg]
        · cases hl
      · cases hl
    · cases hl
  · -- len
    rename_i c ho
    split at hl
    · rename_i x t hc
      split at hl
      · rename_i p len cap hx
        split at hl
        · rename_i e hu
          cases hl
          obtain ⟨ex, kx⟩ := evl_eval hf hx
          obtain ⟨c1, c2, c3⟩ := isLen_spec hc
          have hq : ∃ q c', cT m (.slice p len cap) = .slice q len c' := by
            cases p with
            | none => exact ⟨_, _, rfl⟩
            | some b =>
              obtain ⟨b, o, sp⟩ := b
              rw [cT_sl]
              unfold cs0
              split
              · exact ⟨_, _, rfl⟩
              · split <;> exact ⟨_, _, rfl⟩
          obtain ⟨q, c', eq⟩ := hq
          rw [eq] at ex
          refine ⟨trivial, fun _ => rfl, fun w _ => ?_⟩
          simp [execOp, ho, resolve, c1, c2, c3, ex, invoke, builtin, Builtin.len_, run_underlying hu, goInt, Result.andThen, cT_int]
        · cases hl
      · exact lp hl
    · split at hl
      · exact lp hl
      · cases hl
  · exact lp hl
end
end Go.Proofs.YteeanpfhngoobaaGreat.Xk
