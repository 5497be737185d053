/- How a number is written in a base, in plain terms. -/
import Derived.Test.YtpffegkckejpiaaScp
import Derived.Laws.Concat
set_option linter.unusedVariables false
set_option linter.unusedSimpArgs false
namespace Go.Proofs.Ytpffegkckejpiaa
open Go.RowKit

def sixteen : List UInt8 := [48, 49, 50, 51, 52, 53, 54, 55, 56, 57, 97, 98, 99, 100, 101, 102]
/-- The sign of a digit. -/
def chr (d : Nat) : UInt8 := sixteen[d]?.getD 48
theorem cases16 {P : Nat → Prop} (h : ∀ d : Fin 16, P d.1) (d : Nat) (hd : d < 16) : P d := h ⟨d, hd⟩
theorem chr_hex (d : Nat) (h : d < 16) : hexP ((chr d).toNat : Int) = (d : Int) := cases16 (P := fun d => hexP ((chr d).toNat : Int) = (d : Int)) (by decide) d h
theorem one_hex (d : Nat) (h : d < 16) : (⟨#[48, 49, 50, 51, 52, 53, 54, 55, 56, 57, 97, 98, 99, 100, 101, 102]⟩ : ByteArray).extract d (d + 1) = ⟨#[chr d]⟩ := by
  have hd : d = 0 ∨ d = 1 ∨ d = 2 ∨ d = 3 ∨ d = 4 ∨ d = 5 ∨ d = 6 ∨ d = 7 ∨ d = 8 ∨ d = 9 ∨ d = 10 ∨ d = 11 ∨ d = 12 ∨ d = 13 ∨ d = 14 ∨ d = 15 := by omega
  rcases hd with rfl | rfl | rfl | rfl | rfl | rfl | rfl | rfl | rfl | rfl | rfl | rfl | rfl | rfl | rfl | rfl <;> rfl
theorem one_oct (d : Nat) (h : d < 8) : (⟨#[48, 49, 50, 51, 52, 53, 54, 55]⟩ : ByteArray).extract d (d + 1) = ⟨#[chr d]⟩ := by
  have hd : d = 0 ∨ d = 1 ∨ d = 2 ∨ d = 3 ∨ d = 4 ∨ d = 5 ∨ d = 6 ∨ d = 7 := by omega
  rcases hd with rfl | rfl | rfl | rfl | rfl | rfl | rfl | rfl <;> rfl
theorem one_size (c : UInt8) : (⟨#[c]⟩ : ByteArray).size = 1 := rfl
/-- The text of digits, the least first. -/
def sB (ds : List Nat) : ByteArray := ⟨(ds.reverse.map chr).toArray⟩
theorem sB_nil : sB [] = ⟨#[]⟩ := rfl
theorem sB_list (ds : List Nat) : (sB ds).data.toList = ds.reverse.map chr := rfl
theorem sB_size (ds : List Nat) : (sB ds).size = ds.length := by simp [sB, ByteArray.size]
theorem sB_snoc (ds : List Nat) (d : Nat) : sB (ds ++ [d]) = ⟨#[chr d]⟩ ++ sB ds := by
  apply ByteArray.ext
  simp [sB]
theorem sB_ok {ds : List Nat} {b : Nat} (hb : b = 8 ∨ b = 10 ∨ b = 16) (hd : Dg b ds) (h0 : 0 < ds.length) (h1 : ds.length ≤ 5000) : okS (sB ds) b = true := by
  refine okS_iff.2 ⟨baseP_iff.2 (by omega), by rw [sB_size]; exact h0, by rw [sB_size]; exact h1, ?_⟩
  rw [sB_list, List.all_eq_true]
  intro c hc
  obtain ⟨d, hd', rfl⟩ := List.mem_map.1 hc
  have := hd d (List.mem_reverse.1 hd')
  rw [okD_iff, chr_hex d (by omega)]
  omega
theorem sB_lsd {ds : List Nat} (hd : Dg 16 ds) : lsd (sB ds) = ds := by
  unfold lsd msd
  rw [sB_list, List.map_map, ← List.map_reverse, List.reverse_reverse]
  have : ∀ d, d ∈ ds → (hexN ∘ chr) d = d := by
    intro d hd'
    have := chr_hex d (hd d hd')
    simp only [Function.comp, hexN, this]
    omega
  rw [List.map_congr_left this, List.map_id']
theorem val_zeros (b z : Nat) : val b (List.replicate z 0) = 0 := by
  induction z with
  | zero => rfl
  | succ z ih => rw [List.replicate_succ, val, ih]; simp
theorem zeros_num {ds : List Nat} {b n z : Nat} (hb : b = 8 ∨ b = 10 ∨ b = 16) (hd : Dg b ds) (hv : val b ds = n) : numB (sB (ds ++ List.replicate z 0)) b = n := by
  have h1 : Dg b (ds ++ List.replicate z 0) := hd.append (fun d h => by rw [(List.mem_replicate.1 h).2]; omega)
  unfold numB
  rw [sB_lsd (fun d h => by have := h1 d h; omega), val_append, val_zeros, hv]
  simp
theorem zeros_dg {ds : List Nat} {b z : Nat} (hb : 1 ≤ b) (hd : Dg b ds) : Dg b (ds ++ List.replicate z 0) := hd.append (fun d h => by rw [(List.mem_replicate.1 h).2]; omega)

/-- While a number is written: the digits so far, and what is left. -/
def Bst (b n : Nat) (ds : List Nat) (k : Nat) : Prop := Dg b ds ∧ val b ds + b ^ ds.length * k = n ∧ ∃ j, k < 2 ^ j ∧ ds.length + j ≤ 64
theorem Bst.start (b n : Nat) (h : n < 2 ^ 63) : Bst b n [] n := ⟨Dg.nil _, by simp [val], 63, h, by simp⟩
theorem Bst.step {b n k : Nat} {ds : List Nat} (hb : 2 ≤ b) (h : Bst b n ds k) (hg : 0 < k ∨ ds = []) : Bst b n (ds ++ [k % b]) (k / b) := by
  obtain ⟨a1, a2, j, a3, a4⟩ := h
  refine ⟨a1.snoc (Nat.mod_lt _ (by omega)), ?_, ?_⟩
  · rw [val_snoc, List.length_append, List.length_singleton, Nat.pow_succ]
    have h3 := Nat.mod_add_div k b
    have h4 : b ^ ds.length * (k % b) + b ^ ds.length * b * (k / b) = b ^ ds.length * k := by rw [Nat.mul_assoc, ← Nat.mul_add, h3]
    omega
  · by_cases hk : k = 0
    · refine ⟨0, by subst hk; simp, ?_⟩
      have : ds = [] := by rcases hg with h | h; omega; exact h
      subst this
      simp
    · cases j with
      | zero => simp at a3; omega
      | succ j =>
        refine ⟨j, ?_, by simp; omega⟩
        have h2 : k / b ≤ k / 2 := Nat.div_le_div_left hb (by omega)
        rw [Nat.pow_succ] at a3
        omega
theorem Bst.len {b n k : Nat} {ds : List Nat} (h : Bst b n ds k) : ds.length ≤ 64 := by obtain ⟨-, -, j, -, h⟩ := h; omega
theorem Bst.end {b n : Nat} {ds : List Nat} (h : Bst b n ds 0) : val b ds = n := by have := h.2.1; simpa using this

def sEmp : Value → Nat
  | .string s => if s.size = 0 then 1 else 0
  | _ => 0
theorem sEmp_nil : sEmp (.string ⟨#[]⟩) = 1 := rfl
theorem sEmp_snoc (ds : List Nat) (d : Nat) : sEmp (.string (sB (ds ++ [d]))) = 0 := by unfold sEmp; simp [sB_size]
theorem sB_not {ds : List Nat} (h : ds ≠ []) : (sB ds).toList.isEmpty = false := by
  rw [ByteArray.toList_eq, sB_list]
  cases ds with
  | nil => exact absurd rfl h
  | cons a t => simp

theorem intV_inj {s : ByteArray} {v : Value} {b : Bool} (h : intV s = .tuple #[v, .bool b]) : intN s = v ∧ intOk s = b := by
  rw [intV_eq] at h
  have e := Value.tuple.inj h
  have e1 : (#[intN s, Value.bool (intOk s)])[0]? = (#[v, Value.bool b])[0]? := by rw [e]
  have e2 : (#[intN s, Value.bool (intOk s)])[1]? = (#[v, Value.bool b])[1]? := by rw [e]
  have e3 : Value.bool (intOk s) = Value.bool b := Option.some.inj e2
  exact ⟨Option.some.inj e1, Value.bool.inj e3⟩
theorem fltV_inj {s : ByteArray} {v : Value} {b : Bool} (h : floatV s (kE s) = .tuple #[v, .bool b]) : fltN s = v ∧ fltOk s = b := by
  rw [fltV_eq] at h
  have e := Value.tuple.inj h
  have e1 : (#[fltN s, Value.bool (fltOk s)])[0]? = (#[v, Value.bool b])[0]? := by rw [e]
  have e2 : (#[fltN s, Value.bool (fltOk s)])[1]? = (#[v, Value.bool b])[1]? := by rw [e]
  have e3 : Value.bool (fltOk s) = Value.bool b := Option.some.inj e2
  exact ⟨Option.some.inj e1, Value.bool.inj e3⟩
/-- A sign and digits. -/
theorem int_sgn {s : ByteArray} {sg : List UInt8} {b : Bool} {n : Nat} (h : SgOf sg b) (hl : s.data.toList = sg ++ (decB n).data.toList) (h1 : (decB n).size ≤ 5000) :
    intN s = numV (b && decide (n ≠ 0)) n 0 ∧ intOk s = true := by
  have hd := dec_isD n
  have h0 := dec_some n
  have hh := dig_head hd
  obtain ⟨eb, ec⟩ := nice_body h hl ⟨hh.1, hh.2.1⟩ (by
    rw [List.all_append, nice_dig hd]
    rcases h with ⟨rfl, -⟩ | ⟨rfl, -⟩ | ⟨rfl, -⟩ <;> decide)
  obtain ⟨en, -⟩ := sg_split h hl ⟨hh.1, hh.2.1⟩
  apply intV_inj
  unfold intV
  rw [eb, ec, en, Lib.mk_data, if_pos (show okS (decB n) ((10 : Nat) : Int) = true from dec_ok h1)]
  rw [show numB (decB n) 10 = n from valD_dec n]
theorem flt_sgn {s : ByteArray} {sg : List UInt8} {b : Bool} {n : Nat} (h : SgOf sg b) (hl : s.data.toList = sg ++ (decB n).data.toList) (h1 : (decB n).size ≤ 5000) :
    fltN s = numV b n 0 ∧ fltOk s = true := by
  have hd := dec_isD n
  have hh := dig_head hd
  apply fltV_inj
  rw [float_of h hl hh, flt_w (t := (⟨(decB n).data.toList.toArray⟩ : ByteArray)) hd]
  show fltV b (numF (decB n).data.toList [] 0) = _
  unfold numF
  rw [if_pos (show okL ((decB n).data.toList ++ []) = true by rw [List.append_nil, ← okS_okL]; exact dec_ok h1), List.append_nil, valD_dec]
  rfl
theorem pre_two (a b : UInt8) (l : List UInt8) : Lib.hasPrefix (a :: b :: l) [a, b] = true := by
  unfold Lib.hasPrefix
  simp [List.isPrefixOf]
theorem two_list (a b : UInt8) (x : ByteArray) : ((⟨#[a, b]⟩ : ByteArray) ++ x).data.toList = a :: b :: x.data.toList := by simp
theorem two_tail {s x : ByteArray} {a b : UInt8} (h : s.data.toList = a :: b :: x.data.toList) : tail2 s = x := by
  have := ext_tl (t := s) (l := [a]) (c := b) (r := x.data.toList) h
  rw [Lib.mk_data] at this
  exact this
theorem int_oct {ds : List Nat} {n : Nat} (hd : Dg 8 ds) (hv : val 8 ds = n) (h0 : 0 < ds.length) (h1 : ds.length ≤ 5000) :
    intN ((⟨#[48, 111]⟩ : ByteArray) ++ sB ds) = numV false n 0 ∧ intOk ((⟨#[48, 111]⟩ : ByteArray) ++ sB ds) = true := by
  have hl := two_list 48 111 (sB ds)
  generalize (⟨#[48, 111]⟩ : ByteArray) ++ sB ds = s at hl ⊢
  have p1 : preO s = true := by unfold preO; rw [hl]; exact pre_two _ _ _
  have en : negB s = false := by unfold negB; rw [hl]; rfl
  apply intV_inj
  have eb : bodyOf s = sB ds := by
    unfold bodyOf
    simp [p1, two_tail hl]
  have ec : baseOf s = 8 := by
    unfold baseOf
    simp [p1]
  unfold intV
  rw [eb, ec, if_pos (show okS (sB ds) ((8 : Nat) : Int) = true from sB_ok (by omega) hd h0 h1), en]
  rw [show numB (sB ds) 8 = n from by unfold numB; rw [sB_lsd (fun d h => by have := hd d h; omega)]; exact hv]
  rfl
theorem int_hex {ds : List Nat} {n : Nat} (hd : Dg 16 ds) (hv : val 16 ds = n) (h0 : 0 < ds.length) (h1 : ds.length ≤ 5000) :
    intN ((⟨#[48, 120]⟩ : ByteArray) ++ sB ds) = numV false n 0 ∧ intOk ((⟨#[48, 120]⟩ : ByteArray) ++ sB ds) = true := by
  have hl := two_list 48 120 (sB ds)
  generalize (⟨#[48, 120]⟩ : ByteArray) ++ sB ds = s at hl ⊢
  have p1 : preO s = false := by unfold preO; rw [hl]; unfold Lib.hasPrefix; simp [List.isPrefixOf]
  have p2 : preX s = true := by unfold preX; rw [hl]; exact pre_two _ _ _
  have en : negB s = false := by unfold negB; rw [hl]; rfl
  apply intV_inj
  have eb : bodyOf s = sB ds := by
    unfold bodyOf
    simp [p1, p2, two_tail hl]
  have ec : baseOf s = 16 := by
    unfold baseOf
    simp [p1, p2]
  unfold intV
  rw [eb, ec, if_pos (show okS (sB ds) ((16 : Nat) : Int) = true from sB_ok (by omega) hd h0 h1), en]
  rw [show numB (sB ds) 16 = n from by unfold numB; rw [sB_lsd hd]; exact hv]
  rfl
theorem numV_DE (n : Nat) : ∃ D E, ∀ b, numV b n 0 = .agg #[.bool b, .string D, .int .i64 E, .int .i64 0] := ⟨_, _, fun b => numV_Z b n⟩
end Go.Proofs.Ytpffegkckejpiaa
