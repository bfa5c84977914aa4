/- Two timers held against each other. -/
import Derived.Test.YtlnblhajcbmmkaaTKnow
namespace Go.Proofs.Ytlnblhajcbmmkaa
open Go.RowKit

theorem key_list {a b : ByteArray} : a.toList = b.toList ↔ a = b := by rw [← cmpS_eq, cmpS_same]

set_option maxRecDepth 100000 in
theorem eql_tm (a b : Tm) (W : World) : (binOp .eql 35 (tv a) (tv b)).run Try.prog W = .ok (.bool (decide (a = b))) W := by
  by_cases h1 : a.at_ = b.at_
  · by_cases h2 : a.key = b.key
    · by_cases h3 : a.start = b.start
      · by_cases h4 : a.stop = b.stop
        · have e : a = b := by cases a; cases b; simp_all
          subst e
          rw [decide_eq_true rfl]
          go_simp
        · have hd : decide (a = b) = false := decide_eq_false (fun e => h4 (by rw [e]))
          rw [hd]
          have k2 : (a.key.toList == b.key.toList) = true := by rw [beq_iff_eq]; exact key_list.2 h2
          have k4 : (a.stop == b.stop) = false := by rw [beq_eq_false_iff_ne]; exact h4
          go_simp
      · have hd : decide (a = b) = false := decide_eq_false (fun e => h3 (by rw [e]))
        rw [hd]
        have k2 : (a.key.toList == b.key.toList) = true := by rw [beq_iff_eq]; exact key_list.2 h2
        have k3 : (a.start == b.start) = false := by rw [beq_eq_false_iff_ne]; exact h3
        go_simp
    · have hd : decide (a = b) = false := decide_eq_false (fun e => h2 (by rw [e]))
      rw [hd]
      have k2 : (a.key.toList == b.key.toList) = false := by rw [beq_eq_false_iff_ne]; exact fun e => h2 (key_list.1 e)
      go_simp
  · have hd : decide (a = b) = false := decide_eq_false (fun e => h1 (by rw [e]))
    rw [hd]
    have k1 : (a.at_ == b.at_) = false := by rw [beq_eq_false_iff_ne]; exact h1
    go_simp

set_option maxRecDepth 100000 in
theorem neq_tm (a b : Tm) (W : World) : (binOp .neq 35 (tv a) (tv b)).run Try.prog W = .ok (.bool (!decide (a = b))) W := by
  by_cases h1 : a.at_ = b.at_
  · by_cases h2 : a.key = b.key
    · by_cases h3 : a.start = b.start
      · by_cases h4 : a.stop = b.stop
        · have e : a = b := by cases a; cases b; simp_all
          subst e
          rw [decide_eq_true rfl]
          go_simp
        · have hd : decide (a = b) = false := decide_eq_false (fun e => h4 (by rw [e]))
          rw [hd]
          have k2 : (a.key.toList == b.key.toList) = true := by rw [beq_iff_eq]; exact key_list.2 h2
          have k4 : (a.stop == b.stop) = false := by rw [beq_eq_false_iff_ne]; exact h4
          go_simp
      · have hd : decide (a = b) = false := decide_eq_false (fun e => h3 (by rw [e]))
        rw [hd]
        have k2 : (a.key.toList == b.key.toList) = true := by rw [beq_iff_eq]; exact key_list.2 h2
        have k3 : (a.start == b.start) = false := by rw [beq_eq_false_iff_ne]; exact h3
        go_simp
    · have hd : decide (a = b) = false := decide_eq_false (fun e => h2 (by rw [e]))
      rw [hd]
      have k2 : (a.key.toList == b.key.toList) = false := by rw [beq_eq_false_iff_ne]; exact fun e => h2 (key_list.1 e)
      go_simp
  · have hd : decide (a = b) = false := decide_eq_false (fun e => h1 (by rw [e]))
    rw [hd]
    have k1 : (a.at_ == b.at_) = false := by rw [beq_eq_false_iff_ne]; exact h1
    go_simp

theorem exec_bin {ρ : Operand → Value} {o : Oper} {op : BinOp} {s x : Operand} {t r : TypeId} {w : World} {v : Value} (ho : o.op = .binOp op t s x r) (hg : (eqGuard op t s x (ρ s) (ρ x)).run Try.prog w = .ok () w) (h : (binOp op t (ρ s) (ρ x)).run Try.prog w = .ok v w) : (execOp ρ o).run Try.prog w = .ok (.value v) w := by
  unfold execOp
  simp only [ho, Sem.run_bind, hg, h, Result.andThen_ok, Sem.run_pure]

end Go.Proofs.Ytlnblhajcbmmkaa
