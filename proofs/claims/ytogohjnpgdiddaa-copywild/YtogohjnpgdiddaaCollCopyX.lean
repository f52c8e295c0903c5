/- For the cut around a block. -/
import Derived.Test.YtogohjnpgdiddaaCollAllM
import Derived.Deep.CutBlock
import Derived.Deep.DeepCutAuto
import Derived.Deep.QuietTactic
import Derived.BigQuiet
