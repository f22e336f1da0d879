/- Arguments: integers, lists of integers, configurations. -/
import Derived.Test.YtnedifcjenlcjaaKArg
